/- The functions of the seat, as plain functions, and what their calls do. Printed by a program of mine; checked here. -/
import Derived.Test.YtpnjnnhedadjgaaDoorLfW
import Derived.Test.YtpnjnnhedadjgaaDoorChecked
import Derived.KernelRfl
set_option linter.all false
set_option maxRecDepth 100000
namespace Go.Proofs.YtpnjnnhedadjgaaDoorLf
open Go Go.Lift

noncomputable def ty3 : TyI := ⟨(Go.TypeDesc.int Go.IntKind.i64), 1, 8, (.int .i64), (0 : Int), false⟩

theorem ty3_ok : TyOk Go.Proofs.Tryd.prog 3 ty3 := TyOk.of (by kernel_rfl) (by kernel_rfl) (by kernel_rfl) (by kernel_rfl)

noncomputable def ty4 : TyI := ⟨Go.TypeDesc.bool, 1, 1, .bool, false, false⟩

theorem ty4_ok : TyOk Go.Proofs.Tryd.prog 4 ty4 := TyOk.of (by kernel_rfl) (by kernel_rfl) (by kernel_rfl) (by kernel_rfl)

noncomputable def ty5 : TyI := ⟨(Go.TypeDesc.int Go.IntKind.u8), 1, 1, (.int .u8), (0 : Int), false⟩

theorem ty5_ok : TyOk Go.Proofs.Tryd.prog 5 ty5 := TyOk.of (by kernel_rfl) (by kernel_rfl) (by kernel_rfl) (by kernel_rfl)

noncomputable def ty9 : TyI := ⟨Go.TypeDesc.string, 1, 16, .str, ([] : List UInt8), false⟩

theorem ty9_ok : TyOk Go.Proofs.Tryd.prog 9 ty9 := TyOk.of (by kernel_rfl) (by kernel_rfl) (by kernel_rfl) (by kernel_rfl)

noncomputable def ty21 : TyI := ⟨(Go.TypeDesc.int Go.IntKind.i32), 1, 4, (.int .i32), (0 : Int), false⟩

theorem ty21_ok : TyOk Go.Proofs.Tryd.prog 21 ty21 := TyOk.of (by kernel_rfl) (by kernel_rfl) (by kernel_rfl) (by kernel_rfl)

noncomputable def ty26 : TyI := ⟨(Go.TypeDesc.int Go.IntKind.i64), 1, 8, (.int .i64), (0 : Int), false⟩

theorem ty26_ok : TyOk Go.Proofs.Tryd.prog 26 ty26 := TyOk.of (by kernel_rfl) (by kernel_rfl) (by kernel_rfl) (by kernel_rfl)

noncomputable def ty28 : TyI := ⟨(Go.TypeDesc.struct (List.toArray ([(Go.Field.mk "E" 26 0 false "" "" 0), (Go.Field.mk "At" 3 1 false "" "" 8)] : List Go.Field))), 2, 16, (.pair (.int .i64) (.pair (.int .i64) .unit)), ((0 : Int), (0 : Int), ()), true⟩

theorem ty28_ok : TyOk Go.Proofs.Tryd.prog 28 ty28 := TyOk.of (by kernel_rfl) (by kernel_rfl) (by kernel_rfl) (by kernel_rfl)

noncomputable def ty48 : TyI := ⟨(Go.TypeDesc.slice 5), 1, 24, (.sl (.int .u8)), ([] : List Int), false⟩

theorem ty48_ok : TyOk Go.Proofs.Tryd.prog 48 ty48 := TyOk.of (by kernel_rfl) (by kernel_rfl) (by kernel_rfl) (by kernel_rfl)

noncomputable def ty50 : TyI := ⟨(Go.TypeDesc.int Go.IntKind.u64), 1, 8, (.int .u64), (0 : Int), false⟩

theorem ty50_ok : TyOk Go.Proofs.Tryd.prog 50 ty50 := TyOk.of (by kernel_rfl) (by kernel_rfl) (by kernel_rfl) (by kernel_rfl)

noncomputable def ty63 : TyI := ⟨(Go.TypeDesc.array 256 5), 256, 256, (.arr 256 (.int .u8)), ([(0 : Int), (0 : Int), (0 : Int), (0 : Int), (0 : Int), (0 : Int), (0 : Int), (0 : Int), (0 : Int), (0 : Int), (0 : Int), (0 : Int), (0 : Int), (0 : Int), (0 : Int), (0 : Int), (0 : Int), (0 : Int), (0 : Int), (0 : Int), (0 : Int), (0 : Int), (0 : Int), (0 : Int), (0 : Int), (0 : Int), (0 : Int), (0 : Int), (0 : Int), (0 : Int), (0 : Int), (0 : Int), (0 : Int), (0 : Int), (0 : Int), (0 : Int), (0 : Int), (0 : Int), (0 : Int), (0 : Int), (0 : Int), (0 : Int), (0 : Int), (0 : Int), (0 : Int), (0 : Int), (0 : Int), (0 : Int), (0 : Int), (0 : Int), (0 : Int), (0 : Int), (0 : Int), (0 : Int), (0 : Int), (0 : Int), (0 : Int), (0 : Int), (0 : Int), (0 : Int), (0 : Int), (0 : Int), (0 : Int), (0 : Int), (0 : Int), (0 : Int), (0 : Int), (0 : Int), (0 : Int), (0 : Int), (0 : Int), (0 : Int), (0 : Int), (0 : Int), (0 : Int), (0 : Int), (0 : Int), (0 : Int), (0 : Int), (0 : Int), (0 : Int), (0 : Int), (0 : Int), (0 : Int), (0 : Int), (0 : Int), (0 : Int), (0 : Int), (0 : Int), (0 : Int), (0 : Int), (0 : Int), (0 : Int), (0 : Int), (0 : Int), (0 : Int), (0 : Int), (0 : Int), (0 : Int), (0 : Int), (0 : Int), (0 : Int), (0 : Int), (0 : Int), (0 : Int), (0 : Int), (0 : Int), (0 : Int), (0 : Int), (0 : Int), (0 : Int), (0 : Int), (0 : Int), (0 : Int), (0 : Int), (0 : Int), (0 : Int), (0 : Int), (0 : Int), (0 : Int), (0 : Int), (0 : Int), (0 : Int), (0 : Int), (0 : Int), (0 : Int), (0 : Int), (0 : Int), (0 : Int), (0 : Int), (0 : Int), (0 : Int), (0 : Int), (0 : Int), (0 : Int), (0 : Int), (0 : Int), (0 : Int), (0 : Int), (0 : Int), (0 : Int), (0 : Int), (0 : Int), (0 : Int), (0 : Int), (0 : Int), (0 : Int), (0 : Int), (0 : Int), (0 : Int), (0 : Int), (0 : Int), (0 : Int), (0 : Int), (0 : Int), (0 : Int), (0 : Int), (0 : Int), (0 : Int), (0 : Int), (0 : Int), (0 : Int), (0 : Int), (0 : Int), (0 : Int), (0 : Int), (0 : Int), (0 : Int), (0 : Int), (0 : Int), (0 : Int), (0 : Int), (0 : Int), (0 : Int), (0 : Int), (0 : Int), (0 : Int), (0 : Int), (0 : Int), (0 : Int), (0 : Int), (0 : Int), (0 : Int), (0 : Int), (0 : Int), (0 : Int), (0 : Int), (0 : Int), (0 : Int), (0 : Int), (0 : Int), (0 : Int), (0 : Int), (0 : Int), (0 : Int), (0 : Int), (0 : Int), (0 : Int), (0 : Int), (0 : Int), (0 : Int), (0 : Int), (0 : Int), (0 : Int), (0 : Int), (0 : Int), (0 : Int), (0 : Int), (0 : Int), (0 : Int), (0 : Int), (0 : Int), (0 : Int), (0 : Int), (0 : Int), (0 : Int), (0 : Int), (0 : Int), (0 : Int), (0 : Int), (0 : Int), (0 : Int), (0 : Int), (0 : Int), (0 : Int), (0 : Int), (0 : Int), (0 : Int), (0 : Int), (0 : Int), (0 : Int), (0 : Int), (0 : Int), (0 : Int), (0 : Int), (0 : Int), (0 : Int), (0 : Int), (0 : Int), (0 : Int), (0 : Int), (0 : Int), (0 : Int), (0 : Int), (0 : Int), (0 : Int), (0 : Int), (0 : Int), (0 : Int), (0 : Int), (0 : Int), (0 : Int), (0 : Int), (0 : Int), (0 : Int), (0 : Int)] : List Int), true⟩

theorem ty63_ok : TyOk Go.Proofs.Tryd.prog 63 ty63 := TyOk.of (by kernel_rfl) (by kernel_rfl) (by kernel_rfl) (by kernel_rfl)

noncomputable def ty65 : TyI := ⟨(Go.TypeDesc.struct (List.toArray ([(Go.Field.mk "lo" 5 0 false "" "unicode/utf8" 0), (Go.Field.mk "hi" 5 1 false "" "unicode/utf8" 1)] : List Go.Field))), 2, 2, (.pair (.int .u8) (.pair (.int .u8) .unit)), ((0 : Int), (0 : Int), ()), true⟩

theorem ty65_ok : TyOk Go.Proofs.Tryd.prog 65 ty65 := TyOk.of (by kernel_rfl) (by kernel_rfl) (by kernel_rfl) (by kernel_rfl)

noncomputable def ty66 : TyI := ⟨(Go.TypeDesc.array 16 65), 32, 32, (.arr 16 (.pair (.int .u8) (.pair (.int .u8) .unit))), ([((0 : Int), (0 : Int), ()), ((0 : Int), (0 : Int), ()), ((0 : Int), (0 : Int), ()), ((0 : Int), (0 : Int), ()), ((0 : Int), (0 : Int), ()), ((0 : Int), (0 : Int), ()), ((0 : Int), (0 : Int), ()), ((0 : Int), (0 : Int), ()), ((0 : Int), (0 : Int), ()), ((0 : Int), (0 : Int), ()), ((0 : Int), (0 : Int), ()), ((0 : Int), (0 : Int), ()), ((0 : Int), (0 : Int), ()), ((0 : Int), (0 : Int), ()), ((0 : Int), (0 : Int), ()), ((0 : Int), (0 : Int), ())] : List (Int × (Int × Unit))), true⟩

theorem ty66_ok : TyOk Go.Proofs.Tryd.prog 66 ty66 := TyOk.of (by kernel_rfl) (by kernel_rfl) (by kernel_rfl) (by kernel_rfl)

noncomputable def tys : List (Nat × TyI) := [(3, ty3), (4, ty4), (5, ty5), (9, ty9), (21, ty21), (26, ty26), (28, ty28), (48, ty48), (50, ty50), (63, ty63), (65, ty65), (66, ty66)]

theorem tys_ok : TysOk Go.Proofs.Tryd.prog tys := TysOk.cons ty3_ok (TysOk.cons ty4_ok (TysOk.cons ty5_ok (TysOk.cons ty9_ok (TysOk.cons ty21_ok (TysOk.cons ty26_ok (TysOk.cons ty28_ok (TysOk.cons ty48_ok (TysOk.cons ty50_ok (TysOk.cons ty63_ok (TysOk.cons ty65_ok (TysOk.cons ty66_ok (TysOk.nil))))))))))))

theorem mixed : Go.Proofs.Tryd.prog.follows .mixedOrders = true := by kernel_rfl

noncomputable def glob1 : List Int := [240, 240, 240, 240, 240, 240, 240, 240, 240, 240, 240, 240, 240, 240, 240, 240, 240, 240, 240, 240, 240, 240, 240, 240, 240, 240, 240, 240, 240, 240, 240, 240, 240, 240, 240, 240, 240, 240, 240, 240, 240, 240, 240, 240, 240, 240, 240, 240, 240, 240, 240, 240, 240, 240, 240, 240, 240, 240, 240, 240, 240, 240, 240, 240, 240, 240, 240, 240, 240, 240, 240, 240, 240, 240, 240, 240, 240, 240, 240, 240, 240, 240, 240, 240, 240, 240, 240, 240, 240, 240, 240, 240, 240, 240, 240, 240, 240, 240, 240, 240, 240, 240, 240, 240, 240, 240, 240, 240, 240, 240, 240, 240, 240, 240, 240, 240, 240, 240, 240, 240, 240, 240, 240, 240, 240, 240, 240, 240, 241, 241, 241, 241, 241, 241, 241, 241, 241, 241, 241, 241, 241, 241, 241, 241, 241, 241, 241, 241, 241, 241, 241, 241, 241, 241, 241, 241, 241, 241, 241, 241, 241, 241, 241, 241, 241, 241, 241, 241, 241, 241, 241, 241, 241, 241, 241, 241, 241, 241, 241, 241, 241, 241, 241, 241, 241, 241, 241, 241, 241, 241, 241, 241, 241, 241, 2, 2, 2, 2, 2, 2, 2, 2, 2, 2, 2, 2, 2, 2, 2, 2, 2, 2, 2, 2, 2, 2, 2, 2, 2, 2, 2, 2, 2, 2, 19, 3, 3, 3, 3, 3, 3, 3, 3, 3, 3, 3, 3, 35, 3, 3, 52, 4, 4, 4, 68, 241, 241, 241, 241, 241, 241, 241, 241, 241, 241, 241]

noncomputable def glob2 : List (Int × (Int × Unit)) := [(128, 191, ()), (160, 191, ()), (128, 159, ()), (144, 191, ()), (128, 143, ()), (0, 0, ()), (0, 0, ()), (0, 0, ()), (0, 0, ()), (0, 0, ()), (0, 0, ()), (0, 0, ()), (0, 0, ()), (0, 0, ()), (0, 0, ()), (0, 0, ())]

noncomputable def glob : Nat → Option Dat := lk [(1, ⟨(.arr 256 (.int .u8)), glob1⟩), (2, ⟨(.arr 16 (.pair (.int .u8) (.pair (.int .u8) .unit))), glob2⟩)]

abbrev quote_digit_R : Type := (Int × Bool × Unit)

noncomputable def quote_digit_body : Code := (Go.Proofs.Tryd.f44.body).getD .skip

noncomputable def quote_digit_L : List (List Nat × List Nat) := [([0], [0]), ([0, 0, 1], [9, 0]), ([1, 0, 1], [0]), ([0, 0, 1, 0, 1], [2, 3]), ([1, 0, 1, 0, 1], [2, 3]), ([0, 0, 1, 1], [17, 0]), ([1, 0, 1, 1], []), ([0, 0, 1, 0, 1, 1], [2, 3]), ([1, 0, 1, 0, 1, 1], [2, 3]), ([0, 1, 1, 1], [2, 3]), ([1, 1, 1, 1], [2, 3])]

noncomputable def quote_digit_E (N : Nat) : Env := mkEnv tys glob [] [] [] [] false

theorem quote_digit_Eok (N : Nat) : EnvOk Go.Proofs.Tryd.prog (quote_digit_E N) := mkEnv_ok mixed tys_ok (FnsOk.nil)

noncomputable def quote_digit_p2 (N : Nat) (b : Int) (k0 : Bool → Option (Int × Bool × Unit)) : Option (Int × Bool × Unit) :=
  cond (decide ((48 : Int) ≤ b))
  (k0 (decide (b ≤ (57 : Int))))
  (k0 false)

noncomputable def quote_digit_g2 (N : Nat) (x : denS [(0, .v (.int .u8))]) (K : Ex → List A → Option (Int × Bool × Unit)) : Option (Int × Bool × Unit) :=
  quote_digit_p2 N x.1 (fun a1 => (K .normal (mkS [(0, .v (.int .u8)), (8, .v .bool)] 11 (x.1, a1, ()))))

noncomputable def quote_digit_h2 (N : Nat) : Hd (Int × Bool × Unit) := fun st K => (unS [(0, .v (.int .u8))] 20 (restr [0] 0 st)).bind fun x => quote_digit_g2 N x K

noncomputable def quote_digit_t2 (N : Nat) : Tab (Int × Bool × Unit) := []

theorem quote_digit_ok2 {N : Nat} {c : Ctx} (hb : Base Go.Proofs.Tryd.prog (quote_digit_E N) c) : CodeOk Go.Proofs.Tryd.prog c (nodeAt quote_digit_body [0, 0, 1]) (quote_digit_h2 N) :=
  piece_ok (s := [(0, .v (.int .u8))]) (m := 20) (g := quote_digit_g2 N) [0] (evN_sound hb N (quote_digit_t2 N) quote_digit_L quote_digit_body TabOk.nil [0, 0, 1] _ rfl) (fun x K => by kernel_rfl)

noncomputable def quote_digit_p1 (N : Nat) (b : Int) (k0 : Int → Bool → Option (Int × Bool × Unit)) (k1 : Option (Int × Bool × Unit)) : Option (Int × Bool × Unit) :=
  quote_digit_p2 N b
  (fun x9 => cond x9
    (k0 (Go.IntKind.wrap Go.IntKind.u8 (b - (48 : Int))) true)
    (k1))

noncomputable def quote_digit_g1 (N : Nat) (x : denS [(0, .v (.int .u8))]) (K : Ex → List A → Option (Int × Bool × Unit)) : Option (Int × Bool × Unit) :=
  quote_digit_p1 N x.1 (fun a0 a1 => (K .ret (mkS [(2, .v (.int .u8)), (0, .v .bool)] 17 (a0, a1, ())))) (K .normal (mkS [(0, .v (.int .u8))] 20 (x.1, ())))

noncomputable def quote_digit_h1 (N : Nat) : Hd (Int × Bool × Unit) := fun st K => (unS [(0, .v (.int .u8))] 20 (restr [0] 0 st)).bind fun x => quote_digit_g1 N x K

noncomputable def quote_digit_t1 (N : Nat) : Tab (Int × Bool × Unit) := [([0, 0, 1], quote_digit_h2 N)]

theorem quote_digit_ok1 {N : Nat} {c : Ctx} (hb : Base Go.Proofs.Tryd.prog (quote_digit_E N) c) : CodeOk Go.Proofs.Tryd.prog c (nodeAt quote_digit_body [0, 1]) (quote_digit_h1 N) :=
  piece_ok (s := [(0, .v (.int .u8))]) (m := 20) (g := quote_digit_g1 N) [0] (evN_sound hb N (quote_digit_t1 N) quote_digit_L quote_digit_body (TabOk.cons (quote_digit_ok2 hb) TabOk.nil) [0, 1] _ rfl) (fun x K => by kernel_rfl)

noncomputable def quote_digit_p3 (N : Nat) (b : Int) (k0 : Bool → Option (Int × Bool × Unit)) : Option (Int × Bool × Unit) :=
  cond (decide ((97 : Int) ≤ b))
  (k0 (decide (b ≤ (102 : Int))))
  (k0 false)

noncomputable def quote_digit_g3 (N : Nat) (x : denS [(0, .v (.int .u8))]) (K : Ex → List A → Option (Int × Bool × Unit)) : Option (Int × Bool × Unit) :=
  quote_digit_p3 N x.1 (fun a1 => (K .normal (mkS [(0, .v (.int .u8)), (16, .v .bool)] 3 (x.1, a1, ()))))

noncomputable def quote_digit_h3 (N : Nat) : Hd (Int × Bool × Unit) := fun st K => (unS [(0, .v (.int .u8))] 20 (restr [0] 0 st)).bind fun x => quote_digit_g3 N x K

noncomputable def quote_digit_t3 (N : Nat) : Tab (Int × Bool × Unit) := []

theorem quote_digit_ok3 {N : Nat} {c : Ctx} (hb : Base Go.Proofs.Tryd.prog (quote_digit_E N) c) : CodeOk Go.Proofs.Tryd.prog c (nodeAt quote_digit_body [0, 0, 1, 1]) (quote_digit_h3 N) :=
  piece_ok (s := [(0, .v (.int .u8))]) (m := 20) (g := quote_digit_g3 N) [0] (evN_sound hb N (quote_digit_t3 N) quote_digit_L quote_digit_body TabOk.nil [0, 0, 1, 1] _ rfl) (fun x K => by kernel_rfl)

noncomputable def quote_digit (N : Nat) (b : Int) : Option (Int × Bool × Unit) :=
  quote_digit_p1 N b
  (fun x2 x3 => some (x2, (x3, ())))
  (quote_digit_p3 N b
    (fun x17 => cond x17
      (some ((Go.IntKind.wrap Go.IntKind.u8 ((Go.IntKind.wrap Go.IntKind.u8 (b - (97 : Int))) + (10 : Int))), (true, ())))
      (some ((0 : Int), (false, ())))))

noncomputable def quote_digit_t (N : Nat) : Tab (Int × Bool × Unit) := [([0, 1], quote_digit_h1 N), ([0, 0, 1, 1], quote_digit_h3 N)]

theorem quote_digit_link (N : Nat) (x : denS [(0, .v (.int .u8))]) : evFX (quote_digit_E N) N (quote_digit_t N) quote_digit_L Go.Proofs.Tryd.f44 (mkS [(0, .v (.int .u8))] 0 x) (kRes (.tup [(.int .u8), .bool]) 1) = quote_digit N x.1 := by kernel_rfl

noncomputable def quote_digit_res (N : Nat) : List A → Res := resOf [(0, .v (.int .u8))] (fun x => quote_digit N x.1) (oRes (.tup [(.int .u8), .bool]) 1)

theorem quote_digit_ct (N : Nat) : Contract Go.Proofs.Tryd.prog glob 44 (quote_digit_res N) :=
  Contract.of (E := quote_digit_E N) (H := quote_digit_t N) (L := quote_digit_L) (N := N) (body := quote_digit_body) (K := (kRes (.tup [(.int .u8), .bool]) 1)) (quote_digit_Eok N) Go.Proofs.Tryd.func44 (by kernel_rfl) (by decide) (fun _ hb => (TabOk.cons (quote_digit_ok1 hb) (TabOk.cons (quote_digit_ok3 hb) TabOk.nil))) (fun x y h => by rw [quote_digit_link]; exact h) (kRes_ok (s := (.tup [(.int .u8), .bool])) (m := 1))

abbrev quote_escape_R : Type := (Int × Int × Int × Unit)

noncomputable def quote_escape_body : Code := (Go.Proofs.Tryd.f41.body).getD .skip

noncomputable def quote_escape_L : List (List Nat × List Nat) := [([0], [0]), ([0, 0, 1], [10, 0]), ([1, 0, 1], [0]), ([0, 0, 1, 0, 1], [2, 3, 4]), ([1, 0, 1, 0, 1], [2, 3, 4]), ([0, 0, 1, 1], [18, 0]), ([1, 0, 1, 1], [0]), ([0, 0, 1, 0, 1, 1], [2, 3, 4]), ([1, 0, 1, 0, 1, 1], [2, 3, 4]), ([0, 0, 1, 1, 1], [23, 0]), ([1, 0, 1, 1, 1], [0]), ([0, 0, 1, 0, 1, 1, 1], [2, 3, 4]), ([1, 0, 1, 0, 1, 1, 1], [2, 3, 4]), ([0, 1, 1, 1, 1], [0, 5]), ([0, 0, 1, 1, 1, 1, 1], [6, 0, 5]), ([0, 1, 0, 1, 1, 1, 1, 1], [6, 0, 5]), ([0, 0, 0, 0, 1, 0, 1, 1, 1, 1, 1], [25, 6, 0, 5]), ([1, 0, 0, 0, 1, 0, 1, 1, 1, 1, 1], [6, 0, 5]), ([1, 1, 0, 0, 0, 1, 0, 1, 1, 1, 1, 1], [5]), ([0, 0, 0, 0, 1, 0, 0, 1, 0, 1, 1, 1, 1, 1], [31, 0, 6, 5]), ([1, 0, 0, 0, 1, 0, 0, 1, 0, 1, 1, 1, 1, 1], [0, 6, 5]), ([0, 0, 1, 0, 0, 0, 1, 0, 0, 1, 0, 1, 1, 1, 1, 1], [2, 3, 4]), ([1, 0, 1, 0, 0, 0, 1, 0, 0, 1, 0, 1, 1, 1, 1, 1], [2, 3, 4]), ([0, 1, 0, 0, 1, 0, 0, 1, 0, 1, 1, 1, 1, 1], [8, 5, 7, 6, 0]), ([0, 0, 1, 1, 0, 0, 1, 0, 0, 1, 0, 1, 1, 1, 1, 1], [40, 5, 7, 6, 0]), ([1, 0, 1, 1, 0, 0, 1, 0, 0, 1, 0, 1, 1, 1, 1, 1], [5, 7, 6, 0]), ([0, 0, 1, 0, 1, 1, 0, 0, 1, 0, 0, 1, 0, 1, 1, 1, 1, 1], [2, 3, 4]), ([1, 0, 1, 0, 1, 1, 0, 0, 1, 0, 0, 1, 0, 1, 1, 1, 1, 1], [2, 3, 4]), ([1, 1, 1, 0, 0, 1, 0, 0, 1, 0, 1, 1, 1, 1, 1], [6, 0, 5]), ([0, 1, 0, 0, 1, 0, 1, 1, 1, 1, 1], [6, 0, 5]), ([1, 1, 0, 0, 1, 0, 1, 1, 1, 1, 1], [6, 0, 5]), ([1, 0, 1, 1, 1, 1, 1], [5]), ([0, 1, 1, 1, 1, 1, 1], [2, 3, 4]), ([1, 1, 1, 1, 1, 1, 1], [2, 3, 4])]

noncomputable def quote_escape_E (N : Nat) : Env := mkEnv tys glob [(44, quote_digit_res N)] [] [] [] false

theorem quote_escape_Eok (N : Nat) : EnvOk Go.Proofs.Tryd.prog (quote_escape_E N) := mkEnv_ok mixed tys_ok (FnsOk.cons (quote_digit_ct N) (FnsOk.nil))

noncomputable def quote_escape_p2 (N : Nat) (s : (List UInt8)) (k0 : Bool → Option (Int × Int × Int × Unit)) : Option (Int × Int × Int × Unit) :=
  cond (Go.Lift.inR (0 : Int) (List.length s))
  (cond ((((UInt8.toNat (List.getD s 0 (0 : UInt8))) : Nat) : Int) == (34 : Int))
    (k0 true)
    (cond (Go.Lift.inR (0 : Int) (List.length s))
      (k0 ((((UInt8.toNat (List.getD s 0 (0 : UInt8))) : Nat) : Int) == (92 : Int)))
      (none)))
  (none)

noncomputable def quote_escape_g2 (N : Nat) (x : denS [(0, .v .str)]) (K : Ex → List A → Option (Int × Int × Int × Unit)) : Option (Int × Int × Int × Unit) :=
  quote_escape_p2 N x.1 (fun a1 => (K .normal (mkS [(0, .v .str), (17, .v .bool)] 27 (x.1, a1, ()))))

noncomputable def quote_escape_h2 (N : Nat) : Hd (Int × Int × Int × Unit) := fun st K => (unS [(0, .v .str)] 45 (restr [0] 0 st)).bind fun x => quote_escape_g2 N x K

noncomputable def quote_escape_t2 (N : Nat) : Tab (Int × Int × Int × Unit) := []

theorem quote_escape_ok2 {N : Nat} {c : Ctx} (hb : Base Go.Proofs.Tryd.prog (quote_escape_E N) c) : CodeOk Go.Proofs.Tryd.prog c (nodeAt quote_escape_body [0, 0, 1, 1]) (quote_escape_h2 N) :=
  piece_ok (s := [(0, .v .str)]) (m := 45) (g := quote_escape_g2 N) [0] (evN_sound hb N (quote_escape_t2 N) quote_escape_L quote_escape_body TabOk.nil [0, 0, 1, 1] _ rfl) (fun x K => by kernel_rfl)

noncomputable def quote_escape_p1 (N : Nat) (s : (List UInt8)) (k0 : Int → Int → Int → Option (Int × Int × Int × Unit)) (k1 : Option (Int × Int × Int × Unit)) : Option (Int × Int × Int × Unit) :=
  quote_escape_p2 N s
  (fun x18 => cond x18
    (cond (Go.Lift.inR (0 : Int) (List.length s))
      (k0 (((UInt8.toNat (List.getD s 0 (0 : UInt8))) : Nat) : Int) (1 : Int) (0 : Int))
      (none))
    (k1))

noncomputable def quote_escape_g1 (N : Nat) (x : denS [(0, .v .str)]) (K : Ex → List A → Option (Int × Int × Int × Unit)) : Option (Int × Int × Int × Unit) :=
  quote_escape_p1 N x.1 (fun a0 a1 a2 => (K .ret (mkS [(2, .v (.int .u8)), (0, .v (.int .i64)), (0, .v (.int .i64))] 41 (a0, a1, a2, ())))) (K .normal (mkS [(0, .v .str)] 45 (x.1, ())))

noncomputable def quote_escape_h1 (N : Nat) : Hd (Int × Int × Int × Unit) := fun st K => (unS [(0, .v .str)] 45 (restr [0] 0 st)).bind fun x => quote_escape_g1 N x K

noncomputable def quote_escape_t1 (N : Nat) : Tab (Int × Int × Int × Unit) := [([0, 0, 1, 1], quote_escape_h2 N)]

theorem quote_escape_ok1 {N : Nat} {c : Ctx} (hb : Base Go.Proofs.Tryd.prog (quote_escape_E N) c) : CodeOk Go.Proofs.Tryd.prog c (nodeAt quote_escape_body [0, 1, 1]) (quote_escape_h1 N) :=
  piece_ok (s := [(0, .v .str)]) (m := 45) (g := quote_escape_g1 N) [0] (evN_sound hb N (quote_escape_t1 N) quote_escape_L quote_escape_body (TabOk.cons (quote_escape_ok2 hb) TabOk.nil) [0, 1, 1] _ rfl) (fun x K => by kernel_rfl)

noncomputable def quote_escape_s3 (N : Nat) (s : (List UInt8)) (b : Int) (i : Int) (rec : Int → Int → Option (Int × Int × Int × Unit)) (k0 : Int → Int → Int → Option (Int × Int × Int × Unit)) (k1 : Int → Option (Int × Int × Int × Unit)) : Option (Int × Int × Int × Unit) :=
  cond (decide (i ≤ (2 : Int)))
  (cond (i == (((List.length s) : Nat) : Int))
    (k0 (0 : Int) (0 : Int) (1 : Int))
    (cond (Go.Lift.inR i (List.length s))
      ((quote_digit N (((UInt8.toNat (List.getD s (Int.toNat i) (0 : UInt8))) : Nat) : Int)).bind fun y =>
        cond (!y.2.1)
        (k0 (0 : Int) (0 : Int) (2 : Int))
        (rec (Go.Lift.bitsOp Go.BinOp.or Go.IntKind.u8 (Go.Lift.shlI Go.IntKind.u8 b (4 : Int)) y.1) (Go.IntKind.wrap Go.IntKind.i64 (i + (1 : Int)))))
      (none)))
  (k1 b)

noncomputable def quote_escape_p3 (N : Nat) (s : (List UInt8)) (b : Int) (i : Int) (k0 : Int → Int → Int → Option (Int × Int × Int × Unit)) (k1 : Int → Option (Int × Int × Int × Unit)) : Option (Int × Int × Int × Unit) :=
  iter (fun (v : (Int × Int)) r => quote_escape_s3 N s v.1 v.2 (fun b i => (r (b, i))) k0 k1) N (b, i)

noncomputable def quote_escape_g3 (N : Nat) (i : (List UInt8)) (v : (Int × Int)) (r : (Int × Int) → Option (Int × Int × Int × Unit)) (K : Ex → List A → Option (Int × Int × Int × Unit)) : Option (Int × Int × Int × Unit) :=
  quote_escape_s3 N i v.1 v.2 (fun b i => (r (b, i))) (fun a0 a1 a2 => (K .ret (mkS [(2, .v (.int .u8)), (0, .v (.int .i64)), (0, .v (.int .i64))] 41 (a0, a1, a2, ())))) (fun a0 => (K (.exit 0) (mkS [(5, .v (.int .u8))] 40 (a0, ()))))

noncomputable def quote_escape_h3 (N : Nat) : Hd (Int × Int × Int × Unit) := fun st K => (unS [(0, .v .str), (4, .v (.int .u8)), (0, .v (.int .i64))] 39 (restr [6, 0, 5] 0 st)).bind fun x => iter (fun v r => quote_escape_g3 N ((fun x => x.1) x) v r K) N ((fun x => (x.2.1, x.2.2.1)) x)

noncomputable def quote_escape_t3 (N : Nat) : Tab (Int × Int × Int × Unit) := []

theorem quote_escape_ok3 {N : Nat} {c : Ctx} (hb : Base Go.Proofs.Tryd.prog (quote_escape_E N) c) : CodeOk Go.Proofs.Tryd.prog c (nodeAt quote_escape_body [0, 1, 0, 1, 1, 1, 1, 1]) (quote_escape_h3 N) :=
  loop_ok (s := [(0, .v .str), (4, .v (.int .u8)), (0, .v (.int .i64))]) (m := 39) (quote_escape_g3 N) [6, 0, 5] N (fun x => x.1) (fun x => (x.2.1, x.2.2.1)) (fun i v => (i, v.1, v.2, ())) (fun _ => rfl) (evN_sound hb N (quote_escape_t3 N) quote_escape_L quote_escape_body TabOk.nil [0, 0, 1, 0, 1, 1, 1, 1, 1] _ rfl) (fun i v r K => by kernel_rfl)

noncomputable def quote_escape (N : Nat) (s : (List UInt8)) : Option (Int × Int × Int × Unit) :=
  cond (s == ([] : List UInt8))
  (some ((0 : Int), ((0 : Int), ((1 : Int), ()))))
  (quote_escape_p1 N s
    (fun x2 x3 x4 => some (x2, (x3, (x4, ()))))
    (cond (Go.Lift.inR (0 : Int) (List.length s))
      (cond ((((UInt8.toNat (List.getD s 0 (0 : UInt8))) : Nat) : Int) != (120 : Int))
        (some ((0 : Int), ((0 : Int), ((2 : Int), ()))))
        (quote_escape_p3 N s (0 : Int) (1 : Int)
          (fun x21 x31 x41 => some (x21, (x31, (x41, ()))))
          (fun b => some (b, ((3 : Int), ((0 : Int), ()))))))
      (none)))

noncomputable def quote_escape_t (N : Nat) : Tab (Int × Int × Int × Unit) := [([0, 1, 1], quote_escape_h1 N), ([0, 1, 0, 1, 1, 1, 1, 1], quote_escape_h3 N)]

theorem quote_escape_link (N : Nat) (x : denS [(0, .v .str)]) : evFX (quote_escape_E N) N (quote_escape_t N) quote_escape_L Go.Proofs.Tryd.f41 (mkS [(0, .v .str)] 0 x) (kRes (.tup [(.int .u8), (.int .i64), (.int .i64)]) 1) = quote_escape N x.1 := by kernel_rfl

noncomputable def quote_escape_res (N : Nat) : List A → Res := resOf [(0, .v .str)] (fun x => quote_escape N x.1) (oRes (.tup [(.int .u8), (.int .i64), (.int .i64)]) 1)

theorem quote_escape_ct (N : Nat) : Contract Go.Proofs.Tryd.prog glob 41 (quote_escape_res N) :=
  Contract.of (E := quote_escape_E N) (H := quote_escape_t N) (L := quote_escape_L) (N := N) (body := quote_escape_body) (K := (kRes (.tup [(.int .u8), (.int .i64), (.int .i64)]) 1)) (quote_escape_Eok N) Go.Proofs.Tryd.func41 (by kernel_rfl) (by decide) (fun _ hb => (TabOk.cons (quote_escape_ok1 hb) (TabOk.cons (quote_escape_ok3 hb) TabOk.nil))) (fun x y h => by rw [quote_escape_link]; exact h) (kRes_ok (s := (.tup [(.int .u8), (.int .i64), (.int .i64)])) (m := 1))

abbrev unicode_utf8_decodeRuneInStringSlow_R : Type := (Int × Int × Unit)

noncomputable def unicode_utf8_decodeRuneInStringSlow_body : Code := (Go.Proofs.Tryd.f40.body).getD .skip

noncomputable def unicode_utf8_decodeRuneInStringSlow_L : List (List Nat × List Nat) := [([0], [0]), ([0, 1], [4, 0]), ([0, 0, 1, 1], [16, 0, 4]), ([1, 0, 1, 1], [0, 4]), ([0, 0, 1, 0, 1, 1], [2, 3]), ([1, 0, 1, 0, 1, 1], [2, 3]), ([0, 1, 1, 1], [5, 0, 4]), ([0, 1, 1, 1, 1], [6, 0, 4, 5]), ([0, 0, 1, 1, 1, 1, 1], [23, 6, 0, 4, 5]), ([1, 0, 1, 1, 1, 1, 1], [6, 4, 0, 5]), ([0, 0, 1, 0, 1, 1, 1, 1, 1], [0, 7]), ([0, 1, 0, 1, 0, 1, 1, 1, 1, 1], [2, 3]), ([1, 1, 0, 1, 0, 1, 1, 1, 1, 1], [2, 3]), ([0, 1, 1, 1, 1, 1, 1], [6, 4, 8, 0, 5]), ([0, 1, 1, 1, 1, 1, 1, 1], [4, 8, 0, 9, 5]), ([0, 0, 1, 1, 1, 1, 1, 1, 1, 1], [45, 0, 9, 8, 5]), ([1, 0, 1, 1, 1, 1, 1, 1, 1, 1], [0, 9, 8, 5]), ([0, 0, 1, 0, 1, 1, 1, 1, 1, 1, 1, 1], [2, 3]), ([1, 0, 1, 0, 1, 1, 1, 1, 1, 1, 1, 1], [2, 3]), ([0, 1, 1, 1, 1, 1, 1, 1, 1, 1], [10, 9, 8, 5, 0]), ([0, 0, 1, 1, 1, 1, 1, 1, 1, 1, 1, 1], [57, 8, 5, 10, 0]), ([1, 0, 1, 1, 1, 1, 1, 1, 1, 1, 1, 1], [8, 5, 10, 0]), ([0, 0, 1, 0, 1, 1, 1, 1, 1, 1, 1, 1, 1, 1], [2, 3]), ([1, 0, 1, 0, 1, 1, 1, 1, 1, 1, 1, 1, 1, 1], [2, 3]), ([0, 0, 1, 1, 1, 1, 1, 1, 1, 1, 1, 1, 1], [59, 5, 10, 0, 8]), ([1, 0, 1, 1, 1, 1, 1, 1, 1, 1, 1, 1, 1], [0, 8, 5, 10]), ([0, 0, 1, 0, 1, 1, 1, 1, 1, 1, 1, 1, 1, 1, 1], [2, 3]), ([1, 0, 1, 0, 1, 1, 1, 1, 1, 1, 1, 1, 1, 1, 1], [2, 3]), ([0, 1, 1, 1, 1, 1, 1, 1, 1, 1, 1, 1, 1], [11, 8, 5, 10, 0]), ([0, 0, 1, 1, 1, 1, 1, 1, 1, 1, 1, 1, 1, 1, 1], [75, 8, 5, 10, 11, 0]), ([1, 0, 1, 1, 1, 1, 1, 1, 1, 1, 1, 1, 1, 1, 1], [8, 5, 10, 11, 0]), ([0, 0, 1, 0, 1, 1, 1, 1, 1, 1, 1, 1, 1, 1, 1, 1, 1], [2, 3]), ([1, 0, 1, 0, 1, 1, 1, 1, 1, 1, 1, 1, 1, 1, 1, 1, 1], [2, 3]), ([0, 0, 1, 1, 1, 1, 1, 1, 1, 1, 1, 1, 1, 1, 1, 1], [77, 5, 10, 11, 0]), ([1, 0, 1, 1, 1, 1, 1, 1, 1, 1, 1, 1, 1, 1, 1, 1], [0, 5, 10, 11]), ([0, 0, 1, 0, 1, 1, 1, 1, 1, 1, 1, 1, 1, 1, 1, 1, 1, 1], [2, 3]), ([1, 0, 1, 0, 1, 1, 1, 1, 1, 1, 1, 1, 1, 1, 1, 1, 1, 1], [2, 3]), ([0, 1, 1, 1, 1, 1, 1, 1, 1, 1, 1, 1, 1, 1, 1, 1], [12, 5, 10, 11]), ([0, 0, 1, 1, 1, 1, 1, 1, 1, 1, 1, 1, 1, 1, 1, 1, 1, 1], [98, 5, 10, 11, 12]), ([1, 0, 1, 1, 1, 1, 1, 1, 1, 1, 1, 1, 1, 1, 1, 1, 1, 1], [5, 10, 11, 12]), ([0, 0, 1, 0, 1, 1, 1, 1, 1, 1, 1, 1, 1, 1, 1, 1, 1, 1, 1, 1], [2, 3]), ([1, 0, 1, 0, 1, 1, 1, 1, 1, 1, 1, 1, 1, 1, 1, 1, 1, 1, 1, 1], [2, 3]), ([0, 1, 1, 1, 1, 1, 1, 1, 1, 1, 1, 1, 1, 1, 1, 1, 1, 1], [2, 3]), ([1, 1, 1, 1, 1, 1, 1, 1, 1, 1, 1, 1, 1, 1, 1, 1, 1, 1], [2, 3])]

noncomputable def unicode_utf8_decodeRuneInStringSlow_E (N : Nat) : Env := mkEnv tys glob [] [] [] [] false

theorem unicode_utf8_decodeRuneInStringSlow_Eok (N : Nat) : EnvOk Go.Proofs.Tryd.prog (unicode_utf8_decodeRuneInStringSlow_E N) := mkEnv_ok mixed tys_ok (FnsOk.nil)

noncomputable def unicode_utf8_decodeRuneInStringSlow_p2 (N : Nat) (s : (List UInt8)) (s0 : Int) (sz : Int) (accept : (Int × (Int × Unit))) (s1 : Int) (k0 : Bool → Option (Int × Int × Unit)) : Option (Int × Int × Unit) :=
  cond (decide (s1 < accept.1))
  (k0 true)
  (k0 (decide (accept.2.1 < s1)))

noncomputable def unicode_utf8_decodeRuneInStringSlow_g2 (N : Nat) (x : denS [(0, .v .str), (4, .v (.int .u8)), (2, .v (.int .i64)), (0, .box (.pair (.int .u8) (.pair (.int .u8) .unit))), (0, .v (.int .u8))]) (K : Ex → List A → Option (Int × Int × Unit)) : Option (Int × Int × Unit) :=
  unicode_utf8_decodeRuneInStringSlow_p2 N x.1 x.2.1 x.2.2.1 x.2.2.2.1 x.2.2.2.2.1 (fun a4 => (K .normal (mkS [(0, .v .str), (4, .v (.int .u8)), (2, .v (.int .i64)), (1, .v (.int .u8)), (46, .v .bool)] 59 (x.1, x.2.1, x.2.2.1, x.2.2.2.2.1, a4, ()))))

noncomputable def unicode_utf8_decodeRuneInStringSlow_h2 (N : Nat) : Hd (Int × Int × Unit) := fun st K => (unS [(0, .v .str), (4, .v (.int .u8)), (2, .v (.int .i64)), (0, .box (.pair (.int .u8) (.pair (.int .u8) .unit))), (0, .v (.int .u8))] 106 (restr [10, 9, 8, 5, 0] 0 st)).bind fun x => unicode_utf8_decodeRuneInStringSlow_g2 N x K

noncomputable def unicode_utf8_decodeRuneInStringSlow_t2 (N : Nat) : Tab (Int × Int × Unit) := []

theorem unicode_utf8_decodeRuneInStringSlow_ok2 {N : Nat} {c : Ctx} (hb : Base Go.Proofs.Tryd.prog (unicode_utf8_decodeRuneInStringSlow_E N) c) : CodeOk Go.Proofs.Tryd.prog c (nodeAt unicode_utf8_decodeRuneInStringSlow_body [0, 0, 1, 1, 1, 1, 1, 1, 1, 1, 1, 1]) (unicode_utf8_decodeRuneInStringSlow_h2 N) :=
  piece_ok (s := [(0, .v .str), (4, .v (.int .u8)), (2, .v (.int .i64)), (0, .box (.pair (.int .u8) (.pair (.int .u8) .unit))), (0, .v (.int .u8))]) (m := 106) (g := unicode_utf8_decodeRuneInStringSlow_g2 N) [10, 9, 8, 5, 0] (evN_sound hb N (unicode_utf8_decodeRuneInStringSlow_t2 N) unicode_utf8_decodeRuneInStringSlow_L unicode_utf8_decodeRuneInStringSlow_body TabOk.nil [0, 0, 1, 1, 1, 1, 1, 1, 1, 1, 1, 1] _ rfl) (fun x K => by kernel_rfl)

noncomputable def unicode_utf8_decodeRuneInStringSlow_p1 (N : Nat) (s : (List UInt8)) (s0 : Int) (sz : Int) (accept : (Int × (Int × Unit))) (s1 : Int) (k0 : Int → Int → Option (Int × Int × Unit)) (k1 : Option (Int × Int × Unit)) : Option (Int × Int × Unit) :=
  unicode_utf8_decodeRuneInStringSlow_p2 N s s0 sz accept s1
  (fun x57 => cond x57
    (k0 (65533 : Int) (1 : Int))
    (k1))

noncomputable def unicode_utf8_decodeRuneInStringSlow_g1 (N : Nat) (x : denS [(0, .v .str), (4, .v (.int .u8)), (2, .v (.int .i64)), (0, .box (.pair (.int .u8) (.pair (.int .u8) .unit))), (0, .v (.int .u8))]) (K : Ex → List A → Option (Int × Int × Unit)) : Option (Int × Int × Unit) :=
  unicode_utf8_decodeRuneInStringSlow_p1 N x.1 x.2.1 x.2.2.1 x.2.2.2.1 x.2.2.2.2.1 (fun a0 a1 => (K .ret (mkS [(2, .v (.int .i32)), (0, .v (.int .i64))] 113 (a0, a1, ())))) (K .normal (mkS [(0, .v .str), (4, .v (.int .u8)), (2, .v (.int .i64)), (1, .v (.int .u8))] 106 (x.1, x.2.1, x.2.2.1, x.2.2.2.2.1, ())))

noncomputable def unicode_utf8_decodeRuneInStringSlow_h1 (N : Nat) : Hd (Int × Int × Unit) := fun st K => (unS [(0, .v .str), (4, .v (.int .u8)), (2, .v (.int .i64)), (0, .box (.pair (.int .u8) (.pair (.int .u8) .unit))), (0, .v (.int .u8))] 106 (restr [10, 9, 8, 5, 0] 0 st)).bind fun x => unicode_utf8_decodeRuneInStringSlow_g1 N x K

noncomputable def unicode_utf8_decodeRuneInStringSlow_t1 (N : Nat) : Tab (Int × Int × Unit) := [([0, 0, 1, 1, 1, 1, 1, 1, 1, 1, 1, 1], unicode_utf8_decodeRuneInStringSlow_h2 N)]

theorem unicode_utf8_decodeRuneInStringSlow_ok1 {N : Nat} {c : Ctx} (hb : Base Go.Proofs.Tryd.prog (unicode_utf8_decodeRuneInStringSlow_E N) c) : CodeOk Go.Proofs.Tryd.prog c (nodeAt unicode_utf8_decodeRuneInStringSlow_body [0, 1, 1, 1, 1, 1, 1, 1, 1, 1, 1]) (unicode_utf8_decodeRuneInStringSlow_h1 N) :=
  piece_ok (s := [(0, .v .str), (4, .v (.int .u8)), (2, .v (.int .i64)), (0, .box (.pair (.int .u8) (.pair (.int .u8) .unit))), (0, .v (.int .u8))]) (m := 106) (g := unicode_utf8_decodeRuneInStringSlow_g1 N) [10, 9, 8, 5, 0] (evN_sound hb N (unicode_utf8_decodeRuneInStringSlow_t1 N) unicode_utf8_decodeRuneInStringSlow_L unicode_utf8_decodeRuneInStringSlow_body (TabOk.cons (unicode_utf8_decodeRuneInStringSlow_ok2 hb) TabOk.nil) [0, 1, 1, 1, 1, 1, 1, 1, 1, 1, 1] _ rfl) (fun x K => by kernel_rfl)

noncomputable def unicode_utf8_decodeRuneInStringSlow_p4 (N : Nat) (s : (List UInt8)) (s0 : Int) (sz : Int) (s1 : Int) (s2 : Int) (k0 : Bool → Option (Int × Int × Unit)) : Option (Int × Int × Unit) :=
  cond (decide (s2 < (128 : Int)))
  (k0 true)
  (k0 (decide ((191 : Int) < s2)))

noncomputable def unicode_utf8_decodeRuneInStringSlow_g4 (N : Nat) (x : denS [(0, .v .str), (4, .v (.int .u8)), (2, .v (.int .i64)), (1, .v (.int .u8)), (0, .v (.int .u8))]) (K : Ex → List A → Option (Int × Int × Unit)) : Option (Int × Int × Unit) :=
  unicode_utf8_decodeRuneInStringSlow_p4 N x.1 x.2.1 x.2.2.1 x.2.2.2.1 x.2.2.2.2.1 (fun a5 => (K .normal (mkS [(0, .v .str), (4, .v (.int .u8)), (2, .v (.int .i64)), (1, .v (.int .u8)), (0, .v (.int .u8)), (63, .v .bool)] 41 (x.1, x.2.1, x.2.2.1, x.2.2.2.1, x.2.2.2.2.1, a5, ()))))

noncomputable def unicode_utf8_decodeRuneInStringSlow_h4 (N : Nat) : Hd (Int × Int × Unit) := fun st K => (unS [(0, .v .str), (4, .v (.int .u8)), (2, .v (.int .i64)), (1, .v (.int .u8)), (0, .v (.int .u8))] 105 (restr [11, 8, 5, 10, 0] 0 st)).bind fun x => unicode_utf8_decodeRuneInStringSlow_g4 N x K

noncomputable def unicode_utf8_decodeRuneInStringSlow_t4 (N : Nat) : Tab (Int × Int × Unit) := []

theorem unicode_utf8_decodeRuneInStringSlow_ok4 {N : Nat} {c : Ctx} (hb : Base Go.Proofs.Tryd.prog (unicode_utf8_decodeRuneInStringSlow_E N) c) : CodeOk Go.Proofs.Tryd.prog c (nodeAt unicode_utf8_decodeRuneInStringSlow_body [0, 0, 1, 1, 1, 1, 1, 1, 1, 1, 1, 1, 1, 1, 1]) (unicode_utf8_decodeRuneInStringSlow_h4 N) :=
  piece_ok (s := [(0, .v .str), (4, .v (.int .u8)), (2, .v (.int .i64)), (1, .v (.int .u8)), (0, .v (.int .u8))]) (m := 105) (g := unicode_utf8_decodeRuneInStringSlow_g4 N) [11, 8, 5, 10, 0] (evN_sound hb N (unicode_utf8_decodeRuneInStringSlow_t4 N) unicode_utf8_decodeRuneInStringSlow_L unicode_utf8_decodeRuneInStringSlow_body TabOk.nil [0, 0, 1, 1, 1, 1, 1, 1, 1, 1, 1, 1, 1, 1, 1] _ rfl) (fun x K => by kernel_rfl)

noncomputable def unicode_utf8_decodeRuneInStringSlow_p3 (N : Nat) (s : (List UInt8)) (s0 : Int) (sz : Int) (s1 : Int) (s2 : Int) (k0 : Int → Int → Option (Int × Int × Unit)) (k1 : Option (Int × Int × Unit)) : Option (Int × Int × Unit) :=
  unicode_utf8_decodeRuneInStringSlow_p4 N s s0 sz s1 s2
  (fun x75 => cond x75
    (k0 (65533 : Int) (1 : Int))
    (k1))

noncomputable def unicode_utf8_decodeRuneInStringSlow_g3 (N : Nat) (x : denS [(0, .v .str), (4, .v (.int .u8)), (2, .v (.int .i64)), (1, .v (.int .u8)), (0, .v (.int .u8))]) (K : Ex → List A → Option (Int × Int × Unit)) : Option (Int × Int × Unit) :=
  unicode_utf8_decodeRuneInStringSlow_p3 N x.1 x.2.1 x.2.2.1 x.2.2.2.1 x.2.2.2.2.1 (fun a0 a1 => (K .ret (mkS [(2, .v (.int .i32)), (0, .v (.int .i64))] 113 (a0, a1, ())))) (K .normal (mkS [(0, .v .str), (4, .v (.int .u8)), (2, .v (.int .i64)), (1, .v (.int .u8)), (0, .v (.int .u8))] 105 (x.1, x.2.1, x.2.2.1, x.2.2.2.1, x.2.2.2.2.1, ())))

noncomputable def unicode_utf8_decodeRuneInStringSlow_h3 (N : Nat) : Hd (Int × Int × Unit) := fun st K => (unS [(0, .v .str), (4, .v (.int .u8)), (2, .v (.int .i64)), (1, .v (.int .u8)), (0, .v (.int .u8))] 105 (restr [11, 8, 5, 10, 0] 0 st)).bind fun x => unicode_utf8_decodeRuneInStringSlow_g3 N x K

noncomputable def unicode_utf8_decodeRuneInStringSlow_t3 (N : Nat) : Tab (Int × Int × Unit) := [([0, 0, 1, 1, 1, 1, 1, 1, 1, 1, 1, 1, 1, 1, 1], unicode_utf8_decodeRuneInStringSlow_h4 N)]

theorem unicode_utf8_decodeRuneInStringSlow_ok3 {N : Nat} {c : Ctx} (hb : Base Go.Proofs.Tryd.prog (unicode_utf8_decodeRuneInStringSlow_E N) c) : CodeOk Go.Proofs.Tryd.prog c (nodeAt unicode_utf8_decodeRuneInStringSlow_body [0, 1, 1, 1, 1, 1, 1, 1, 1, 1, 1, 1, 1, 1]) (unicode_utf8_decodeRuneInStringSlow_h3 N) :=
  piece_ok (s := [(0, .v .str), (4, .v (.int .u8)), (2, .v (.int .i64)), (1, .v (.int .u8)), (0, .v (.int .u8))]) (m := 105) (g := unicode_utf8_decodeRuneInStringSlow_g3 N) [11, 8, 5, 10, 0] (evN_sound hb N (unicode_utf8_decodeRuneInStringSlow_t3 N) unicode_utf8_decodeRuneInStringSlow_L unicode_utf8_decodeRuneInStringSlow_body (TabOk.cons (unicode_utf8_decodeRuneInStringSlow_ok4 hb) TabOk.nil) [0, 1, 1, 1, 1, 1, 1, 1, 1, 1, 1, 1, 1, 1] _ rfl) (fun x K => by kernel_rfl)

noncomputable def unicode_utf8_decodeRuneInStringSlow_p6 (N : Nat) (s0 : Int) (s1 : Int) (s2 : Int) (s3 : Int) (k0 : Bool → Option (Int × Int × Unit)) : Option (Int × Int × Unit) :=
  cond (decide (s3 < (128 : Int)))
  (k0 true)
  (k0 (decide ((191 : Int) < s3)))

noncomputable def unicode_utf8_decodeRuneInStringSlow_g6 (N : Nat) (x : denS [(5, .v (.int .u8)), (4, .v (.int .u8)), (0, .v (.int .u8)), (0, .v (.int .u8))]) (K : Ex → List A → Option (Int × Int × Unit)) : Option (Int × Int × Unit) :=
  unicode_utf8_decodeRuneInStringSlow_p6 N x.1 x.2.1 x.2.2.1 x.2.2.2.1 (fun a4 => (K .normal (mkS [(5, .v (.int .u8)), (4, .v (.int .u8)), (0, .v (.int .u8)), (0, .v (.int .u8)), (85, .v .bool)] 18 (x.1, x.2.1, x.2.2.1, x.2.2.2.1, a4, ()))))

noncomputable def unicode_utf8_decodeRuneInStringSlow_h6 (N : Nat) : Hd (Int × Int × Unit) := fun st K => (unS [(5, .v (.int .u8)), (4, .v (.int .u8)), (0, .v (.int .u8)), (0, .v (.int .u8))] 104 (restr [12, 5, 10, 11] 0 st)).bind fun x => unicode_utf8_decodeRuneInStringSlow_g6 N x K

noncomputable def unicode_utf8_decodeRuneInStringSlow_t6 (N : Nat) : Tab (Int × Int × Unit) := []

theorem unicode_utf8_decodeRuneInStringSlow_ok6 {N : Nat} {c : Ctx} (hb : Base Go.Proofs.Tryd.prog (unicode_utf8_decodeRuneInStringSlow_E N) c) : CodeOk Go.Proofs.Tryd.prog c (nodeAt unicode_utf8_decodeRuneInStringSlow_body [0, 0, 1, 1, 1, 1, 1, 1, 1, 1, 1, 1, 1, 1, 1, 1, 1, 1]) (unicode_utf8_decodeRuneInStringSlow_h6 N) :=
  piece_ok (s := [(5, .v (.int .u8)), (4, .v (.int .u8)), (0, .v (.int .u8)), (0, .v (.int .u8))]) (m := 104) (g := unicode_utf8_decodeRuneInStringSlow_g6 N) [12, 5, 10, 11] (evN_sound hb N (unicode_utf8_decodeRuneInStringSlow_t6 N) unicode_utf8_decodeRuneInStringSlow_L unicode_utf8_decodeRuneInStringSlow_body TabOk.nil [0, 0, 1, 1, 1, 1, 1, 1, 1, 1, 1, 1, 1, 1, 1, 1, 1, 1] _ rfl) (fun x K => by kernel_rfl)

noncomputable def unicode_utf8_decodeRuneInStringSlow_p5 (N : Nat) (s0 : Int) (s1 : Int) (s2 : Int) (s3 : Int) (k0 : Int → Int → Option (Int × Int × Unit)) (k1 : Option (Int × Int × Unit)) : Option (Int × Int × Unit) :=
  unicode_utf8_decodeRuneInStringSlow_p6 N s0 s1 s2 s3
  (fun x98 => cond x98
    (k0 (65533 : Int) (1 : Int))
    (k1))

noncomputable def unicode_utf8_decodeRuneInStringSlow_g5 (N : Nat) (x : denS [(5, .v (.int .u8)), (4, .v (.int .u8)), (0, .v (.int .u8)), (0, .v (.int .u8))]) (K : Ex → List A → Option (Int × Int × Unit)) : Option (Int × Int × Unit) :=
  unicode_utf8_decodeRuneInStringSlow_p5 N x.1 x.2.1 x.2.2.1 x.2.2.2.1 (fun a0 a1 => (K .ret (mkS [(2, .v (.int .i32)), (0, .v (.int .i64))] 113 (a0, a1, ())))) (K .normal (mkS [(5, .v (.int .u8)), (4, .v (.int .u8)), (0, .v (.int .u8)), (0, .v (.int .u8))] 104 (x.1, x.2.1, x.2.2.1, x.2.2.2.1, ())))

noncomputable def unicode_utf8_decodeRuneInStringSlow_h5 (N : Nat) : Hd (Int × Int × Unit) := fun st K => (unS [(5, .v (.int .u8)), (4, .v (.int .u8)), (0, .v (.int .u8)), (0, .v (.int .u8))] 104 (restr [12, 5, 10, 11] 0 st)).bind fun x => unicode_utf8_decodeRuneInStringSlow_g5 N x K

noncomputable def unicode_utf8_decodeRuneInStringSlow_t5 (N : Nat) : Tab (Int × Int × Unit) := [([0, 0, 1, 1, 1, 1, 1, 1, 1, 1, 1, 1, 1, 1, 1, 1, 1, 1], unicode_utf8_decodeRuneInStringSlow_h6 N)]

theorem unicode_utf8_decodeRuneInStringSlow_ok5 {N : Nat} {c : Ctx} (hb : Base Go.Proofs.Tryd.prog (unicode_utf8_decodeRuneInStringSlow_E N) c) : CodeOk Go.Proofs.Tryd.prog c (nodeAt unicode_utf8_decodeRuneInStringSlow_body [0, 1, 1, 1, 1, 1, 1, 1, 1, 1, 1, 1, 1, 1, 1, 1, 1]) (unicode_utf8_decodeRuneInStringSlow_h5 N) :=
  piece_ok (s := [(5, .v (.int .u8)), (4, .v (.int .u8)), (0, .v (.int .u8)), (0, .v (.int .u8))]) (m := 104) (g := unicode_utf8_decodeRuneInStringSlow_g5 N) [12, 5, 10, 11] (evN_sound hb N (unicode_utf8_decodeRuneInStringSlow_t5 N) unicode_utf8_decodeRuneInStringSlow_L unicode_utf8_decodeRuneInStringSlow_body (TabOk.cons (unicode_utf8_decodeRuneInStringSlow_ok6 hb) TabOk.nil) [0, 1, 1, 1, 1, 1, 1, 1, 1, 1, 1, 1, 1, 1, 1, 1, 1] _ rfl) (fun x K => by kernel_rfl)

noncomputable def unicode_utf8_decodeRuneInStringSlow (N : Nat) (s : (List UInt8)) : Option (Int × Int × Unit) :=
  cond (decide ((((List.length s) : Nat) : Int) < (1 : Int)))
  (some ((65533 : Int), ((0 : Int), ())))
  (cond (Go.Lift.inR (0 : Int) (List.length s))
    (cond (Go.Lift.inR (((UInt8.toNat (List.getD s 0 (0 : UInt8))) : Nat) : Int) 256)
      (cond (decide ((240 : Int) ≤ (List.getD glob1 (Int.toNat (((UInt8.toNat (List.getD s 0 (0 : UInt8))) : Nat) : Int)) (0 : Int))))
        (cond (Go.Lift.inR (0 : Int) (List.length s))
          (some ((Go.Lift.bitsOp Go.BinOp.or Go.IntKind.i32 (Go.Lift.bitsOp Go.BinOp.andNot Go.IntKind.i32 (Go.IntKind.wrap Go.IntKind.i32 (((UInt8.toNat (List.getD s 0 (0 : UInt8))) : Nat) : Int)) (Go.Lift.shrI Go.IntKind.i32 (Go.Lift.shlI Go.IntKind.i32 (Go.IntKind.wrap Go.IntKind.i32 (List.getD glob1 (Int.toNat (((UInt8.toNat (List.getD s 0 (0 : UInt8))) : Nat) : Int)) (0 : Int))) (31 : Int)) (31 : Int))) (Go.Lift.bitsOp Go.BinOp.and Go.IntKind.i32 (65533 : Int) (Go.Lift.shrI Go.IntKind.i32 (Go.Lift.shlI Go.IntKind.i32 (Go.IntKind.wrap Go.IntKind.i32 (List.getD glob1 (Int.toNat (((UInt8.toNat (List.getD s 0 (0 : UInt8))) : Nat) : Int)) (0 : Int))) (31 : Int)) (31 : Int)))), ((1 : Int), ())))
          (none))
        (cond (Go.Lift.inR (Go.Lift.shrI Go.IntKind.u8 (List.getD glob1 (Int.toNat (((UInt8.toNat (List.getD s 0 (0 : UInt8))) : Nat) : Int)) (0 : Int)) (4 : Int)) 16)
          (cond (decide ((((List.length s) : Nat) : Int) < (Go.IntKind.wrap Go.IntKind.i64 (Go.Lift.bitsOp Go.BinOp.and Go.IntKind.u8 (List.getD glob1 (Int.toNat (((UInt8.toNat (List.getD s 0 (0 : UInt8))) : Nat) : Int)) (0 : Int)) (7 : Int)))))
            (some ((65533 : Int), ((1 : Int), ())))
            (cond (Go.Lift.inR (1 : Int) (List.length s))
              (unicode_utf8_decodeRuneInStringSlow_p1 N s (((UInt8.toNat (List.getD s 0 (0 : UInt8))) : Nat) : Int) (Go.IntKind.wrap Go.IntKind.i64 (Go.Lift.bitsOp Go.BinOp.and Go.IntKind.u8 (List.getD glob1 (Int.toNat (((UInt8.toNat (List.getD s 0 (0 : UInt8))) : Nat) : Int)) (0 : Int)) (7 : Int))) (List.getD glob2 (Int.toNat (Go.Lift.shrI Go.IntKind.u8 (List.getD glob1 (Int.toNat (((UInt8.toNat (List.getD s 0 (0 : UInt8))) : Nat) : Int)) (0 : Int)) (4 : Int))) ((0 : Int), ((0 : Int), ()))) (((UInt8.toNat (List.getD s 1 (0 : UInt8))) : Nat) : Int)
                (fun x2 x3 => some (x2, (x3, ())))
                (cond (decide ((Go.IntKind.wrap Go.IntKind.i64 (Go.Lift.bitsOp Go.BinOp.and Go.IntKind.u8 (List.getD glob1 (Int.toNat (((UInt8.toNat (List.getD s 0 (0 : UInt8))) : Nat) : Int)) (0 : Int)) (7 : Int))) ≤ (2 : Int)))
                  (some ((Go.Lift.bitsOp Go.BinOp.or Go.IntKind.i32 (Go.Lift.shlI Go.IntKind.i32 (Go.IntKind.wrap Go.IntKind.i32 (Go.Lift.bitsOp Go.BinOp.and Go.IntKind.u8 (((UInt8.toNat (List.getD s 0 (0 : UInt8))) : Nat) : Int) (31 : Int))) (6 : Int)) (Go.IntKind.wrap Go.IntKind.i32 (Go.Lift.bitsOp Go.BinOp.and Go.IntKind.u8 (((UInt8.toNat (List.getD s 1 (0 : UInt8))) : Nat) : Int) (63 : Int)))), ((2 : Int), ())))
                  (cond (Go.Lift.inR (2 : Int) (List.length s))
                    (unicode_utf8_decodeRuneInStringSlow_p3 N s (((UInt8.toNat (List.getD s 0 (0 : UInt8))) : Nat) : Int) (Go.IntKind.wrap Go.IntKind.i64 (Go.Lift.bitsOp Go.BinOp.and Go.IntKind.u8 (List.getD glob1 (Int.toNat (((UInt8.toNat (List.getD s 0 (0 : UInt8))) : Nat) : Int)) (0 : Int)) (7 : Int))) (((UInt8.toNat (List.getD s 1 (0 : UInt8))) : Nat) : Int) (((UInt8.toNat (List.getD s 2 (0 : UInt8))) : Nat) : Int)
                      (fun x21 x31 => some (x21, (x31, ())))
                      (cond (decide ((Go.IntKind.wrap Go.IntKind.i64 (Go.Lift.bitsOp Go.BinOp.and Go.IntKind.u8 (List.getD glob1 (Int.toNat (((UInt8.toNat (List.getD s 0 (0 : UInt8))) : Nat) : Int)) (0 : Int)) (7 : Int))) ≤ (3 : Int)))
                        (some ((Go.Lift.bitsOp Go.BinOp.or Go.IntKind.i32 (Go.Lift.bitsOp Go.BinOp.or Go.IntKind.i32 (Go.Lift.shlI Go.IntKind.i32 (Go.IntKind.wrap Go.IntKind.i32 (Go.Lift.bitsOp Go.BinOp.and Go.IntKind.u8 (((UInt8.toNat (List.getD s 0 (0 : UInt8))) : Nat) : Int) (15 : Int))) (12 : Int)) (Go.Lift.shlI Go.IntKind.i32 (Go.IntKind.wrap Go.IntKind.i32 (Go.Lift.bitsOp Go.BinOp.and Go.IntKind.u8 (((UInt8.toNat (List.getD s 1 (0 : UInt8))) : Nat) : Int) (63 : Int))) (6 : Int))) (Go.IntKind.wrap Go.IntKind.i32 (Go.Lift.bitsOp Go.BinOp.and Go.IntKind.u8 (((UInt8.toNat (List.getD s 2 (0 : UInt8))) : Nat) : Int) (63 : Int)))), ((3 : Int), ())))
                        (cond (Go.Lift.inR (3 : Int) (List.length s))
                          (unicode_utf8_decodeRuneInStringSlow_p5 N (((UInt8.toNat (List.getD s 0 (0 : UInt8))) : Nat) : Int) (((UInt8.toNat (List.getD s 1 (0 : UInt8))) : Nat) : Int) (((UInt8.toNat (List.getD s 2 (0 : UInt8))) : Nat) : Int) (((UInt8.toNat (List.getD s 3 (0 : UInt8))) : Nat) : Int)
                            (fun x22 x32 => some (x22, (x32, ())))
                            (some ((Go.Lift.bitsOp Go.BinOp.or Go.IntKind.i32 (Go.Lift.bitsOp Go.BinOp.or Go.IntKind.i32 (Go.Lift.bitsOp Go.BinOp.or Go.IntKind.i32 (Go.Lift.shlI Go.IntKind.i32 (Go.IntKind.wrap Go.IntKind.i32 (Go.Lift.bitsOp Go.BinOp.and Go.IntKind.u8 (((UInt8.toNat (List.getD s 0 (0 : UInt8))) : Nat) : Int) (7 : Int))) (18 : Int)) (Go.Lift.shlI Go.IntKind.i32 (Go.IntKind.wrap Go.IntKind.i32 (Go.Lift.bitsOp Go.BinOp.and Go.IntKind.u8 (((UInt8.toNat (List.getD s 1 (0 : UInt8))) : Nat) : Int) (63 : Int))) (12 : Int))) (Go.Lift.shlI Go.IntKind.i32 (Go.IntKind.wrap Go.IntKind.i32 (Go.Lift.bitsOp Go.BinOp.and Go.IntKind.u8 (((UInt8.toNat (List.getD s 2 (0 : UInt8))) : Nat) : Int) (63 : Int))) (6 : Int))) (Go.IntKind.wrap Go.IntKind.i32 (Go.Lift.bitsOp Go.BinOp.and Go.IntKind.u8 (((UInt8.toNat (List.getD s 3 (0 : UInt8))) : Nat) : Int) (63 : Int)))), ((4 : Int), ()))))
                          (none))))
                    (none))))
              (none)))
          (none)))
      (none))
    (none))

noncomputable def unicode_utf8_decodeRuneInStringSlow_t (N : Nat) : Tab (Int × Int × Unit) := [([0, 1, 1, 1, 1, 1, 1, 1, 1, 1, 1], unicode_utf8_decodeRuneInStringSlow_h1 N), ([0, 1, 1, 1, 1, 1, 1, 1, 1, 1, 1, 1, 1, 1], unicode_utf8_decodeRuneInStringSlow_h3 N), ([0, 1, 1, 1, 1, 1, 1, 1, 1, 1, 1, 1, 1, 1, 1, 1, 1], unicode_utf8_decodeRuneInStringSlow_h5 N)]

theorem unicode_utf8_decodeRuneInStringSlow_link (N : Nat) (x : denS [(0, .v .str)]) : evFX (unicode_utf8_decodeRuneInStringSlow_E N) N (unicode_utf8_decodeRuneInStringSlow_t N) unicode_utf8_decodeRuneInStringSlow_L Go.Proofs.Tryd.f40 (mkS [(0, .v .str)] 0 x) (kRes (.tup [(.int .i32), (.int .i64)]) 1) = unicode_utf8_decodeRuneInStringSlow N x.1 := by kernel_rfl

noncomputable def unicode_utf8_decodeRuneInStringSlow_res (N : Nat) : List A → Res := resOf [(0, .v .str)] (fun x => unicode_utf8_decodeRuneInStringSlow N x.1) (oRes (.tup [(.int .i32), (.int .i64)]) 1)

theorem unicode_utf8_decodeRuneInStringSlow_ct (N : Nat) : Contract Go.Proofs.Tryd.prog glob 40 (unicode_utf8_decodeRuneInStringSlow_res N) :=
  Contract.of (E := unicode_utf8_decodeRuneInStringSlow_E N) (H := unicode_utf8_decodeRuneInStringSlow_t N) (L := unicode_utf8_decodeRuneInStringSlow_L) (N := N) (body := unicode_utf8_decodeRuneInStringSlow_body) (K := (kRes (.tup [(.int .i32), (.int .i64)]) 1)) (unicode_utf8_decodeRuneInStringSlow_Eok N) Go.Proofs.Tryd.func40 (by kernel_rfl) (by decide) (fun _ hb => (TabOk.cons (unicode_utf8_decodeRuneInStringSlow_ok1 hb) (TabOk.cons (unicode_utf8_decodeRuneInStringSlow_ok3 hb) (TabOk.cons (unicode_utf8_decodeRuneInStringSlow_ok5 hb) TabOk.nil)))) (fun x y h => by rw [unicode_utf8_decodeRuneInStringSlow_link]; exact h) (kRes_ok (s := (.tup [(.int .i32), (.int .i64)])) (m := 1))

abbrev unicode_utf8_DecodeRuneInString_R : Type := (Int × Int × Unit)

noncomputable def unicode_utf8_DecodeRuneInString_body : Code := (Go.Proofs.Tryd.f33.body).getD .skip

noncomputable def unicode_utf8_DecodeRuneInString_L : List (List Nat × List Nat) := [([0], [0]), ([0, 0, 1], [10, 0]), ([1, 0, 1], [2, 3]), ([1, 1, 0, 1], [2, 3]), ([0, 0, 1, 0, 1], [2, 3]), ([1, 0, 1, 0, 1], [2, 3]), ([1, 1], [2, 3])]

noncomputable def unicode_utf8_DecodeRuneInString_E (N : Nat) : Env := mkEnv tys glob [(40, unicode_utf8_decodeRuneInStringSlow_res N)] [] [] [] false

theorem unicode_utf8_DecodeRuneInString_Eok (N : Nat) : EnvOk Go.Proofs.Tryd.prog (unicode_utf8_DecodeRuneInString_E N) := mkEnv_ok mixed tys_ok (FnsOk.cons (unicode_utf8_decodeRuneInStringSlow_ct N) (FnsOk.nil))

noncomputable def unicode_utf8_DecodeRuneInString_p1 (N : Nat) (s : (List UInt8)) (k0 : Bool → Option (Int × Int × Unit)) : Option (Int × Int × Unit) :=
  cond (!(s == ([] : List UInt8)))
  (cond (Go.Lift.inR (0 : Int) (List.length s))
    (k0 (decide ((((UInt8.toNat (List.getD s 0 (0 : UInt8))) : Nat) : Int) < (128 : Int))))
    (none))
  (k0 false)

noncomputable def unicode_utf8_DecodeRuneInString_g1 (N : Nat) (x : denS [(0, .v .str)]) (K : Ex → List A → Option (Int × Int × Unit)) : Option (Int × Int × Unit) :=
  unicode_utf8_DecodeRuneInString_p1 N x.1 (fun a1 => (K .normal (mkS [(0, .v .str), (9, .v .bool)] 8 (x.1, a1, ()))))

noncomputable def unicode_utf8_DecodeRuneInString_h1 (N : Nat) : Hd (Int × Int × Unit) := fun st K => (unS [(0, .v .str)] 18 (restr [0] 0 st)).bind fun x => unicode_utf8_DecodeRuneInString_g1 N x K

noncomputable def unicode_utf8_DecodeRuneInString_t1 (N : Nat) : Tab (Int × Int × Unit) := []

theorem unicode_utf8_DecodeRuneInString_ok1 {N : Nat} {c : Ctx} (hb : Base Go.Proofs.Tryd.prog (unicode_utf8_DecodeRuneInString_E N) c) : CodeOk Go.Proofs.Tryd.prog c (nodeAt unicode_utf8_DecodeRuneInString_body [0, 0, 1]) (unicode_utf8_DecodeRuneInString_h1 N) :=
  piece_ok (s := [(0, .v .str)]) (m := 18) (g := unicode_utf8_DecodeRuneInString_g1 N) [0] (evN_sound hb N (unicode_utf8_DecodeRuneInString_t1 N) unicode_utf8_DecodeRuneInString_L unicode_utf8_DecodeRuneInString_body TabOk.nil [0, 0, 1] _ rfl) (fun x K => by kernel_rfl)

noncomputable def unicode_utf8_DecodeRuneInString (N : Nat) (s : (List UInt8)) : Option (Int × Int × Unit) :=
  unicode_utf8_DecodeRuneInString_p1 N s
  (fun x10 => cond x10
    (cond (Go.Lift.inR (0 : Int) (List.length s))
      (some ((Go.IntKind.wrap Go.IntKind.i32 (((UInt8.toNat (List.getD s 0 (0 : UInt8))) : Nat) : Int)), ((1 : Int), ())))
      (none))
    ((unicode_utf8_decodeRuneInStringSlow N s).bind fun y =>
      some (y.1, (y.2.1, ()))))

noncomputable def unicode_utf8_DecodeRuneInString_t (N : Nat) : Tab (Int × Int × Unit) := [([0, 0, 1], unicode_utf8_DecodeRuneInString_h1 N)]

theorem unicode_utf8_DecodeRuneInString_link (N : Nat) (x : denS [(0, .v .str)]) : evFX (unicode_utf8_DecodeRuneInString_E N) N (unicode_utf8_DecodeRuneInString_t N) unicode_utf8_DecodeRuneInString_L Go.Proofs.Tryd.f33 (mkS [(0, .v .str)] 0 x) (kRes (.tup [(.int .i32), (.int .i64)]) 1) = unicode_utf8_DecodeRuneInString N x.1 := by kernel_rfl

noncomputable def unicode_utf8_DecodeRuneInString_res (N : Nat) : List A → Res := resOf [(0, .v .str)] (fun x => unicode_utf8_DecodeRuneInString N x.1) (oRes (.tup [(.int .i32), (.int .i64)]) 1)

theorem unicode_utf8_DecodeRuneInString_ct (N : Nat) : Contract Go.Proofs.Tryd.prog glob 33 (unicode_utf8_DecodeRuneInString_res N) :=
  Contract.of (E := unicode_utf8_DecodeRuneInString_E N) (H := unicode_utf8_DecodeRuneInString_t N) (L := unicode_utf8_DecodeRuneInString_L) (N := N) (body := unicode_utf8_DecodeRuneInString_body) (K := (kRes (.tup [(.int .i32), (.int .i64)]) 1)) (unicode_utf8_DecodeRuneInString_Eok N) Go.Proofs.Tryd.func33 (by kernel_rfl) (by decide) (fun _ hb => (TabOk.cons (unicode_utf8_DecodeRuneInString_ok1 hb) TabOk.nil)) (fun x y h => by rw [unicode_utf8_DecodeRuneInString_link]; exact h) (kRes_ok (s := (.tup [(.int .i32), (.int .i64)])) (m := 1))

abbrev quote_Unit_R : Type := Int

noncomputable def quote_Unit_body : Code := (Go.Proofs.Tryd.f13.body).getD .skip

noncomputable def quote_Unit_L : List (List Nat × List Nat) := [([0], [1, 0]), ([0, 0, 1], [14, 0, 1]), ([1, 0, 1], [0, 1]), ([0, 0, 1, 0, 1], [4]), ([1, 0, 1, 0, 1], [4]), ([0, 1, 1], [6]), ([0, 1, 1, 1], [4]), ([1, 1, 1, 1], [4])]

noncomputable def quote_Unit_E (N : Nat) : Env := mkEnv tys glob [(33, unicode_utf8_DecodeRuneInString_res N)] [] [] [] false

theorem quote_Unit_Eok (N : Nat) : EnvOk Go.Proofs.Tryd.prog (quote_Unit_E N) := mkEnv_ok mixed tys_ok (FnsOk.cons (unicode_utf8_DecodeRuneInString_ct N) (FnsOk.nil))

noncomputable def quote_Unit_p2 (N : Nat) (s : (List UInt8)) (at_ : Int) (k0 : Bool → Option Int) : Option Int :=
  cond (decide (at_ < (0 : Int)))
  (k0 true)
  (k0 (decide ((((List.length s) : Nat) : Int) ≤ at_)))

noncomputable def quote_Unit_g2 (N : Nat) (x : denS [(0, .v .str), (0, .v (.int .i64))]) (K : Ex → List A → Option Int) : Option Int :=
  quote_Unit_p2 N x.1 x.2.1 (fun a2 => (K .normal (mkS [(0, .v .str), (0, .v (.int .i64)), (12, .v .bool)] 8 (x.1, x.2.1, a2, ()))))

noncomputable def quote_Unit_h2 (N : Nat) : Hd Int := fun st K => (unS [(0, .v .str), (0, .v (.int .i64))] 21 (restr [1, 0] 0 st)).bind fun x => quote_Unit_g2 N x K

noncomputable def quote_Unit_t2 (N : Nat) : Tab Int := []

theorem quote_Unit_ok2 {N : Nat} {c : Ctx} (hb : Base Go.Proofs.Tryd.prog (quote_Unit_E N) c) : CodeOk Go.Proofs.Tryd.prog c (nodeAt quote_Unit_body [0, 0, 1]) (quote_Unit_h2 N) :=
  piece_ok (s := [(0, .v .str), (0, .v (.int .i64))]) (m := 21) (g := quote_Unit_g2 N) [1, 0] (evN_sound hb N (quote_Unit_t2 N) quote_Unit_L quote_Unit_body TabOk.nil [0, 0, 1] _ rfl) (fun x K => by kernel_rfl)

noncomputable def quote_Unit_p1 (N : Nat) (s : (List UInt8)) (at_ : Int) (k0 : Int → Option Int) (k1 : Option Int) : Option Int :=
  quote_Unit_p2 N s at_
  (fun x14 => cond x14
    (k0 (0 : Int))
    (k1))

noncomputable def quote_Unit_g1 (N : Nat) (x : denS [(0, .v .str), (0, .v (.int .i64))]) (K : Ex → List A → Option Int) : Option Int :=
  quote_Unit_p1 N x.1 x.2.1 (fun a0 => (K .ret (mkS [(4, .v (.int .i64))] 18 (a0, ())))) (K .normal (mkS [(0, .v .str), (0, .v (.int .i64))] 21 (x.1, x.2.1, ())))

noncomputable def quote_Unit_h1 (N : Nat) : Hd Int := fun st K => (unS [(0, .v .str), (0, .v (.int .i64))] 21 (restr [1, 0] 0 st)).bind fun x => quote_Unit_g1 N x K

noncomputable def quote_Unit_t1 (N : Nat) : Tab Int := [([0, 0, 1], quote_Unit_h2 N)]

theorem quote_Unit_ok1 {N : Nat} {c : Ctx} (hb : Base Go.Proofs.Tryd.prog (quote_Unit_E N) c) : CodeOk Go.Proofs.Tryd.prog c (nodeAt quote_Unit_body [0, 1]) (quote_Unit_h1 N) :=
  piece_ok (s := [(0, .v .str), (0, .v (.int .i64))]) (m := 21) (g := quote_Unit_g1 N) [1, 0] (evN_sound hb N (quote_Unit_t1 N) quote_Unit_L quote_Unit_body (TabOk.cons (quote_Unit_ok2 hb) TabOk.nil) [0, 1] _ rfl) (fun x K => by kernel_rfl)

noncomputable def quote_Unit (N : Nat) (s : (List UInt8)) (at_ : Int) : Option Int :=
  quote_Unit_p1 N s at_
  (fun x4 => some x4)
  (cond (decide (((0 : Int) ≤ at_) ∧ (at_ ≤ (((List.length s) : Nat) : Int))))
    ((unicode_utf8_DecodeRuneInString N (Go.Lift.cut s (Int.toNat at_) (List.length s))).bind fun y =>
      some y.2.1)
    (none))

noncomputable def quote_Unit_t (N : Nat) : Tab Int := [([0, 1], quote_Unit_h1 N)]

theorem quote_Unit_link (N : Nat) (x : denS [(0, .v .str), (0, .v (.int .i64))]) : evFX (quote_Unit_E N) N (quote_Unit_t N) quote_Unit_L Go.Proofs.Tryd.f13 (mkS [(0, .v .str), (0, .v (.int .i64))] 0 x) (kRes (.v (.int .i64)) 2) = quote_Unit N x.1 x.2.1 := by kernel_rfl

noncomputable def quote_Unit_res (N : Nat) : List A → Res := resOf [(0, .v .str), (0, .v (.int .i64))] (fun x => quote_Unit N x.1 x.2.1) (oRes (.v (.int .i64)) 2)

theorem quote_Unit_ct (N : Nat) : Contract Go.Proofs.Tryd.prog glob 13 (quote_Unit_res N) :=
  Contract.of (E := quote_Unit_E N) (H := quote_Unit_t N) (L := quote_Unit_L) (N := N) (body := quote_Unit_body) (K := (kRes (.v (.int .i64)) 2)) (quote_Unit_Eok N) Go.Proofs.Tryd.func13 (by kernel_rfl) (by decide) (fun _ hb => (TabOk.cons (quote_Unit_ok1 hb) TabOk.nil)) (fun x y h => by rw [quote_Unit_link]; exact h) (kRes_ok (s := (.v (.int .i64))) (m := 2))

abbrev quote_plain_R : Type := Bool

noncomputable def quote_plain_body : Code := (Go.Proofs.Tryd.f30.body).getD .skip

noncomputable def quote_plain_L : List (List Nat × List Nat) := [([0], [2, 0, 1]), ([0, 0, 1], [14, 2]), ([1, 0, 1], [2]), ([0, 0, 1, 0, 1], [6]), ([1, 0, 1, 0, 1], [6]), ([0, 1, 1], [6]), ([1, 1, 1], [6])]

noncomputable def quote_plain_E (N : Nat) : Env := mkEnv tys glob [(13, quote_Unit_res N)] [] [] [] false

theorem quote_plain_Eok (N : Nat) : EnvOk Go.Proofs.Tryd.prog (quote_plain_E N) := mkEnv_ok mixed tys_ok (FnsOk.cons (quote_Unit_ct N) (FnsOk.nil))

noncomputable def quote_plain_p2 (N : Nat) (s : (List UInt8)) (at_ : Int) (c : Int) (k0 : Bool → Option Bool) : Option Bool :=
  cond (c == (65533 : Int))
  ((quote_Unit N s at_).bind fun y =>
    k0 (y == (1 : Int)))
  (k0 false)

noncomputable def quote_plain_g2 (N : Nat) (x : denS [(0, .v .str), (0, .v (.int .i64)), (0, .v (.int .i32))]) (K : Ex → List A → Option Bool) : Option Bool :=
  quote_plain_p2 N x.1 x.2.1 x.2.2.1 (fun a1 => (K .normal (mkS [(2, .v (.int .i32)), (11, .v .bool)] 6 (x.2.2.1, a1, ()))))

noncomputable def quote_plain_h2 (N : Nat) : Hd Bool := fun st K => (unS [(0, .v .str), (0, .v (.int .i64)), (0, .v (.int .i32))] 18 (restr [2, 0, 1] 0 st)).bind fun x => quote_plain_g2 N x K

noncomputable def quote_plain_t2 (N : Nat) : Tab Bool := []

theorem quote_plain_ok2 {N : Nat} {c : Ctx} (hb : Base Go.Proofs.Tryd.prog (quote_plain_E N) c) : CodeOk Go.Proofs.Tryd.prog c (nodeAt quote_plain_body [0, 0, 1]) (quote_plain_h2 N) :=
  piece_ok (s := [(0, .v .str), (0, .v (.int .i64)), (0, .v (.int .i32))]) (m := 18) (g := quote_plain_g2 N) [2, 0, 1] (evN_sound hb N (quote_plain_t2 N) quote_plain_L quote_plain_body TabOk.nil [0, 0, 1] _ rfl) (fun x K => by kernel_rfl)

noncomputable def quote_plain_p1 (N : Nat) (s : (List UInt8)) (at_ : Int) (c : Int) (k0 : Bool → Option Bool) (k1 : Option Bool) : Option Bool :=
  quote_plain_p2 N s at_ c
  (fun x14 => cond x14
    (k0 false)
    (k1))

noncomputable def quote_plain_g1 (N : Nat) (x : denS [(0, .v .str), (0, .v (.int .i64)), (0, .v (.int .i32))]) (K : Ex → List A → Option Bool) : Option Bool :=
  quote_plain_p1 N x.1 x.2.1 x.2.2.1 (fun a0 => (K .ret (mkS [(6, .v .bool)] 14 (a0, ())))) (K .normal (mkS [(2, .v (.int .i32))] 18 (x.2.2.1, ())))

noncomputable def quote_plain_h1 (N : Nat) : Hd Bool := fun st K => (unS [(0, .v .str), (0, .v (.int .i64)), (0, .v (.int .i32))] 18 (restr [2, 0, 1] 0 st)).bind fun x => quote_plain_g1 N x K

noncomputable def quote_plain_t1 (N : Nat) : Tab Bool := [([0, 0, 1], quote_plain_h2 N)]

theorem quote_plain_ok1 {N : Nat} {c : Ctx} (hb : Base Go.Proofs.Tryd.prog (quote_plain_E N) c) : CodeOk Go.Proofs.Tryd.prog c (nodeAt quote_plain_body [0, 1]) (quote_plain_h1 N) :=
  piece_ok (s := [(0, .v .str), (0, .v (.int .i64)), (0, .v (.int .i32))]) (m := 18) (g := quote_plain_g1 N) [2, 0, 1] (evN_sound hb N (quote_plain_t1 N) quote_plain_L quote_plain_body (TabOk.cons (quote_plain_ok2 hb) TabOk.nil) [0, 1] _ rfl) (fun x K => by kernel_rfl)

noncomputable def quote_plain (N : Nat) (s : (List UInt8)) (at_ : Int) (c : Int) : Option Bool :=
  quote_plain_p1 N s at_ c
  (fun x6 => some x6)
  (cond (decide ((32 : Int) ≤ c))
    (some (c != (127 : Int)))
    (some false))

noncomputable def quote_plain_t (N : Nat) : Tab Bool := [([0, 1], quote_plain_h1 N)]

theorem quote_plain_link (N : Nat) (x : denS [(0, .v .str), (0, .v (.int .i64)), (0, .v (.int .i32))]) : evFX (quote_plain_E N) N (quote_plain_t N) quote_plain_L Go.Proofs.Tryd.f30 (mkS [(0, .v .str), (0, .v (.int .i64)), (0, .v (.int .i32))] 0 x) (kRes (.v .bool) 3) = quote_plain N x.1 x.2.1 x.2.2.1 := by kernel_rfl

noncomputable def quote_plain_res (N : Nat) : List A → Res := resOf [(0, .v .str), (0, .v (.int .i64)), (0, .v (.int .i32))] (fun x => quote_plain N x.1 x.2.1 x.2.2.1) (oRes (.v .bool) 3)

theorem quote_plain_ct (N : Nat) : Contract Go.Proofs.Tryd.prog glob 30 (quote_plain_res N) :=
  Contract.of (E := quote_plain_E N) (H := quote_plain_t N) (L := quote_plain_L) (N := N) (body := quote_plain_body) (K := (kRes (.v .bool) 3)) (quote_plain_Eok N) Go.Proofs.Tryd.func30 (by kernel_rfl) (by decide) (fun _ hb => (TabOk.cons (quote_plain_ok1 hb) TabOk.nil)) (fun x y h => by rw [quote_plain_link]; exact h) (kRes_ok (s := (.v .bool)) (m := 3))

abbrev quote_body_R : Type := ((List UInt8) × Int × (Int × (Int × Unit)) × Unit)

noncomputable def quote_body_body : Code := (Go.Proofs.Tryd.f34.body).getD .skip

noncomputable def quote_body_L : List (List Nat × List Nat) := [([0], [1, 0, 6]), ([0, 1], [1, 0, 7, 6]), ([0, 1, 1], [0, 1, 8, 7, 6]), ([0, 0, 1, 1, 1], [18, 1, 8, 7, 6, 0]), ([0, 1, 0, 1, 1, 1], [18, 1, 8, 7, 6, 0]), ([0, 0, 0, 1, 0, 1, 1, 1], [20, 19, 1, 8, 18, 7, 6, 0]), ([0, 1, 0, 0, 1, 0, 1, 1, 1], [19, 1, 8, 18, 7, 6, 0]), ([1, 0, 1, 0, 0, 1, 0, 1, 1, 1], [0, 6]), ([0, 0, 1, 1, 0, 0, 1, 0, 1, 1, 1], [9, 1, 8, 18, 7, 6, 0, 10]), ([0, 1, 0, 1, 1, 0, 0, 1, 0, 1, 1, 1], [9, 8, 18, 1, 7, 6, 0, 10]), ([0, 0, 1, 1, 0, 1, 1, 0, 0, 1, 0, 1, 1, 1], [28, 18, 1, 8, 7, 6, 0, 10, 9]), ([1, 0, 1, 1, 0, 1, 1, 0, 0, 1, 0, 1, 1, 1], [18, 1, 8, 7, 6, 0]), ([0, 1, 1, 0, 1, 1, 0, 1, 1, 0, 0, 1, 0, 1, 1, 1], [32, 7, 9, 6, 10, 0, 18, 1, 8]), ([1, 1, 1, 0, 1, 1, 0, 1, 1, 0, 0, 1, 0, 1, 1, 1], [18, 1, 8, 7, 6, 0]), ([0, 1, 1, 1, 1, 0, 1, 1, 0, 1, 1, 0, 0, 1, 0, 1, 1, 1], [40, 0, 9, 6, 7, 18, 1, 10, 8]), ([1, 1, 1, 1, 1, 0, 1, 1, 0, 1, 1, 0, 0, 1, 0, 1, 1, 1], [18, 1, 8, 7, 6, 0]), ([0, 1, 1, 1, 1, 1, 1, 0, 1, 1, 0, 1, 1, 0, 0, 1, 0, 1, 1, 1], [71, 7, 0, 9, 18, 1, 8, 6]), ([1, 1, 1, 1, 1, 1, 1, 0, 1, 1, 0, 1, 1, 0, 0, 1, 0, 1, 1, 1], [18, 1, 8, 7, 6, 0]), ([0, 1, 1, 1, 1, 1, 1, 1, 1, 0, 1, 1, 0, 1, 1, 0, 0, 1, 0, 1, 1, 1], [4, 5, 6]), ([1, 1, 1, 1, 1, 1, 1, 1, 1, 0, 1, 1, 0, 1, 1, 0, 0, 1, 0, 1, 1, 1], [4, 5, 6]), ([0, 1, 1, 1, 1, 1, 1, 1, 0, 1, 1, 0, 1, 1, 0, 0, 1, 0, 1, 1, 1], [18, 1, 8, 7, 6, 0]), ([0, 0, 1, 1, 1, 1, 1, 0, 1, 1, 0, 1, 1, 0, 0, 1, 0, 1, 1, 1], [13, 0, 6, 9, 7, 11, 12, 18, 1]), ([0, 0, 1, 0, 1, 1, 1, 1, 1, 0, 1, 1, 0, 1, 1, 0, 0, 1, 0, 1, 1, 1], [53, 13, 0, 6, 9, 7, 11, 12, 18, 1]), ([1, 0, 1, 0, 1, 1, 1, 1, 1, 0, 1, 1, 0, 1, 1, 0, 0, 1, 0, 1, 1, 1], [13, 9, 6, 7, 11, 12, 18, 1, 0]), ([0, 0, 1, 0, 1, 0, 1, 1, 1, 1, 1, 0, 1, 1, 0, 1, 1, 0, 0, 1, 0, 1, 1, 1], [4, 5, 6]), ([1, 0, 1, 0, 1, 0, 1, 1, 1, 1, 1, 0, 1, 1, 0, 1, 1, 0, 0, 1, 0, 1, 1, 1], [4, 5, 6]), ([0, 0, 1, 1, 0, 1, 1, 1, 1, 1, 0, 1, 1, 0, 1, 1, 0, 0, 1, 0, 1, 1, 1], [59, 13, 9, 6, 7, 11, 12, 18, 1, 0]), ([1, 0, 1, 1, 0, 1, 1, 1, 1, 1, 0, 1, 1, 0, 1, 1, 0, 0, 1, 0, 1, 1, 1], [7, 11, 9, 12, 18, 1, 6, 0]), ([0, 0, 1, 0, 1, 1, 0, 1, 1, 1, 1, 1, 0, 1, 1, 0, 1, 1, 0, 0, 1, 0, 1, 1, 1], [4, 5, 6]), ([1, 0, 1, 0, 1, 1, 0, 1, 1, 1, 1, 1, 0, 1, 1, 0, 1, 1, 0, 0, 1, 0, 1, 1, 1], [4, 5, 6]), ([0, 1, 1, 1, 0, 1, 1, 1, 1, 1, 0, 1, 1, 0, 1, 1, 0, 0, 1, 0, 1, 1, 1], [9, 12, 18, 1, 7, 6, 0]), ([1, 1, 1, 1, 0, 1, 1, 1, 1, 1, 0, 1, 1, 0, 1, 1, 0, 0, 1, 0, 1, 1, 1], [18, 1, 8, 7, 6, 0]), ([0, 0, 1, 1, 1, 0, 1, 1, 0, 1, 1, 0, 0, 1, 0, 1, 1, 1], [4, 5, 6]), ([1, 0, 1, 1, 1, 0, 1, 1, 0, 1, 1, 0, 0, 1, 0, 1, 1, 1], [4, 5, 6]), ([1, 1, 0, 1, 1, 0, 0, 1, 0, 1, 1, 1], [18, 1, 8, 7, 6, 0]), ([1, 1, 0, 0, 1, 0, 1, 1, 1], [18, 1, 8, 7, 6, 0]), ([1, 0, 1, 1, 1], [0, 6]), ([0, 1, 1, 1, 1], [4, 5, 6]), ([1, 1, 1, 1, 1], [4, 5, 6])]

noncomputable def quote_body_E (N : Nat) : Env := mkEnv tys glob [(30, quote_plain_res N), (13, quote_Unit_res N), (41, quote_escape_res N)] [(7, (.int .u8))] [] [] false

theorem quote_body_Eok (N : Nat) : EnvOk Go.Proofs.Tryd.prog (quote_body_E N) := mkEnv_ok mixed tys_ok (FnsOk.cons (quote_plain_ct N) (FnsOk.cons (quote_Unit_ct N) (FnsOk.cons (quote_escape_ct N) (FnsOk.nil))))

noncomputable def quote_body_s1 (N : Nat) (s : (List UInt8)) (from_ : Int) (x6 : (Int × (Int × Unit))) (out : (List Int)) (next : Int) (x18 : (List UInt8 × Nat)) (rec : (List Int) → Int → (List UInt8 × Nat) → Option ((List UInt8) × Int × (Int × (Int × Unit)) × Unit)) (k0 : (List UInt8) → Int → (Int × (Int × Unit)) → Option ((List UInt8) × Int × (Int × (Int × Unit)) × Unit)) (k1 : Option ((List UInt8) × Int × (Int × (Int × Unit)) × Unit)) : Option ((List UInt8) × Int × (Int × (Int × Unit)) × Unit) :=
  cond (decide (x18.2 < (List.length x18.1)))
  (cond (decide ((Go.IntKind.wrap Go.IntKind.i64 (((x18.2 : Nat) : Int) + from_)) < next))
    (rec out next (x18.1, (x18.2 + (Go.Lift.runeAt x18.1 x18.2).2)))
    (cond ((((Go.Lift.runeAt x18.1 x18.2).1 : Nat) : Int) == (34 : Int))
      (k0 (Go.Lift.toStr out) (Go.IntKind.wrap Go.IntKind.i64 ((Go.IntKind.wrap Go.IntKind.i64 (((x18.2 : Nat) : Int) + from_)) + (1 : Int))) ((0 : Int), ((0 : Int), ())))
      (cond ((((Go.Lift.runeAt x18.1 x18.2).1 : Nat) : Int) == (92 : Int))
        (cond (decide (((0 : Int) ≤ (Go.IntKind.wrap Go.IntKind.i64 ((Go.IntKind.wrap Go.IntKind.i64 (((x18.2 : Nat) : Int) + from_)) + (1 : Int)))) ∧ ((Go.IntKind.wrap Go.IntKind.i64 ((Go.IntKind.wrap Go.IntKind.i64 (((x18.2 : Nat) : Int) + from_)) + (1 : Int))) ≤ (((List.length s) : Nat) : Int))))
          ((quote_escape N (Go.Lift.cut s (Int.toNat (Go.IntKind.wrap Go.IntKind.i64 ((Go.IntKind.wrap Go.IntKind.i64 (((x18.2 : Nat) : Int) + from_)) + (1 : Int)))) (List.length s))).bind fun y =>
            cond (y.2.2.1 == (1 : Int))
            (k0 ([] : List UInt8) (0 : Int) (y.2.2.1, ((((List.length s) : Nat) : Int), ())))
            (cond (y.2.2.1 != (0 : Int))
              (k0 ([] : List UInt8) (0 : Int) (y.2.2.1, ((Go.IntKind.wrap Go.IntKind.i64 (((x18.2 : Nat) : Int) + from_)), ())))
              (cond (decide ((((List.length out) + 1) * 1) ≤ 70368744177664))
                (rec (out ++ ([y.1] : List Int)) (Go.IntKind.wrap Go.IntKind.i64 ((Go.IntKind.wrap Go.IntKind.i64 ((Go.IntKind.wrap Go.IntKind.i64 (((x18.2 : Nat) : Int) + from_)) + (1 : Int))) + y.2.1)) (x18.1, (x18.2 + (Go.Lift.runeAt x18.1 x18.2).2)))
                (none))))
          (none))
        ((quote_plain N s (Go.IntKind.wrap Go.IntKind.i64 (((x18.2 : Nat) : Int) + from_)) (((Go.Lift.runeAt x18.1 x18.2).1 : Nat) : Int)).bind fun y1 =>
          cond y1
          ((quote_Unit N s (Go.IntKind.wrap Go.IntKind.i64 (((x18.2 : Nat) : Int) + from_))).bind fun y2 =>
            cond (decide (((0 : Int) ≤ (Go.IntKind.wrap Go.IntKind.i64 ((Go.IntKind.wrap Go.IntKind.i64 (((x18.2 : Nat) : Int) + from_)) + y2))) ∧ ((Go.IntKind.wrap Go.IntKind.i64 ((Go.IntKind.wrap Go.IntKind.i64 (((x18.2 : Nat) : Int) + from_)) + y2)) ≤ (((List.length s) : Nat) : Int))))
            (cond (decide (((0 : Int) ≤ (Go.IntKind.wrap Go.IntKind.i64 (((x18.2 : Nat) : Int) + from_))) ∧ ((Go.IntKind.wrap Go.IntKind.i64 (((x18.2 : Nat) : Int) + from_)) ≤ (Go.IntKind.wrap Go.IntKind.i64 ((Go.IntKind.wrap Go.IntKind.i64 (((x18.2 : Nat) : Int) + from_)) + y2)))))
              (cond (decide ((((List.length out) + (List.length (Go.Lift.ofStr (Go.Lift.cut s (Int.toNat (Go.IntKind.wrap Go.IntKind.i64 (((x18.2 : Nat) : Int) + from_))) (Int.toNat (Go.IntKind.wrap Go.IntKind.i64 ((Go.IntKind.wrap Go.IntKind.i64 (((x18.2 : Nat) : Int) + from_)) + y2))))))) * 1) ≤ 70368744177664))
                (rec (out ++ (Go.Lift.ofStr (Go.Lift.cut s (Int.toNat (Go.IntKind.wrap Go.IntKind.i64 (((x18.2 : Nat) : Int) + from_))) (Int.toNat (Go.IntKind.wrap Go.IntKind.i64 ((Go.IntKind.wrap Go.IntKind.i64 (((x18.2 : Nat) : Int) + from_)) + y2)))))) next (x18.1, (x18.2 + (Go.Lift.runeAt x18.1 x18.2).2)))
                (none))
              (none))
            (none))
          (k0 ([] : List UInt8) (0 : Int) ((2 : Int), ((Go.IntKind.wrap Go.IntKind.i64 (((x18.2 : Nat) : Int) + from_)), ())))))))
  (k1)

noncomputable def quote_body_p1 (N : Nat) (s : (List UInt8)) (from_ : Int) (x6 : (Int × (Int × Unit))) (out : (List Int)) (next : Int) (x18 : (List UInt8 × Nat)) (k0 : (List UInt8) → Int → (Int × (Int × Unit)) → Option ((List UInt8) × Int × (Int × (Int × Unit)) × Unit)) (k1 : Option ((List UInt8) × Int × (Int × (Int × Unit)) × Unit)) : Option ((List UInt8) × Int × (Int × (Int × Unit)) × Unit) :=
  iter (fun (v : ((List Int) × Int × (List UInt8 × Nat))) r => quote_body_s1 N s from_ x6 v.1 v.2.1 v.2.2 (fun out next x18 => (r (out, next, x18))) k0 k1) N (out, next, x18)

noncomputable def quote_body_g1 (N : Nat) (i : ((List UInt8) × Int × (Int × (Int × Unit)))) (v : ((List Int) × Int × (List UInt8 × Nat))) (r : ((List Int) × Int × (List UInt8 × Nat)) → Option ((List UInt8) × Int × (Int × (Int × Unit)) × Unit)) (K : Ex → List A → Option ((List UInt8) × Int × (Int × (Int × Unit)) × Unit)) : Option ((List UInt8) × Int × (Int × (Int × Unit)) × Unit) :=
  quote_body_s1 N i.1 i.2.1 i.2.2 v.1 v.2.1 v.2.2 (fun out next x18 => (r (out, next, x18))) (fun a0 a1 a2 => (K .ret (mkS [(4, .v .str), (0, .v (.int .i64)), (0, .box (.pair (.int .i64) (.pair (.int .i64) .unit)))] 82 (a0, a1, a2, ())))) (K (.exit 0) (mkS [(0, .v .str), (5, .box (.pair (.int .i64) (.pair (.int .i64) .unit)))] 82 (i.1, i.2.2, ())))

noncomputable def quote_body_h1 (N : Nat) : Hd ((List UInt8) × Int × (Int × (Int × Unit)) × Unit) := fun st K => (unS [(0, .v .str), (0, .v (.int .i64)), (4, .box (.pair (.int .i64) (.pair (.int .i64) .unit))), (0, .row (.int .u8)), (0, .v (.int .i64)), (9, .iter)] 70 (restr [18, 1, 8, 7, 6, 0] 0 st)).bind fun x => iter (fun v r => quote_body_g1 N ((fun x => (x.1, x.2.1, x.2.2.1)) x) v r K) N ((fun x => (x.2.2.2.1, x.2.2.2.2.1, x.2.2.2.2.2.1)) x)

noncomputable def quote_body_t1 (N : Nat) : Tab ((List UInt8) × Int × (Int × (Int × Unit)) × Unit) := []

theorem quote_body_ok1 {N : Nat} {c : Ctx} (hb : Base Go.Proofs.Tryd.prog (quote_body_E N) c) : CodeOk Go.Proofs.Tryd.prog c (nodeAt quote_body_body [0, 1, 0, 1, 1, 1]) (quote_body_h1 N) :=
  loop_ok (s := [(0, .v .str), (0, .v (.int .i64)), (4, .box (.pair (.int .i64) (.pair (.int .i64) .unit))), (0, .row (.int .u8)), (0, .v (.int .i64)), (9, .iter)]) (m := 70) (quote_body_g1 N) [18, 1, 8, 7, 6, 0] N (fun x => (x.1, x.2.1, x.2.2.1)) (fun x => (x.2.2.2.1, x.2.2.2.2.1, x.2.2.2.2.2.1)) (fun i v => (i.1, i.2.1, i.2.2, v.1, v.2.1, v.2.2, ())) (fun _ => rfl) (evN_sound hb N (quote_body_t1 N) quote_body_L quote_body_body TabOk.nil [0, 0, 1, 0, 1, 1, 1] _ rfl) (fun i v r K => by kernel_rfl)

noncomputable def quote_body (N : Nat) (s : (List UInt8)) (from_ : Int) : Option ((List UInt8) × Int × (Int × (Int × Unit)) × Unit) :=
  cond (decide (((0 : Int) ≤ from_) ∧ (from_ ≤ (((List.length s) : Nat) : Int))))
  (quote_body_p1 N s from_ ((0 : Int), ((0 : Int), ())) ([] : List Int) from_ ((Go.Lift.cut s (Int.toNat from_) (List.length s)), 0)
    (fun x4 x5 x6 => some (x4, (x5, (x6, ()))))
    (some (([] : List UInt8), ((0 : Int), (((1 : Int), ((((List.length s) : Nat) : Int), ())), ())))))
  (none)

noncomputable def quote_body_t (N : Nat) : Tab ((List UInt8) × Int × (Int × (Int × Unit)) × Unit) := [([0, 1, 0, 1, 1, 1], quote_body_h1 N)]

theorem quote_body_link (N : Nat) (x : denS [(0, .v .str), (0, .v (.int .i64))]) : evFX (quote_body_E N) N (quote_body_t N) quote_body_L Go.Proofs.Tryd.f34 (mkS [(0, .v .str), (0, .v (.int .i64))] 0 x) (kRes (.tup [.str, (.int .i64), (.pair (.int .i64) (.pair (.int .i64) .unit))]) 2) = quote_body N x.1 x.2.1 := by kernel_rfl

noncomputable def quote_body_res (N : Nat) : List A → Res := resOf [(0, .v .str), (0, .v (.int .i64))] (fun x => quote_body N x.1 x.2.1) (oRes (.tup [.str, (.int .i64), (.pair (.int .i64) (.pair (.int .i64) .unit))]) 2)

theorem quote_body_ct (N : Nat) : Contract Go.Proofs.Tryd.prog glob 34 (quote_body_res N) :=
  Contract.of (E := quote_body_E N) (H := quote_body_t N) (L := quote_body_L) (N := N) (body := quote_body_body) (K := (kRes (.tup [.str, (.int .i64), (.pair (.int .i64) (.pair (.int .i64) .unit))]) 2)) (quote_body_Eok N) Go.Proofs.Tryd.func34 (by kernel_rfl) (by decide) (fun _ hb => (TabOk.cons (quote_body_ok1 hb) TabOk.nil)) (fun x y h => by rw [quote_body_link]; exact h) (kRes_ok (s := (.tup [.str, (.int .i64), (.pair (.int .i64) (.pair (.int .i64) .unit))])) (m := 2))

abbrev quote_Read_R : Type := ((List UInt8) × Int × (Int × (Int × Unit)) × Unit)

noncomputable def quote_Read_body : Code := (Go.Proofs.Tryd.f15.body).getD .skip

noncomputable def quote_Read_L : List (List Nat × List Nat) := [([0], [1, 0, 6]), ([0, 0, 1], [14, 6, 1, 0]), ([1, 0, 1], [1, 0, 6]), ([0, 0, 1, 0, 1], [4, 5, 6]), ([1, 0, 1, 0, 1], [4, 5, 6]), ([0, 0, 1, 1], [19, 1, 6, 0]), ([1, 0, 1, 1], [0, 1, 6]), ([0, 0, 1, 0, 1, 1], [4, 5, 6]), ([1, 0, 1, 0, 1, 1], [4, 5, 6]), ([0, 0, 1, 1, 1], [25, 1, 6, 0]), ([1, 0, 1, 1, 1], [0, 1, 6]), ([0, 0, 1, 0, 1, 1, 1], [4, 5, 6]), ([1, 0, 1, 0, 1, 1, 1], [4, 5, 6]), ([0, 1, 1, 1, 1], [4, 5, 6]), ([1, 1, 1, 1, 1], [4, 5, 6])]

noncomputable def quote_Read_E (N : Nat) : Env := mkEnv tys glob [(34, quote_body_res N)] [] [] [] false

theorem quote_Read_Eok (N : Nat) : EnvOk Go.Proofs.Tryd.prog (quote_Read_E N) := mkEnv_ok mixed tys_ok (FnsOk.cons (quote_body_ct N) (FnsOk.nil))

noncomputable def quote_Read_p2 (N : Nat) (s : (List UInt8)) (at_ : Int) (f : (Int × (Int × Unit))) (k0 : Bool → Option ((List UInt8) × Int × (Int × (Int × Unit)) × Unit)) : Option ((List UInt8) × Int × (Int × (Int × Unit)) × Unit) :=
  cond (decide (at_ < (0 : Int)))
  (k0 true)
  (k0 (decide ((((List.length s) : Nat) : Int) < at_)))

noncomputable def quote_Read_g2 (N : Nat) (x : denS [(0, .v .str), (0, .v (.int .i64)), (4, .box (.pair (.int .i64) (.pair (.int .i64) .unit)))]) (K : Ex → List A → Option ((List UInt8) × Int × (Int × (Int × Unit)) × Unit)) : Option ((List UInt8) × Int × (Int × (Int × Unit)) × Unit) :=
  quote_Read_p2 N x.1 x.2.1 x.2.2.1 (fun a3 => (K .normal (mkS [(0, .v .str), (0, .v (.int .i64)), (4, .box (.pair (.int .i64) (.pair (.int .i64) .unit))), (7, .v .bool)] 20 (x.1, x.2.1, x.2.2.1, a3, ()))))

noncomputable def quote_Read_h2 (N : Nat) : Hd ((List UInt8) × Int × (Int × (Int × Unit)) × Unit) := fun st K => (unS [(0, .v .str), (0, .v (.int .i64)), (4, .box (.pair (.int .i64) (.pair (.int .i64) .unit)))] 28 (restr [1, 0, 6] 0 st)).bind fun x => quote_Read_g2 N x K

noncomputable def quote_Read_t2 (N : Nat) : Tab ((List UInt8) × Int × (Int × (Int × Unit)) × Unit) := []

theorem quote_Read_ok2 {N : Nat} {c : Ctx} (hb : Base Go.Proofs.Tryd.prog (quote_Read_E N) c) : CodeOk Go.Proofs.Tryd.prog c (nodeAt quote_Read_body [0, 0, 1]) (quote_Read_h2 N) :=
  piece_ok (s := [(0, .v .str), (0, .v (.int .i64)), (4, .box (.pair (.int .i64) (.pair (.int .i64) .unit)))]) (m := 28) (g := quote_Read_g2 N) [1, 0, 6] (evN_sound hb N (quote_Read_t2 N) quote_Read_L quote_Read_body TabOk.nil [0, 0, 1] _ rfl) (fun x K => by kernel_rfl)

noncomputable def quote_Read_p1 (N : Nat) (s : (List UInt8)) (at_ : Int) (f : (Int × (Int × Unit))) (k0 : (List UInt8) → Int → (Int × (Int × Unit)) → Option ((List UInt8) × Int × (Int × (Int × Unit)) × Unit)) (k1 : Option ((List UInt8) × Int × (Int × (Int × Unit)) × Unit)) : Option ((List UInt8) × Int × (Int × (Int × Unit)) × Unit) :=
  quote_Read_p2 N s at_ f
  (fun x14 => cond x14
    (k0 ([] : List UInt8) (0 : Int) ((7 : Int), ((0 : Int), ())))
    (k1))

noncomputable def quote_Read_g1 (N : Nat) (x : denS [(0, .v .str), (0, .v (.int .i64)), (4, .box (.pair (.int .i64) (.pair (.int .i64) .unit)))]) (K : Ex → List A → Option ((List UInt8) × Int × (Int × (Int × Unit)) × Unit)) : Option ((List UInt8) × Int × (Int × (Int × Unit)) × Unit) :=
  quote_Read_p1 N x.1 x.2.1 x.2.2.1 (fun a0 a1 a2 => (K .ret (mkS [(4, .v .str), (0, .v (.int .i64)), (0, .box (.pair (.int .i64) (.pair (.int .i64) .unit)))] 28 (a0, a1, a2, ())))) (K .normal (mkS [(0, .v .str), (0, .v (.int .i64)), (4, .box (.pair (.int .i64) (.pair (.int .i64) .unit)))] 28 (x.1, x.2.1, x.2.2.1, ())))

noncomputable def quote_Read_h1 (N : Nat) : Hd ((List UInt8) × Int × (Int × (Int × Unit)) × Unit) := fun st K => (unS [(0, .v .str), (0, .v (.int .i64)), (4, .box (.pair (.int .i64) (.pair (.int .i64) .unit)))] 28 (restr [1, 0, 6] 0 st)).bind fun x => quote_Read_g1 N x K

noncomputable def quote_Read_t1 (N : Nat) : Tab ((List UInt8) × Int × (Int × (Int × Unit)) × Unit) := [([0, 0, 1], quote_Read_h2 N)]

theorem quote_Read_ok1 {N : Nat} {c : Ctx} (hb : Base Go.Proofs.Tryd.prog (quote_Read_E N) c) : CodeOk Go.Proofs.Tryd.prog c (nodeAt quote_Read_body [0, 1]) (quote_Read_h1 N) :=
  piece_ok (s := [(0, .v .str), (0, .v (.int .i64)), (4, .box (.pair (.int .i64) (.pair (.int .i64) .unit)))]) (m := 28) (g := quote_Read_g1 N) [1, 0, 6] (evN_sound hb N (quote_Read_t1 N) quote_Read_L quote_Read_body (TabOk.cons (quote_Read_ok2 hb) TabOk.nil) [0, 1] _ rfl) (fun x K => by kernel_rfl)

noncomputable def quote_Read (N : Nat) (s : (List UInt8)) (at_ : Int) : Option ((List UInt8) × Int × (Int × (Int × Unit)) × Unit) :=
  quote_Read_p1 N s at_ ((0 : Int), ((0 : Int), ()))
  (fun text end_ f => some (text, (end_, (f, ()))))
  (cond (at_ == (((List.length s) : Nat) : Int))
    (some (([] : List UInt8), ((0 : Int), (((1 : Int), (at_, ())), ()))))
    (cond (Go.Lift.inR at_ (List.length s))
      (cond ((((UInt8.toNat (List.getD s (Int.toNat at_) (0 : UInt8))) : Nat) : Int) != (34 : Int))
        (some (([] : List UInt8), ((0 : Int), (((2 : Int), (at_, ())), ()))))
        ((quote_body N s (Go.IntKind.wrap Go.IntKind.i64 (at_ + (1 : Int)))).bind fun y =>
          some (y.1, (y.2.1, (y.2.2.1, ())))))
      (none)))

noncomputable def quote_Read_t (N : Nat) : Tab ((List UInt8) × Int × (Int × (Int × Unit)) × Unit) := [([0, 1], quote_Read_h1 N)]

theorem quote_Read_link (N : Nat) (x : denS [(0, .v .str), (0, .v (.int .i64))]) : evFX (quote_Read_E N) N (quote_Read_t N) quote_Read_L Go.Proofs.Tryd.f15 (mkS [(0, .v .str), (0, .v (.int .i64))] 0 x) (kRes (.tup [.str, (.int .i64), (.pair (.int .i64) (.pair (.int .i64) .unit))]) 2) = quote_Read N x.1 x.2.1 := by kernel_rfl

noncomputable def quote_Read_res (N : Nat) : List A → Res := resOf [(0, .v .str), (0, .v (.int .i64))] (fun x => quote_Read N x.1 x.2.1) (oRes (.tup [.str, (.int .i64), (.pair (.int .i64) (.pair (.int .i64) .unit))]) 2)

theorem quote_Read_ct (N : Nat) : Contract Go.Proofs.Tryd.prog glob 15 (quote_Read_res N) :=
  Contract.of (E := quote_Read_E N) (H := quote_Read_t N) (L := quote_Read_L) (N := N) (body := quote_Read_body) (K := (kRes (.tup [.str, (.int .i64), (.pair (.int .i64) (.pair (.int .i64) .unit))]) 2)) (quote_Read_Eok N) Go.Proofs.Tryd.func15 (by kernel_rfl) (by decide) (fun _ hb => (TabOk.cons (quote_Read_ok1 hb) TabOk.nil)) (fun x y h => by rw [quote_Read_link]; exact h) (kRes_ok (s := (.tup [.str, (.int .i64), (.pair (.int .i64) (.pair (.int .i64) .unit))])) (m := 2))

abbrev quote_Text_R : Type := (List UInt8)

noncomputable def quote_Text_body : Code := (Go.Proofs.Tryd.f11.body).getD .skip

noncomputable def quote_Text_L : List (List Nat × List Nat) := [([0], [0]), ([0, 1], [0, 3]), ([0, 0, 1, 1], [8, 3, 0]), ([0, 1, 0, 1, 1], [8, 3, 0]), ([0, 0, 0, 1, 0, 1, 1], [10, 9, 3, 0, 8]), ([0, 1, 0, 0, 1, 0, 1, 1], [9, 3, 0, 8]), ([1, 0, 1, 0, 0, 1, 0, 1, 1], [3]), ([0, 0, 1, 1, 0, 0, 1, 0, 1, 1], [5, 3, 0, 4, 8]), ([0, 0, 1, 0, 1, 1, 0, 0, 1, 0, 1, 1], [26, 3, 0, 4, 8, 5]), ([1, 0, 1, 0, 1, 1, 0, 0, 1, 0, 1, 1], [8, 3, 0]), ([0, 1, 1, 0, 1, 0, 1, 1, 0, 0, 1, 0, 1, 1], [39, 3, 0, 4, 8]), ([1, 1, 1, 0, 1, 0, 1, 1, 0, 0, 1, 0, 1, 1], [8, 3, 0]), ([1, 1, 1, 1, 0, 1, 0, 1, 1, 0, 0, 1, 0, 1, 1], [8, 3, 0]), ([0, 1, 1, 1, 0, 1, 0, 1, 1, 0, 0, 1, 0, 1, 1], [8, 3, 0]), ([0, 1, 0, 1, 0, 1, 1, 0, 0, 1, 0, 1, 1], [8, 3, 0]), ([1, 0, 1, 1, 0, 0, 1, 0, 1, 1], [8, 3, 0]), ([1, 1, 0, 0, 1, 0, 1, 1], [8, 3, 0]), ([1, 0, 1, 1], [3]), ([0, 1, 1, 1], [2]), ([1, 1, 1, 1], [2])]

noncomputable def quote_Text_E (N : Nat) : Env := mkEnv tys glob [(30, quote_plain_res N), (13, quote_Unit_res N)] [(3, (.int .u8))] [] [] false

theorem quote_Text_Eok (N : Nat) : EnvOk Go.Proofs.Tryd.prog (quote_Text_E N) := mkEnv_ok mixed tys_ok (FnsOk.cons (quote_plain_ct N) (FnsOk.cons (quote_Unit_ct N) (FnsOk.nil)))

noncomputable def quote_Text_p2 (N : Nat) (s : (List UInt8)) (out : (List Int)) (i : Int) (c : Int) (x8 : (List UInt8 × Nat)) (k0 : (List UInt8 × Nat) → Bool → Option (List UInt8)) : Option (List UInt8) :=
  cond (c == (34 : Int))
  (k0 (x8.1, x8.2) true)
  (k0 (x8.1, x8.2) (c == (92 : Int)))

noncomputable def quote_Text_g2 (N : Nat) (x : denS [(0, .v .str), (2, .row (.int .u8)), (0, .v (.int .i64)), (0, .v (.int .i32)), (2, .iter)]) (K : Ex → List A → Option (List UInt8)) : Option (List UInt8) :=
  quote_Text_p2 N x.1 x.2.1 x.2.2.1 x.2.2.2.1 x.2.2.2.2.1 (fun a4 a5 => (K .normal (mkS [(0, .v .str), (2, .row (.int .u8)), (0, .v (.int .i64)), (0, .v (.int .i32)), (2, .iter), (17, .v .bool)] 31 (x.1, x.2.1, x.2.2.1, x.2.2.2.1, a4, a5, ()))))

noncomputable def quote_Text_h2 (N : Nat) : Hd (List UInt8) := fun st K => (unS [(0, .v .str), (2, .row (.int .u8)), (0, .v (.int .i64)), (0, .v (.int .i32)), (2, .iter)] 49 (restr [5, 3, 0, 4, 8] 0 st)).bind fun x => quote_Text_g2 N x K

noncomputable def quote_Text_t2 (N : Nat) : Tab (List UInt8) := []

theorem quote_Text_ok2 {N : Nat} {c : Ctx} (hb : Base Go.Proofs.Tryd.prog (quote_Text_E N) c) : CodeOk Go.Proofs.Tryd.prog c (nodeAt quote_Text_body [0, 0, 1, 0, 1, 1, 0, 0, 1, 0, 1, 1]) (quote_Text_h2 N) :=
  piece_ok (s := [(0, .v .str), (2, .row (.int .u8)), (0, .v (.int .i64)), (0, .v (.int .i32)), (2, .iter)]) (m := 49) (g := quote_Text_g2 N) [5, 3, 0, 4, 8] (evN_sound hb N (quote_Text_t2 N) quote_Text_L quote_Text_body TabOk.nil [0, 0, 1, 0, 1, 1, 0, 0, 1, 0, 1, 1] _ rfl) (fun x K => by kernel_rfl)

noncomputable def quote_Text_s1 (N : Nat) (s : (List UInt8)) (out : (List Int)) (x8 : (List UInt8 × Nat)) (rec : (List Int) → (List UInt8 × Nat) → Option (List UInt8)) (k0 : (List Int) → Option (List UInt8)) : Option (List UInt8) :=
  cond (decide (x8.2 < (List.length x8.1)))
  (quote_Text_p2 N s out ((x8.2 : Nat) : Int) (((Go.Lift.runeAt x8.1 x8.2).1 : Nat) : Int) (x8.1, (x8.2 + (Go.Lift.runeAt x8.1 x8.2).2))
    (fun x81 x26 => cond x26
      (cond (Go.Lift.inR ((x8.2 : Nat) : Int) (List.length s))
        (cond (decide ((((List.length out) + 2) * 1) ≤ 70368744177664))
          (rec (out ++ ([(92 : Int), (((UInt8.toNat (List.getD s (Int.toNat ((x8.2 : Nat) : Int)) (0 : UInt8))) : Nat) : Int)] : List Int)) (x81.1, x81.2))
          (none))
        (none))
      ((quote_plain N s ((x8.2 : Nat) : Int) (((Go.Lift.runeAt x8.1 x8.2).1 : Nat) : Int)).bind fun y =>
        cond y
        ((quote_Unit N s ((x8.2 : Nat) : Int)).bind fun y1 =>
          cond (decide (((0 : Int) ≤ (Go.IntKind.wrap Go.IntKind.i64 (((x8.2 : Nat) : Int) + y1))) ∧ ((Go.IntKind.wrap Go.IntKind.i64 (((x8.2 : Nat) : Int) + y1)) ≤ (((List.length s) : Nat) : Int))))
          (cond (decide (((0 : Int) ≤ ((x8.2 : Nat) : Int)) ∧ (((x8.2 : Nat) : Int) ≤ (Go.IntKind.wrap Go.IntKind.i64 (((x8.2 : Nat) : Int) + y1)))))
            (cond (decide ((((List.length out) + (List.length (Go.Lift.ofStr (Go.Lift.cut s (Int.toNat ((x8.2 : Nat) : Int)) (Int.toNat (Go.IntKind.wrap Go.IntKind.i64 (((x8.2 : Nat) : Int) + y1))))))) * 1) ≤ 70368744177664))
              (rec (out ++ (Go.Lift.ofStr (Go.Lift.cut s (Int.toNat ((x8.2 : Nat) : Int)) (Int.toNat (Go.IntKind.wrap Go.IntKind.i64 (((x8.2 : Nat) : Int) + y1)))))) (x81.1, x81.2))
              (none))
            (none))
          (none))
        (cond (Go.Lift.inR ((x8.2 : Nat) : Int) (List.length s))
          (cond (Go.Lift.inR (Go.Lift.shrI Go.IntKind.u8 (((UInt8.toNat (List.getD s (Int.toNat ((x8.2 : Nat) : Int)) (0 : UInt8))) : Nat) : Int) (4 : Int)) 16)
            (cond (Go.Lift.inR ((x8.2 : Nat) : Int) (List.length s))
              (cond (Go.Lift.inR (Go.Lift.bitsOp Go.BinOp.and Go.IntKind.u8 (((UInt8.toNat (List.getD s (Int.toNat ((x8.2 : Nat) : Int)) (0 : UInt8))) : Nat) : Int) (15 : Int)) 16)
                (cond (decide ((((List.length out) + 4) * 1) ≤ 70368744177664))
                  (rec (out ++ ([(92 : Int), (120 : Int), (((UInt8.toNat (List.getD ([(48 : UInt8), (49 : UInt8), (50 : UInt8), (51 : UInt8), (52 : UInt8), (53 : UInt8), (54 : UInt8), (55 : UInt8), (56 : UInt8), (57 : UInt8), (97 : UInt8), (98 : UInt8), (99 : UInt8), (100 : UInt8), (101 : UInt8), (102 : UInt8)] : List UInt8) (Int.toNat (Go.Lift.shrI Go.IntKind.u8 (((UInt8.toNat (List.getD s (Int.toNat ((x8.2 : Nat) : Int)) (0 : UInt8))) : Nat) : Int) (4 : Int))) (0 : UInt8))) : Nat) : Int), (((UInt8.toNat (List.getD ([(48 : UInt8), (49 : UInt8), (50 : UInt8), (51 : UInt8), (52 : UInt8), (53 : UInt8), (54 : UInt8), (55 : UInt8), (56 : UInt8), (57 : UInt8), (97 : UInt8), (98 : UInt8), (99 : UInt8), (100 : UInt8), (101 : UInt8), (102 : UInt8)] : List UInt8) (Int.toNat (Go.Lift.bitsOp Go.BinOp.and Go.IntKind.u8 (((UInt8.toNat (List.getD s (Int.toNat ((x8.2 : Nat) : Int)) (0 : UInt8))) : Nat) : Int) (15 : Int))) (0 : UInt8))) : Nat) : Int)] : List Int)) (x81.1, x81.2))
                  (none))
                (none))
              (none))
            (none))
          (none)))))
  (k0 out)

noncomputable def quote_Text_p1 (N : Nat) (s : (List UInt8)) (out : (List Int)) (x8 : (List UInt8 × Nat)) (k0 : (List Int) → Option (List UInt8)) : Option (List UInt8) :=
  iter (fun (v : ((List Int) × (List UInt8 × Nat))) r => quote_Text_s1 N s v.1 v.2 (fun out x8 => (r (out, x8))) k0) N (out, x8)

noncomputable def quote_Text_g1 (N : Nat) (i : (List UInt8)) (v : ((List Int) × (List UInt8 × Nat))) (r : ((List Int) × (List UInt8 × Nat)) → Option (List UInt8)) (K : Ex → List A → Option (List UInt8)) : Option (List UInt8) :=
  quote_Text_s1 N i v.1 v.2 (fun out x8 => (r (out, x8))) (fun a0 => (K (.exit 0) (mkS [(3, .row (.int .u8))] 54 (a0, ()))))

noncomputable def quote_Text_h1 (N : Nat) : Hd (List UInt8) := fun st K => (unS [(0, .v .str), (2, .row (.int .u8)), (4, .iter)] 49 (restr [8, 3, 0] 0 st)).bind fun x => iter (fun v r => quote_Text_g1 N ((fun x => x.1) x) v r K) N ((fun x => (x.2.1, x.2.2.1)) x)

noncomputable def quote_Text_t1 (N : Nat) : Tab (List UInt8) := [([0, 0, 1, 0, 1, 1, 0, 0, 1, 0, 1, 1], quote_Text_h2 N)]

theorem quote_Text_ok1 {N : Nat} {c : Ctx} (hb : Base Go.Proofs.Tryd.prog (quote_Text_E N) c) : CodeOk Go.Proofs.Tryd.prog c (nodeAt quote_Text_body [0, 1, 0, 1, 1]) (quote_Text_h1 N) :=
  loop_ok (s := [(0, .v .str), (2, .row (.int .u8)), (4, .iter)]) (m := 49) (quote_Text_g1 N) [8, 3, 0] N (fun x => x.1) (fun x => (x.2.1, x.2.2.1)) (fun i v => (i, v.1, v.2, ())) (fun _ => rfl) (evN_sound hb N (quote_Text_t1 N) quote_Text_L quote_Text_body (TabOk.cons (quote_Text_ok2 hb) TabOk.nil) [0, 0, 1, 0, 1, 1] _ rfl) (fun i v r K => by kernel_rfl)

noncomputable def quote_Text (N : Nat) (s : (List UInt8)) : Option (List UInt8) :=
  quote_Text_p1 N s ([(34 : Int)] : List Int) (s, 0)
  (fun out => cond (decide ((((List.length out) + 1) * 1) ≤ 70368744177664))
    (some (Go.Lift.toStr (out ++ ([(34 : Int)] : List Int))))
    (none))

noncomputable def quote_Text_t (N : Nat) : Tab (List UInt8) := [([0, 1, 0, 1, 1], quote_Text_h1 N)]

theorem quote_Text_link (N : Nat) (x : denS [(0, .v .str)]) : evFX (quote_Text_E N) N (quote_Text_t N) quote_Text_L Go.Proofs.Tryd.f11 (mkS [(0, .v .str)] 0 x) (kRes (.v .str) 1) = quote_Text N x.1 := by kernel_rfl

noncomputable def quote_Text_res (N : Nat) : List A → Res := resOf [(0, .v .str)] (fun x => quote_Text N x.1) (oRes (.v .str) 1)

theorem quote_Text_ct (N : Nat) : Contract Go.Proofs.Tryd.prog glob 11 (quote_Text_res N) :=
  Contract.of (E := quote_Text_E N) (H := quote_Text_t N) (L := quote_Text_L) (N := N) (body := quote_Text_body) (K := (kRes (.v .str) 1)) (quote_Text_Eok N) Go.Proofs.Tryd.func11 (by kernel_rfl) (by decide) (fun _ hb => (TabOk.cons (quote_Text_ok1 hb) TabOk.nil)) (fun x y h => by rw [quote_Text_link]; exact h) (kRes_ok (s := (.v .str)) (m := 1))

abbrev porterlaw10_works_R : Type := Bool

noncomputable def porterlaw10_works_body : Code := (Go.Proofs.Tryd.f10.body).getD .skip

noncomputable def porterlaw10_works_L : List (List Nat × List Nat) := [([0], []), ([0, 1], [1, 2, 3]), ([0, 1, 1], [0]), ([1, 1, 1], [0])]

noncomputable def porterlaw10_works_E (N : Nat) : Env := mkEnv tys glob [(11, quote_Text_res N), (15, quote_Read_res N), (13, quote_Unit_res N)] [] [] [] false

theorem porterlaw10_works_Eok (N : Nat) : EnvOk Go.Proofs.Tryd.prog (porterlaw10_works_E N) := mkEnv_ok mixed tys_ok (FnsOk.cons (quote_Text_ct N) (FnsOk.cons (quote_Read_ct N) (FnsOk.cons (quote_Unit_ct N) (FnsOk.nil))))

noncomputable def porterlaw10_works (N : Nat) : Option Bool :=
  (quote_Read N ([(34 : UInt8), (92 : UInt8), (120 : UInt8), (52 : UInt8), (49 : UInt8), (34 : UInt8)] : List UInt8) (0 : Int)).bind fun y =>
  (quote_Text N ([(34 : UInt8), (255 : UInt8)] : List UInt8)).bind fun y1 =>
  cond (y1 == ([(34 : UInt8), (92 : UInt8), (34 : UInt8), (92 : UInt8), (120 : UInt8), (102 : UInt8), (102 : UInt8), (34 : UInt8)] : List UInt8))
  (cond (y.1 == ([(65 : UInt8)] : List UInt8))
    (cond (y.2.1 == (6 : Int))
      (cond (Go.Lift.eqD (Go.Lift.T.pair (Go.Lift.T.int Go.IntKind.i64) (Go.Lift.T.pair (Go.Lift.T.int Go.IntKind.i64) Go.Lift.T.unit)) y.2.2.1 ((0 : Int), ((0 : Int), ())))
        (some ((2 : Int) == (2 : Int)))
        (some false))
      (some false))
    (some false))
  (some false)

noncomputable def porterlaw10_works_t (N : Nat) : Tab Bool := []

theorem porterlaw10_works_link (N : Nat) (x : denS []) : evFX (porterlaw10_works_E N) N (porterlaw10_works_t N) porterlaw10_works_L Go.Proofs.Tryd.f10 (mkS [] 0 x) (kRes (.v .bool) 0) = porterlaw10_works N := by kernel_rfl

noncomputable def porterlaw10_works_res (N : Nat) : List A → Res := resOf [] (fun x => porterlaw10_works N) (oRes (.v .bool) 0)

theorem porterlaw10_works_ct (N : Nat) : Contract Go.Proofs.Tryd.prog glob 10 (porterlaw10_works_res N) :=
  Contract.of (E := porterlaw10_works_E N) (H := porterlaw10_works_t N) (L := porterlaw10_works_L) (N := N) (body := porterlaw10_works_body) (K := (kRes (.v .bool) 0)) (porterlaw10_works_Eok N) Go.Proofs.Tryd.func10 (by kernel_rfl) (by decide) (fun _ hb => TabOk.nil) (fun x y h => by rw [porterlaw10_works_link]; exact h) (kRes_ok (s := (.v .bool)) (m := 0))

abbrev porterref10_trail_R : Type := Bool

noncomputable def porterref10_trail_body : Code := (Go.Proofs.Tryd.f36.body).getD .skip

noncomputable def porterref10_trail_L : List (List Nat × List Nat) := [([0], [2, 0, 1]), ([0, 0, 1], [13, 1, 2, 0]), ([1, 0, 1], [1, 2, 0]), ([0, 0, 1, 0, 1], [6]), ([1, 0, 1, 0, 1], [6]), ([0, 0, 1, 1], [7, 1, 2, 0]), ([0, 1, 0, 1, 1], [7, 1, 2, 0]), ([0, 0, 0, 0, 1, 0, 1, 1], [19, 0, 7, 1, 2]), ([1, 0, 0, 0, 1, 0, 1, 1], [0, 7, 1, 2]), ([1, 1, 0, 0, 0, 1, 0, 1, 1], []), ([0, 0, 0, 1, 0, 0, 1, 0, 1, 1], [31, 7, 1, 2, 0]), ([1, 0, 0, 1, 0, 0, 1, 0, 1, 1], [7, 1, 2, 0]), ([0, 0, 1, 0, 0, 1, 0, 0, 1, 0, 1, 1], [6]), ([1, 0, 1, 0, 0, 1, 0, 0, 1, 0, 1, 1], [6]), ([0, 1, 0, 0, 1, 0, 1, 1], [7, 1, 2, 0]), ([1, 1, 0, 0, 1, 0, 1, 1], [7, 1, 2, 0]), ([1, 0, 1, 1], []), ([0, 1, 1, 1], [6]), ([1, 1, 1, 1], [6])]

noncomputable def porterref10_trail_E (N : Nat) : Env := mkEnv tys glob [] [] [] [] false

theorem porterref10_trail_Eok (N : Nat) : EnvOk Go.Proofs.Tryd.prog (porterref10_trail_E N) := mkEnv_ok mixed tys_ok (FnsOk.nil)

noncomputable def porterref10_trail_p3 (N : Nat) (s : (List UInt8)) (at_ : Int) (n : Int) (i : Int) (k0 : Bool → Option Bool) : Option Bool :=
  cond (Go.Lift.inR i (List.length s))
  (cond (decide ((((UInt8.toNat (List.getD s (Int.toNat i) (0 : UInt8))) : Nat) : Int) < (128 : Int)))
    (k0 true)
    (cond (Go.Lift.inR i (List.length s))
      (k0 (decide ((191 : Int) < (((UInt8.toNat (List.getD s (Int.toNat i) (0 : UInt8))) : Nat) : Int))))
      (none)))
  (none)

noncomputable def porterref10_trail_g3 (N : Nat) (x : denS [(0, .v .str), (0, .v (.int .i64)), (0, .v (.int .i64)), (4, .v (.int .i64))]) (K : Ex → List A → Option Bool) : Option Bool :=
  porterref10_trail_p3 N x.1 x.2.1 x.2.2.1 x.2.2.2.1 (fun a4 => (K .normal (mkS [(0, .v .str), (0, .v (.int .i64)), (0, .v (.int .i64)), (4, .v (.int .i64)), (23, .v .bool)] 0 (x.1, x.2.1, x.2.2.1, x.2.2.2.1, a4, ()))))

noncomputable def porterref10_trail_h3 (N : Nat) : Hd Bool := fun st K => (unS [(0, .v .str), (0, .v (.int .i64)), (0, .v (.int .i64)), (4, .v (.int .i64))] 24 (restr [0, 7, 1, 2] 0 st)).bind fun x => porterref10_trail_g3 N x K

noncomputable def porterref10_trail_t3 (N : Nat) : Tab Bool := []

theorem porterref10_trail_ok3 {N : Nat} {c : Ctx} (hb : Base Go.Proofs.Tryd.prog (porterref10_trail_E N) c) : CodeOk Go.Proofs.Tryd.prog c (nodeAt porterref10_trail_body [0, 0, 0, 1, 0, 0, 1, 0, 1, 1]) (porterref10_trail_h3 N) :=
  piece_ok (s := [(0, .v .str), (0, .v (.int .i64)), (0, .v (.int .i64)), (4, .v (.int .i64))]) (m := 24) (g := porterref10_trail_g3 N) [0, 7, 1, 2] (evN_sound hb N (porterref10_trail_t3 N) porterref10_trail_L porterref10_trail_body TabOk.nil [0, 0, 0, 1, 0, 0, 1, 0, 1, 1] _ rfl) (fun x K => by kernel_rfl)

noncomputable def porterref10_trail_p2 (N : Nat) (s : (List UInt8)) (at_ : Int) (n : Int) (i : Int) (k0 : Bool → Option Bool) (k1 : Option Bool) : Option Bool :=
  porterref10_trail_p3 N s at_ n i
  (fun x31 => cond x31
    (k0 false)
    (k1))

noncomputable def porterref10_trail_g2 (N : Nat) (x : denS [(0, .v .str), (0, .v (.int .i64)), (0, .v (.int .i64)), (4, .v (.int .i64))]) (K : Ex → List A → Option Bool) : Option Bool :=
  porterref10_trail_p2 N x.1 x.2.1 x.2.2.1 x.2.2.2.1 (fun a0 => (K .ret (mkS [(6, .v .bool)] 25 (a0, ())))) (K .normal (mkS [(0, .v .str), (0, .v (.int .i64)), (0, .v (.int .i64)), (4, .v (.int .i64))] 24 (x.1, x.2.1, x.2.2.1, x.2.2.2.1, ())))

noncomputable def porterref10_trail_h2 (N : Nat) : Hd Bool := fun st K => (unS [(0, .v .str), (0, .v (.int .i64)), (0, .v (.int .i64)), (4, .v (.int .i64))] 24 (restr [0, 7, 1, 2] 0 st)).bind fun x => porterref10_trail_g2 N x K

noncomputable def porterref10_trail_t2 (N : Nat) : Tab Bool := [([0, 0, 0, 1, 0, 0, 1, 0, 1, 1], porterref10_trail_h3 N)]

theorem porterref10_trail_ok2 {N : Nat} {c : Ctx} (hb : Base Go.Proofs.Tryd.prog (porterref10_trail_E N) c) : CodeOk Go.Proofs.Tryd.prog c (nodeAt porterref10_trail_body [0, 1, 0, 0, 1, 0, 1, 1]) (porterref10_trail_h2 N) :=
  piece_ok (s := [(0, .v .str), (0, .v (.int .i64)), (0, .v (.int .i64)), (4, .v (.int .i64))]) (m := 24) (g := porterref10_trail_g2 N) [0, 7, 1, 2] (evN_sound hb N (porterref10_trail_t2 N) porterref10_trail_L porterref10_trail_body (TabOk.cons (porterref10_trail_ok3 hb) TabOk.nil) [0, 1, 0, 0, 1, 0, 1, 1] _ rfl) (fun x K => by kernel_rfl)

noncomputable def porterref10_trail_s1 (N : Nat) (s : (List UInt8)) (at_ : Int) (n : Int) (i : Int) (rec : Int → Option Bool) (k0 : Bool → Option Bool) (k1 : Option Bool) : Option Bool :=
  cond (decide (i < (Go.IntKind.wrap Go.IntKind.i64 (at_ + n))))
  (porterref10_trail_p2 N s at_ n i
    (fun x6 => k0 x6)
    (rec (Go.IntKind.wrap Go.IntKind.i64 (i + (1 : Int)))))
  (k1)

noncomputable def porterref10_trail_p1 (N : Nat) (s : (List UInt8)) (at_ : Int) (n : Int) (i : Int) (k0 : Bool → Option Bool) (k1 : Option Bool) : Option Bool :=
  iter (fun (v : Int) r => porterref10_trail_s1 N s at_ n v (fun i => (r i)) k0 k1) N i

noncomputable def porterref10_trail_g1 (N : Nat) (i : ((List UInt8) × Int × Int)) (v : Int) (r : Int → Option Bool) (K : Ex → List A → Option Bool) : Option Bool :=
  porterref10_trail_s1 N i.1 i.2.1 i.2.2 v (fun i => (r i)) (fun a0 => (K .ret (mkS [(6, .v .bool)] 25 (a0, ())))) (K (.exit 0) (mkS [] 32 ()))

noncomputable def porterref10_trail_h1 (N : Nat) : Hd Bool := fun st K => (unS [(0, .v .str), (0, .v (.int .i64)), (0, .v (.int .i64)), (4, .v (.int .i64))] 24 (restr [7, 1, 2, 0] 0 st)).bind fun x => iter (fun v r => porterref10_trail_g1 N ((fun x => (x.1, x.2.1, x.2.2.1)) x) v r K) N ((fun x => x.2.2.2.1) x)

noncomputable def porterref10_trail_t1 (N : Nat) : Tab Bool := [([0, 1, 0, 0, 1, 0, 1, 1], porterref10_trail_h2 N)]

theorem porterref10_trail_ok1 {N : Nat} {c : Ctx} (hb : Base Go.Proofs.Tryd.prog (porterref10_trail_E N) c) : CodeOk Go.Proofs.Tryd.prog c (nodeAt porterref10_trail_body [0, 1, 0, 1, 1]) (porterref10_trail_h1 N) :=
  loop_ok (s := [(0, .v .str), (0, .v (.int .i64)), (0, .v (.int .i64)), (4, .v (.int .i64))]) (m := 24) (porterref10_trail_g1 N) [7, 1, 2, 0] N (fun x => (x.1, x.2.1, x.2.2.1)) (fun x => x.2.2.2.1) (fun i v => (i.1, i.2.1, i.2.2, v, ())) (fun _ => rfl) (evN_sound hb N (porterref10_trail_t1 N) porterref10_trail_L porterref10_trail_body (TabOk.cons (porterref10_trail_ok2 hb) TabOk.nil) [0, 0, 1, 0, 1, 1] _ rfl) (fun i v r K => by kernel_rfl)

noncomputable def porterref10_trail (N : Nat) (s : (List UInt8)) (at_ : Int) (n : Int) : Option Bool :=
  cond (decide ((Go.IntKind.wrap Go.IntKind.i64 ((((List.length s) : Nat) : Int) - at_)) < n))
  (some false)
  (porterref10_trail_p1 N s at_ n at_
    (fun x6 => some x6)
    (some true))

noncomputable def porterref10_trail_t (N : Nat) : Tab Bool := [([0, 1, 0, 1, 1], porterref10_trail_h1 N)]

theorem porterref10_trail_link (N : Nat) (x : denS [(0, .v .str), (0, .v (.int .i64)), (0, .v (.int .i64))]) : evFX (porterref10_trail_E N) N (porterref10_trail_t N) porterref10_trail_L Go.Proofs.Tryd.f36 (mkS [(0, .v .str), (0, .v (.int .i64)), (0, .v (.int .i64))] 0 x) (kRes (.v .bool) 3) = porterref10_trail N x.1 x.2.1 x.2.2.1 := by kernel_rfl

noncomputable def porterref10_trail_res (N : Nat) : List A → Res := resOf [(0, .v .str), (0, .v (.int .i64)), (0, .v (.int .i64))] (fun x => porterref10_trail N x.1 x.2.1 x.2.2.1) (oRes (.v .bool) 3)

theorem porterref10_trail_ct (N : Nat) : Contract Go.Proofs.Tryd.prog glob 36 (porterref10_trail_res N) :=
  Contract.of (E := porterref10_trail_E N) (H := porterref10_trail_t N) (L := porterref10_trail_L) (N := N) (body := porterref10_trail_body) (K := (kRes (.v .bool) 3)) (porterref10_trail_Eok N) Go.Proofs.Tryd.func36 (by kernel_rfl) (by decide) (fun _ hb => (TabOk.cons (porterref10_trail_ok1 hb) TabOk.nil)) (fun x y h => by rw [porterref10_trail_link]; exact h) (kRes_ok (s := (.v .bool)) (m := 3))

abbrev porterref10_Rune_R : Type := Int

noncomputable def porterref10_Rune_body : Code := (Go.Proofs.Tryd.f17.body).getD .skip

noncomputable def porterref10_Rune_L : List (List Nat × List Nat) := [([0], [0, 1]), ([0, 1], [5, 1, 0]), ([0, 0, 1, 1], [12, 1, 0, 5]), ([1, 0, 1, 1], [1, 0, 5]), ([0, 0, 1, 0, 1, 1], [4]), ([1, 0, 1, 0, 1, 1], [4]), ([0, 1, 1, 1], [1, 0, 5, 6]), ([0, 0, 1, 1, 1, 1], [17, 0, 1, 5, 6]), ([1, 0, 1, 1, 1, 1], [5, 0, 1, 6]), ([0, 1, 0, 1, 1, 1, 1], [5, 0, 1, 6]), ([0, 0, 1, 1, 1, 1, 1], [34, 5, 0, 1, 6]), ([1, 0, 1, 1, 1, 1, 1], [5, 0, 1, 6]), ([0, 0, 1, 0, 1, 1, 1, 1, 1], [4]), ([1, 0, 1, 0, 1, 1, 1, 1, 1], [4]), ([0, 0, 1, 1, 1, 1, 1, 1], [62, 5, 0, 1, 6]), ([1, 0, 1, 1, 1, 1, 1, 1], [5, 0, 1, 6]), ([0, 0, 1, 0, 1, 1, 1, 1, 1, 1], [4]), ([1, 0, 1, 0, 1, 1, 1, 1, 1, 1], [4]), ([0, 0, 1, 1, 1, 1, 1, 1, 1], [90]), ([1, 0, 1, 1, 1, 1, 1, 1, 1], []), ([0, 0, 1, 0, 1, 1, 1, 1, 1, 1, 1], [4]), ([1, 0, 1, 0, 1, 1, 1, 1, 1, 1, 1], [4]), ([0, 1, 1, 1, 1, 1, 1, 1, 1], [4]), ([1, 1, 1, 1, 1, 1, 1, 1, 1], [4])]

noncomputable def porterref10_Rune_E (N : Nat) : Env := mkEnv tys glob [(36, porterref10_trail_res N)] [] [] [] false

theorem porterref10_Rune_Eok (N : Nat) : EnvOk Go.Proofs.Tryd.prog (porterref10_Rune_E N) := mkEnv_ok mixed tys_ok (FnsOk.cons (porterref10_trail_ct N) (FnsOk.nil))

noncomputable def porterref10_Rune_p1 (N : Nat) (s : (List UInt8)) (at_ : Int) (b : Int) (next : Int) (k0 : Int → Option Int) : Option Int :=
  cond (decide ((Go.IntKind.wrap Go.IntKind.i64 (at_ + (1 : Int))) < (((List.length s) : Nat) : Int)))
  (cond (Go.Lift.inR (Go.IntKind.wrap Go.IntKind.i64 (at_ + (1 : Int))) (List.length s))
    (k0 (Go.IntKind.wrap Go.IntKind.i64 (((UInt8.toNat (List.getD s (Int.toNat (Go.IntKind.wrap Go.IntKind.i64 (at_ + (1 : Int)))) (0 : UInt8))) : Nat) : Int)))
    (none))
  (k0 next)

noncomputable def porterref10_Rune_g1 (N : Nat) (x : denS [(0, .v .str), (0, .v (.int .i64)), (3, .v (.int .i64)), (0, .v (.int .i64))]) (K : Ex → List A → Option Int) : Option Int :=
  porterref10_Rune_p1 N x.1 x.2.1 x.2.2.1 x.2.2.2.1 (fun a3 => (K .normal (mkS [(0, .v .str), (0, .v (.int .i64)), (3, .v (.int .i64)), (0, .v (.int .i64))] 84 (x.1, x.2.1, x.2.2.1, a3, ()))))

noncomputable def porterref10_Rune_h1 (N : Nat) : Hd Int := fun st K => (unS [(0, .v .str), (0, .v (.int .i64)), (3, .v (.int .i64)), (0, .v (.int .i64))] 84 (restr [1, 0, 5, 6] 0 st)).bind fun x => porterref10_Rune_g1 N x K

noncomputable def porterref10_Rune_t1 (N : Nat) : Tab Int := []

theorem porterref10_Rune_ok1 {N : Nat} {c : Ctx} (hb : Base Go.Proofs.Tryd.prog (porterref10_Rune_E N) c) : CodeOk Go.Proofs.Tryd.prog c (nodeAt porterref10_Rune_body [0, 1, 1, 1, 1]) (porterref10_Rune_h1 N) :=
  piece_ok (s := [(0, .v .str), (0, .v (.int .i64)), (3, .v (.int .i64)), (0, .v (.int .i64))]) (m := 84) (g := porterref10_Rune_g1 N) [1, 0, 5, 6] (evN_sound hb N (porterref10_Rune_t1 N) porterref10_Rune_L porterref10_Rune_body TabOk.nil [0, 1, 1, 1, 1] _ rfl) (fun x K => by kernel_rfl)

noncomputable def porterref10_Rune_p3 (N : Nat) (s : (List UInt8)) (at_ : Int) (b : Int) (next : Int) (k0 : Bool → Option Int) : Option Int :=
  cond (decide ((194 : Int) ≤ b))
  (cond (decide (b ≤ (223 : Int)))
    ((porterref10_trail N s (Go.IntKind.wrap Go.IntKind.i64 (at_ + (1 : Int))) (1 : Int)).bind fun y =>
      k0 y)
    (k0 false))
  (k0 false)

noncomputable def porterref10_Rune_g3 (N : Nat) (x : denS [(0, .v .str), (0, .v (.int .i64)), (3, .v (.int .i64)), (0, .v (.int .i64))]) (K : Ex → List A → Option Int) : Option Int :=
  porterref10_Rune_p3 N x.1 x.2.1 x.2.2.1 x.2.2.2.1 (fun a4 => (K .normal (mkS [(0, .v .str), (0, .v (.int .i64)), (3, .v (.int .i64)), (0, .v (.int .i64)), (27, .v .bool)] 56 (x.1, x.2.1, x.2.2.1, x.2.2.2.1, a4, ()))))

noncomputable def porterref10_Rune_h3 (N : Nat) : Hd Int := fun st K => (unS [(0, .v .str), (0, .v (.int .i64)), (3, .v (.int .i64)), (0, .v (.int .i64))] 84 (restr [5, 0, 1, 6] 0 st)).bind fun x => porterref10_Rune_g3 N x K

noncomputable def porterref10_Rune_t3 (N : Nat) : Tab Int := []

theorem porterref10_Rune_ok3 {N : Nat} {c : Ctx} (hb : Base Go.Proofs.Tryd.prog (porterref10_Rune_E N) c) : CodeOk Go.Proofs.Tryd.prog c (nodeAt porterref10_Rune_body [0, 0, 1, 1, 1, 1, 1]) (porterref10_Rune_h3 N) :=
  piece_ok (s := [(0, .v .str), (0, .v (.int .i64)), (3, .v (.int .i64)), (0, .v (.int .i64))]) (m := 84) (g := porterref10_Rune_g3 N) [5, 0, 1, 6] (evN_sound hb N (porterref10_Rune_t3 N) porterref10_Rune_L porterref10_Rune_body TabOk.nil [0, 0, 1, 1, 1, 1, 1] _ rfl) (fun x K => by kernel_rfl)

noncomputable def porterref10_Rune_p2 (N : Nat) (s : (List UInt8)) (at_ : Int) (b : Int) (next : Int) (k0 : Int → Option Int) (k1 : Option Int) : Option Int :=
  porterref10_Rune_p3 N s at_ b next
  (fun x34 => cond x34
    (k0 (2 : Int))
    (k1))

noncomputable def porterref10_Rune_g2 (N : Nat) (x : denS [(0, .v .str), (0, .v (.int .i64)), (3, .v (.int .i64)), (0, .v (.int .i64))]) (K : Ex → List A → Option Int) : Option Int :=
  porterref10_Rune_p2 N x.1 x.2.1 x.2.2.1 x.2.2.2.1 (fun a0 => (K .ret (mkS [(4, .v (.int .i64))] 86 (a0, ())))) (K .normal (mkS [(0, .v .str), (0, .v (.int .i64)), (3, .v (.int .i64)), (0, .v (.int .i64))] 84 (x.1, x.2.1, x.2.2.1, x.2.2.2.1, ())))

noncomputable def porterref10_Rune_h2 (N : Nat) : Hd Int := fun st K => (unS [(0, .v .str), (0, .v (.int .i64)), (3, .v (.int .i64)), (0, .v (.int .i64))] 84 (restr [5, 0, 1, 6] 0 st)).bind fun x => porterref10_Rune_g2 N x K

noncomputable def porterref10_Rune_t2 (N : Nat) : Tab Int := [([0, 0, 1, 1, 1, 1, 1], porterref10_Rune_h3 N)]

theorem porterref10_Rune_ok2 {N : Nat} {c : Ctx} (hb : Base Go.Proofs.Tryd.prog (porterref10_Rune_E N) c) : CodeOk Go.Proofs.Tryd.prog c (nodeAt porterref10_Rune_body [0, 1, 1, 1, 1, 1]) (porterref10_Rune_h2 N) :=
  piece_ok (s := [(0, .v .str), (0, .v (.int .i64)), (3, .v (.int .i64)), (0, .v (.int .i64))]) (m := 84) (g := porterref10_Rune_g2 N) [5, 0, 1, 6] (evN_sound hb N (porterref10_Rune_t2 N) porterref10_Rune_L porterref10_Rune_body (TabOk.cons (porterref10_Rune_ok3 hb) TabOk.nil) [0, 1, 1, 1, 1, 1] _ rfl) (fun x K => by kernel_rfl)

noncomputable def porterref10_Rune_p5 (N : Nat) (s : (List UInt8)) (at_ : Int) (b : Int) (next : Int) (k0 : Bool → Option Int) : Option Int :=
  cond (decide ((224 : Int) ≤ b))
  (cond (decide (b ≤ (239 : Int)))
    ((porterref10_trail N s (Go.IntKind.wrap Go.IntKind.i64 (at_ + (1 : Int))) (2 : Int)).bind fun y =>
      cond y
      (cond (b != (224 : Int))
        (cond (b != (237 : Int))
          (k0 true)
          (k0 (decide (next < (160 : Int)))))
        (cond (decide ((160 : Int) ≤ next))
          (cond (b != (237 : Int))
            (k0 true)
            (k0 (decide (next < (160 : Int)))))
          (k0 false)))
      (k0 false))
    (k0 false))
  (k0 false)

noncomputable def porterref10_Rune_g5 (N : Nat) (x : denS [(0, .v .str), (0, .v (.int .i64)), (3, .v (.int .i64)), (0, .v (.int .i64))]) (K : Ex → List A → Option Int) : Option Int :=
  porterref10_Rune_p5 N x.1 x.2.1 x.2.2.1 x.2.2.2.1 (fun a4 => (K .normal (mkS [(0, .v .str), (0, .v (.int .i64)), (3, .v (.int .i64)), (0, .v (.int .i64)), (55, .v .bool)] 28 (x.1, x.2.1, x.2.2.1, x.2.2.2.1, a4, ()))))

noncomputable def porterref10_Rune_h5 (N : Nat) : Hd Int := fun st K => (unS [(0, .v .str), (0, .v (.int .i64)), (3, .v (.int .i64)), (0, .v (.int .i64))] 84 (restr [5, 0, 1, 6] 0 st)).bind fun x => porterref10_Rune_g5 N x K

noncomputable def porterref10_Rune_t5 (N : Nat) : Tab Int := []

theorem porterref10_Rune_ok5 {N : Nat} {c : Ctx} (hb : Base Go.Proofs.Tryd.prog (porterref10_Rune_E N) c) : CodeOk Go.Proofs.Tryd.prog c (nodeAt porterref10_Rune_body [0, 0, 1, 1, 1, 1, 1, 1]) (porterref10_Rune_h5 N) :=
  piece_ok (s := [(0, .v .str), (0, .v (.int .i64)), (3, .v (.int .i64)), (0, .v (.int .i64))]) (m := 84) (g := porterref10_Rune_g5 N) [5, 0, 1, 6] (evN_sound hb N (porterref10_Rune_t5 N) porterref10_Rune_L porterref10_Rune_body TabOk.nil [0, 0, 1, 1, 1, 1, 1, 1] _ rfl) (fun x K => by kernel_rfl)

noncomputable def porterref10_Rune_p4 (N : Nat) (s : (List UInt8)) (at_ : Int) (b : Int) (next : Int) (k0 : Int → Option Int) (k1 : Option Int) : Option Int :=
  porterref10_Rune_p5 N s at_ b next
  (fun x62 => cond x62
    (k0 (3 : Int))
    (k1))

noncomputable def porterref10_Rune_g4 (N : Nat) (x : denS [(0, .v .str), (0, .v (.int .i64)), (3, .v (.int .i64)), (0, .v (.int .i64))]) (K : Ex → List A → Option Int) : Option Int :=
  porterref10_Rune_p4 N x.1 x.2.1 x.2.2.1 x.2.2.2.1 (fun a0 => (K .ret (mkS [(4, .v (.int .i64))] 86 (a0, ())))) (K .normal (mkS [(0, .v .str), (0, .v (.int .i64)), (3, .v (.int .i64)), (0, .v (.int .i64))] 84 (x.1, x.2.1, x.2.2.1, x.2.2.2.1, ())))

noncomputable def porterref10_Rune_h4 (N : Nat) : Hd Int := fun st K => (unS [(0, .v .str), (0, .v (.int .i64)), (3, .v (.int .i64)), (0, .v (.int .i64))] 84 (restr [5, 0, 1, 6] 0 st)).bind fun x => porterref10_Rune_g4 N x K

noncomputable def porterref10_Rune_t4 (N : Nat) : Tab Int := [([0, 0, 1, 1, 1, 1, 1, 1], porterref10_Rune_h5 N)]

theorem porterref10_Rune_ok4 {N : Nat} {c : Ctx} (hb : Base Go.Proofs.Tryd.prog (porterref10_Rune_E N) c) : CodeOk Go.Proofs.Tryd.prog c (nodeAt porterref10_Rune_body [0, 1, 1, 1, 1, 1, 1]) (porterref10_Rune_h4 N) :=
  piece_ok (s := [(0, .v .str), (0, .v (.int .i64)), (3, .v (.int .i64)), (0, .v (.int .i64))]) (m := 84) (g := porterref10_Rune_g4 N) [5, 0, 1, 6] (evN_sound hb N (porterref10_Rune_t4 N) porterref10_Rune_L porterref10_Rune_body (TabOk.cons (porterref10_Rune_ok5 hb) TabOk.nil) [0, 1, 1, 1, 1, 1, 1] _ rfl) (fun x K => by kernel_rfl)

noncomputable def porterref10_Rune_p6 (N : Nat) (s : (List UInt8)) (at_ : Int) (b : Int) (next : Int) (k0 : Bool → Option Int) : Option Int :=
  cond (decide ((240 : Int) ≤ b))
  (cond (decide (b ≤ (244 : Int)))
    ((porterref10_trail N s (Go.IntKind.wrap Go.IntKind.i64 (at_ + (1 : Int))) (3 : Int)).bind fun y =>
      cond y
      (cond (b != (240 : Int))
        (cond (b != (244 : Int))
          (k0 true)
          (k0 (decide (next < (144 : Int)))))
        (cond (decide ((144 : Int) ≤ next))
          (cond (b != (244 : Int))
            (k0 true)
            (k0 (decide (next < (144 : Int)))))
          (k0 false)))
      (k0 false))
    (k0 false))
  (k0 false)

noncomputable def porterref10_Rune_g6 (N : Nat) (x : denS [(0, .v .str), (0, .v (.int .i64)), (3, .v (.int .i64)), (0, .v (.int .i64))]) (K : Ex → List A → Option Int) : Option Int :=
  porterref10_Rune_p6 N x.1 x.2.1 x.2.2.1 x.2.2.2.1 (fun a0 => (K .normal (mkS [(90, .v .bool)] 0 (a0, ()))))

noncomputable def porterref10_Rune_h6 (N : Nat) : Hd Int := fun st K => (unS [(0, .v .str), (0, .v (.int .i64)), (3, .v (.int .i64)), (0, .v (.int .i64))] 84 (restr [5, 0, 1, 6] 0 st)).bind fun x => porterref10_Rune_g6 N x K

noncomputable def porterref10_Rune_t6 (N : Nat) : Tab Int := []

theorem porterref10_Rune_ok6 {N : Nat} {c : Ctx} (hb : Base Go.Proofs.Tryd.prog (porterref10_Rune_E N) c) : CodeOk Go.Proofs.Tryd.prog c (nodeAt porterref10_Rune_body [0, 0, 1, 1, 1, 1, 1, 1, 1]) (porterref10_Rune_h6 N) :=
  piece_ok (s := [(0, .v .str), (0, .v (.int .i64)), (3, .v (.int .i64)), (0, .v (.int .i64))]) (m := 84) (g := porterref10_Rune_g6 N) [5, 0, 1, 6] (evN_sound hb N (porterref10_Rune_t6 N) porterref10_Rune_L porterref10_Rune_body TabOk.nil [0, 0, 1, 1, 1, 1, 1, 1, 1] _ rfl) (fun x K => by kernel_rfl)

noncomputable def porterref10_Rune (N : Nat) (s : (List UInt8)) (at_ : Int) : Option Int :=
  cond (Go.Lift.inR at_ (List.length s))
  (cond (decide ((Go.IntKind.wrap Go.IntKind.i64 (((UInt8.toNat (List.getD s (Int.toNat at_) (0 : UInt8))) : Nat) : Int)) < (128 : Int)))
    (some (1 : Int))
    (porterref10_Rune_p1 N s at_ (Go.IntKind.wrap Go.IntKind.i64 (((UInt8.toNat (List.getD s (Int.toNat at_) (0 : UInt8))) : Nat) : Int)) (0 : Int)
      (fun next => porterref10_Rune_p2 N s at_ (Go.IntKind.wrap Go.IntKind.i64 (((UInt8.toNat (List.getD s (Int.toNat at_) (0 : UInt8))) : Nat) : Int)) next
        (fun x4 => some x4)
        (porterref10_Rune_p4 N s at_ (Go.IntKind.wrap Go.IntKind.i64 (((UInt8.toNat (List.getD s (Int.toNat at_) (0 : UInt8))) : Nat) : Int)) next
          (fun x41 => some x41)
          (porterref10_Rune_p6 N s at_ (Go.IntKind.wrap Go.IntKind.i64 (((UInt8.toNat (List.getD s (Int.toNat at_) (0 : UInt8))) : Nat) : Int)) next
            (fun x90 => cond x90
              (some (4 : Int))
              (some (0 : Int))))))))
  (none)

noncomputable def porterref10_Rune_t (N : Nat) : Tab Int := [([0, 1, 1, 1, 1], porterref10_Rune_h1 N), ([0, 1, 1, 1, 1, 1], porterref10_Rune_h2 N), ([0, 1, 1, 1, 1, 1, 1], porterref10_Rune_h4 N), ([0, 0, 1, 1, 1, 1, 1, 1, 1], porterref10_Rune_h6 N)]

theorem porterref10_Rune_link (N : Nat) (x : denS [(0, .v .str), (0, .v (.int .i64))]) : evFX (porterref10_Rune_E N) N (porterref10_Rune_t N) porterref10_Rune_L Go.Proofs.Tryd.f17 (mkS [(0, .v .str), (0, .v (.int .i64))] 0 x) (kRes (.v (.int .i64)) 2) = porterref10_Rune N x.1 x.2.1 := by kernel_rfl

noncomputable def porterref10_Rune_res (N : Nat) : List A → Res := resOf [(0, .v .str), (0, .v (.int .i64))] (fun x => porterref10_Rune N x.1 x.2.1) (oRes (.v (.int .i64)) 2)

theorem porterref10_Rune_ct (N : Nat) : Contract Go.Proofs.Tryd.prog glob 17 (porterref10_Rune_res N) :=
  Contract.of (E := porterref10_Rune_E N) (H := porterref10_Rune_t N) (L := porterref10_Rune_L) (N := N) (body := porterref10_Rune_body) (K := (kRes (.v (.int .i64)) 2)) (porterref10_Rune_Eok N) Go.Proofs.Tryd.func17 (by kernel_rfl) (by decide) (fun _ hb => (TabOk.cons (porterref10_Rune_ok1 hb) (TabOk.cons (porterref10_Rune_ok2 hb) (TabOk.cons (porterref10_Rune_ok4 hb) (TabOk.cons (porterref10_Rune_ok6 hb) TabOk.nil))))) (fun x y h => by rw [porterref10_Rune_link]; exact h) (kRes_ok (s := (.v (.int .i64))) (m := 2))

abbrev porterref10_Unit_R : Type := Int

noncomputable def porterref10_Unit_body : Code := (Go.Proofs.Tryd.f14.body).getD .skip

noncomputable def porterref10_Unit_L : List (List Nat × List Nat) := [([0], [1, 0]), ([0, 0, 1], [13, 0, 1]), ([1, 0, 1], [0, 1]), ([0, 0, 1, 0, 1], [4]), ([1, 0, 1, 0, 1], [4]), ([0, 1, 1], [5]), ([0, 0, 1, 1, 1], [18, 5]), ([1, 0, 1, 1, 1], [5]), ([0, 0, 1, 0, 1, 1, 1], [4]), ([1, 0, 1, 0, 1, 1, 1], [4]), ([0, 1, 1, 1, 1], [4]), ([1, 1, 1, 1, 1], [4])]

noncomputable def porterref10_Unit_E (N : Nat) : Env := mkEnv tys glob [(17, porterref10_Rune_res N)] [] [] [] false

theorem porterref10_Unit_Eok (N : Nat) : EnvOk Go.Proofs.Tryd.prog (porterref10_Unit_E N) := mkEnv_ok mixed tys_ok (FnsOk.cons (porterref10_Rune_ct N) (FnsOk.nil))

noncomputable def porterref10_Unit_p2 (N : Nat) (s : (List UInt8)) (at_ : Int) (k0 : Bool → Option Int) : Option Int :=
  cond (decide (at_ < (0 : Int)))
  (k0 true)
  (k0 (decide ((((List.length s) : Nat) : Int) ≤ at_)))

noncomputable def porterref10_Unit_g2 (N : Nat) (x : denS [(0, .v .str), (0, .v (.int .i64))]) (K : Ex → List A → Option Int) : Option Int :=
  porterref10_Unit_p2 N x.1 x.2.1 (fun a2 => (K .normal (mkS [(0, .v .str), (0, .v (.int .i64)), (11, .v .bool)] 6 (x.1, x.2.1, a2, ()))))

noncomputable def porterref10_Unit_h2 (N : Nat) : Hd Int := fun st K => (unS [(0, .v .str), (0, .v (.int .i64))] 18 (restr [1, 0] 0 st)).bind fun x => porterref10_Unit_g2 N x K

noncomputable def porterref10_Unit_t2 (N : Nat) : Tab Int := []

theorem porterref10_Unit_ok2 {N : Nat} {c : Ctx} (hb : Base Go.Proofs.Tryd.prog (porterref10_Unit_E N) c) : CodeOk Go.Proofs.Tryd.prog c (nodeAt porterref10_Unit_body [0, 0, 1]) (porterref10_Unit_h2 N) :=
  piece_ok (s := [(0, .v .str), (0, .v (.int .i64))]) (m := 18) (g := porterref10_Unit_g2 N) [1, 0] (evN_sound hb N (porterref10_Unit_t2 N) porterref10_Unit_L porterref10_Unit_body TabOk.nil [0, 0, 1] _ rfl) (fun x K => by kernel_rfl)

noncomputable def porterref10_Unit_p1 (N : Nat) (s : (List UInt8)) (at_ : Int) (k0 : Int → Option Int) (k1 : Option Int) : Option Int :=
  porterref10_Unit_p2 N s at_
  (fun x13 => cond x13
    (k0 (0 : Int))
    (k1))

noncomputable def porterref10_Unit_g1 (N : Nat) (x : denS [(0, .v .str), (0, .v (.int .i64))]) (K : Ex → List A → Option Int) : Option Int :=
  porterref10_Unit_p1 N x.1 x.2.1 (fun a0 => (K .ret (mkS [(4, .v (.int .i64))] 15 (a0, ())))) (K .normal (mkS [(0, .v .str), (0, .v (.int .i64))] 18 (x.1, x.2.1, ())))

noncomputable def porterref10_Unit_h1 (N : Nat) : Hd Int := fun st K => (unS [(0, .v .str), (0, .v (.int .i64))] 18 (restr [1, 0] 0 st)).bind fun x => porterref10_Unit_g1 N x K

noncomputable def porterref10_Unit_t1 (N : Nat) : Tab Int := [([0, 0, 1], porterref10_Unit_h2 N)]

theorem porterref10_Unit_ok1 {N : Nat} {c : Ctx} (hb : Base Go.Proofs.Tryd.prog (porterref10_Unit_E N) c) : CodeOk Go.Proofs.Tryd.prog c (nodeAt porterref10_Unit_body [0, 1]) (porterref10_Unit_h1 N) :=
  piece_ok (s := [(0, .v .str), (0, .v (.int .i64))]) (m := 18) (g := porterref10_Unit_g1 N) [1, 0] (evN_sound hb N (porterref10_Unit_t1 N) porterref10_Unit_L porterref10_Unit_body (TabOk.cons (porterref10_Unit_ok2 hb) TabOk.nil) [0, 1] _ rfl) (fun x K => by kernel_rfl)

noncomputable def porterref10_Unit (N : Nat) (s : (List UInt8)) (at_ : Int) : Option Int :=
  porterref10_Unit_p1 N s at_
  (fun x4 => some x4)
  ((porterref10_Rune N s at_).bind fun y =>
    cond (y == (0 : Int))
    (some (1 : Int))
    (some y))

noncomputable def porterref10_Unit_t (N : Nat) : Tab Int := [([0, 1], porterref10_Unit_h1 N)]

theorem porterref10_Unit_link (N : Nat) (x : denS [(0, .v .str), (0, .v (.int .i64))]) : evFX (porterref10_Unit_E N) N (porterref10_Unit_t N) porterref10_Unit_L Go.Proofs.Tryd.f14 (mkS [(0, .v .str), (0, .v (.int .i64))] 0 x) (kRes (.v (.int .i64)) 2) = porterref10_Unit N x.1 x.2.1 := by kernel_rfl

noncomputable def porterref10_Unit_res (N : Nat) : List A → Res := resOf [(0, .v .str), (0, .v (.int .i64))] (fun x => porterref10_Unit N x.1 x.2.1) (oRes (.v (.int .i64)) 2)

theorem porterref10_Unit_ct (N : Nat) : Contract Go.Proofs.Tryd.prog glob 14 (porterref10_Unit_res N) :=
  Contract.of (E := porterref10_Unit_E N) (H := porterref10_Unit_t N) (L := porterref10_Unit_L) (N := N) (body := porterref10_Unit_body) (K := (kRes (.v (.int .i64)) 2)) (porterref10_Unit_Eok N) Go.Proofs.Tryd.func14 (by kernel_rfl) (by decide) (fun _ hb => (TabOk.cons (porterref10_Unit_ok1 hb) TabOk.nil)) (fun x y h => by rw [porterref10_Unit_link]; exact h) (kRes_ok (s := (.v (.int .i64))) (m := 2))

abbrev porterref10_safe_R : Type := Bool

noncomputable def porterref10_safe_body : Code := (Go.Proofs.Tryd.f31.body).getD .skip

noncomputable def porterref10_safe_L : List (List Nat × List Nat) := [([0], [0, 1]), ([0, 1], [4]), ([1, 1], [4])]

noncomputable def porterref10_safe_E (N : Nat) : Env := mkEnv tys glob [(17, porterref10_Rune_res N)] [] [] [] false

theorem porterref10_safe_Eok (N : Nat) : EnvOk Go.Proofs.Tryd.prog (porterref10_safe_E N) := mkEnv_ok mixed tys_ok (FnsOk.cons (porterref10_Rune_ct N) (FnsOk.nil))

noncomputable def porterref10_safe (N : Nat) (s : (List UInt8)) (at_ : Int) : Option Bool :=
  (porterref10_Rune N s at_).bind fun y =>
  cond (decide ((0 : Int) < y))
  (cond (Go.Lift.inR at_ (List.length s))
    (cond (decide ((32 : Int) ≤ (((UInt8.toNat (List.getD s (Int.toNat at_) (0 : UInt8))) : Nat) : Int)))
      (cond (Go.Lift.inR at_ (List.length s))
        (some ((((UInt8.toNat (List.getD s (Int.toNat at_) (0 : UInt8))) : Nat) : Int) != (127 : Int)))
        (none))
      (some false))
    (none))
  (some false)

noncomputable def porterref10_safe_t (N : Nat) : Tab Bool := []

theorem porterref10_safe_link (N : Nat) (x : denS [(0, .v .str), (0, .v (.int .i64))]) : evFX (porterref10_safe_E N) N (porterref10_safe_t N) porterref10_safe_L Go.Proofs.Tryd.f31 (mkS [(0, .v .str), (0, .v (.int .i64))] 0 x) (kRes (.v .bool) 2) = porterref10_safe N x.1 x.2.1 := by kernel_rfl

noncomputable def porterref10_safe_res (N : Nat) : List A → Res := resOf [(0, .v .str), (0, .v (.int .i64))] (fun x => porterref10_safe N x.1 x.2.1) (oRes (.v .bool) 2)

theorem porterref10_safe_ct (N : Nat) : Contract Go.Proofs.Tryd.prog glob 31 (porterref10_safe_res N) :=
  Contract.of (E := porterref10_safe_E N) (H := porterref10_safe_t N) (L := porterref10_safe_L) (N := N) (body := porterref10_safe_body) (K := (kRes (.v .bool) 2)) (porterref10_safe_Eok N) Go.Proofs.Tryd.func31 (by kernel_rfl) (by decide) (fun _ hb => TabOk.nil) (fun x y h => by rw [porterref10_safe_link]; exact h) (kRes_ok (s := (.v .bool)) (m := 2))

abbrev porterref02_Hex_R : Type := (List UInt8)

noncomputable def porterref02_Hex_body : Code := (Go.Proofs.Tryd.f32.body).getD .skip

noncomputable def porterref02_Hex_L : List (List Nat × List Nat) := [([0], [0]), ([0, 1], [0, 3]), ([0, 1, 1], [0, 4, 3]), ([0, 0, 1, 1, 1], [5, 0, 4, 3]), ([0, 1, 0, 1, 1, 1], [5, 0, 4, 3]), ([0, 0, 0, 0, 1, 0, 1, 1, 1], [11, 0, 5, 4, 3]), ([1, 0, 0, 0, 1, 0, 1, 1, 1], [0, 5, 4, 3]), ([1, 1, 0, 0, 0, 1, 0, 1, 1, 1], [4]), ([0, 0, 0, 1, 0, 0, 1, 0, 1, 1, 1], [4, 3, 6, 7, 5, 0]), ([1, 0, 0, 1, 0, 0, 1, 0, 1, 1, 1], [5, 0, 4, 3]), ([0, 1, 0, 0, 1, 0, 1, 1, 1], [5, 0, 4, 3]), ([1, 1, 0, 0, 1, 0, 1, 1, 1], [5, 0, 4, 3]), ([1, 0, 1, 1, 1], [4]), ([0, 1, 1, 1, 1], [2]), ([1, 1, 1, 1, 1], [2])]

noncomputable def porterref02_Hex_E (N : Nat) : Env := mkEnv tys glob [] [] [] [] false

theorem porterref02_Hex_Eok (N : Nat) : EnvOk Go.Proofs.Tryd.prog (porterref02_Hex_E N) := mkEnv_ok mixed tys_ok (FnsOk.nil)

noncomputable def porterref02_Hex_s1 (N : Nat) (s : (List UInt8)) (d : (List UInt8)) (out : (List UInt8)) (i : Int) (rec : (List UInt8) → Int → Option (List UInt8)) (k0 : (List UInt8) → Option (List UInt8)) : Option (List UInt8) :=
  cond (decide (i < (((List.length s) : Nat) : Int)))
  (cond (Go.Lift.inR i (List.length s))
    (cond (Go.Lift.inR i (List.length s))
      (cond (decide (((0 : Int) ≤ (Go.IntKind.wrap Go.IntKind.i64 ((Go.IntKind.wrap Go.IntKind.i64 (Int.tdiv (Go.IntKind.wrap Go.IntKind.i64 (((UInt8.toNat (List.getD s (Int.toNat i) (0 : UInt8))) : Nat) : Int)) (16 : Int))) + (1 : Int)))) ∧ ((Go.IntKind.wrap Go.IntKind.i64 ((Go.IntKind.wrap Go.IntKind.i64 (Int.tdiv (Go.IntKind.wrap Go.IntKind.i64 (((UInt8.toNat (List.getD s (Int.toNat i) (0 : UInt8))) : Nat) : Int)) (16 : Int))) + (1 : Int))) ≤ (((List.length d) : Nat) : Int))))
        (cond (decide (((0 : Int) ≤ (Go.IntKind.wrap Go.IntKind.i64 (Int.tdiv (Go.IntKind.wrap Go.IntKind.i64 (((UInt8.toNat (List.getD s (Int.toNat i) (0 : UInt8))) : Nat) : Int)) (16 : Int)))) ∧ ((Go.IntKind.wrap Go.IntKind.i64 (Int.tdiv (Go.IntKind.wrap Go.IntKind.i64 (((UInt8.toNat (List.getD s (Int.toNat i) (0 : UInt8))) : Nat) : Int)) (16 : Int))) ≤ (Go.IntKind.wrap Go.IntKind.i64 ((Go.IntKind.wrap Go.IntKind.i64 (Int.tdiv (Go.IntKind.wrap Go.IntKind.i64 (((UInt8.toNat (List.getD s (Int.toNat i) (0 : UInt8))) : Nat) : Int)) (16 : Int))) + (1 : Int))))))
          (cond (decide (((List.length out) + (List.length (Go.Lift.cut d (Int.toNat (Go.IntKind.wrap Go.IntKind.i64 (Int.tdiv (Go.IntKind.wrap Go.IntKind.i64 (((UInt8.toNat (List.getD s (Int.toNat i) (0 : UInt8))) : Nat) : Int)) (16 : Int)))) (Int.toNat (Go.IntKind.wrap Go.IntKind.i64 ((Go.IntKind.wrap Go.IntKind.i64 (Int.tdiv (Go.IntKind.wrap Go.IntKind.i64 (((UInt8.toNat (List.getD s (Int.toNat i) (0 : UInt8))) : Nat) : Int)) (16 : Int))) + (1 : Int))))))) ≤ 9223372036854775807))
            (cond (decide (((0 : Int) ≤ (Go.IntKind.wrap Go.IntKind.i64 ((Int.tmod (Go.IntKind.wrap Go.IntKind.i64 (((UInt8.toNat (List.getD s (Int.toNat i) (0 : UInt8))) : Nat) : Int)) (16 : Int)) + (1 : Int)))) ∧ ((Go.IntKind.wrap Go.IntKind.i64 ((Int.tmod (Go.IntKind.wrap Go.IntKind.i64 (((UInt8.toNat (List.getD s (Int.toNat i) (0 : UInt8))) : Nat) : Int)) (16 : Int)) + (1 : Int))) ≤ (((List.length d) : Nat) : Int))))
              (cond (decide (((0 : Int) ≤ (Int.tmod (Go.IntKind.wrap Go.IntKind.i64 (((UInt8.toNat (List.getD s (Int.toNat i) (0 : UInt8))) : Nat) : Int)) (16 : Int))) ∧ ((Int.tmod (Go.IntKind.wrap Go.IntKind.i64 (((UInt8.toNat (List.getD s (Int.toNat i) (0 : UInt8))) : Nat) : Int)) (16 : Int)) ≤ (Go.IntKind.wrap Go.IntKind.i64 ((Int.tmod (Go.IntKind.wrap Go.IntKind.i64 (((UInt8.toNat (List.getD s (Int.toNat i) (0 : UInt8))) : Nat) : Int)) (16 : Int)) + (1 : Int))))))
                (cond (decide (((List.length (out ++ (Go.Lift.cut d (Int.toNat (Go.IntKind.wrap Go.IntKind.i64 (Int.tdiv (Go.IntKind.wrap Go.IntKind.i64 (((UInt8.toNat (List.getD s (Int.toNat i) (0 : UInt8))) : Nat) : Int)) (16 : Int)))) (Int.toNat (Go.IntKind.wrap Go.IntKind.i64 ((Go.IntKind.wrap Go.IntKind.i64 (Int.tdiv (Go.IntKind.wrap Go.IntKind.i64 (((UInt8.toNat (List.getD s (Int.toNat i) (0 : UInt8))) : Nat) : Int)) (16 : Int))) + (1 : Int))))))) + (List.length (Go.Lift.cut d (Int.toNat (Int.tmod (Go.IntKind.wrap Go.IntKind.i64 (((UInt8.toNat (List.getD s (Int.toNat i) (0 : UInt8))) : Nat) : Int)) (16 : Int))) (Int.toNat (Go.IntKind.wrap Go.IntKind.i64 ((Int.tmod (Go.IntKind.wrap Go.IntKind.i64 (((UInt8.toNat (List.getD s (Int.toNat i) (0 : UInt8))) : Nat) : Int)) (16 : Int)) + (1 : Int))))))) ≤ 9223372036854775807))
                  (rec ((out ++ (Go.Lift.cut d (Int.toNat (Go.IntKind.wrap Go.IntKind.i64 (Int.tdiv (Go.IntKind.wrap Go.IntKind.i64 (((UInt8.toNat (List.getD s (Int.toNat i) (0 : UInt8))) : Nat) : Int)) (16 : Int)))) (Int.toNat (Go.IntKind.wrap Go.IntKind.i64 ((Go.IntKind.wrap Go.IntKind.i64 (Int.tdiv (Go.IntKind.wrap Go.IntKind.i64 (((UInt8.toNat (List.getD s (Int.toNat i) (0 : UInt8))) : Nat) : Int)) (16 : Int))) + (1 : Int)))))) ++ (Go.Lift.cut d (Int.toNat (Int.tmod (Go.IntKind.wrap Go.IntKind.i64 (((UInt8.toNat (List.getD s (Int.toNat i) (0 : UInt8))) : Nat) : Int)) (16 : Int))) (Int.toNat (Go.IntKind.wrap Go.IntKind.i64 ((Int.tmod (Go.IntKind.wrap Go.IntKind.i64 (((UInt8.toNat (List.getD s (Int.toNat i) (0 : UInt8))) : Nat) : Int)) (16 : Int)) + (1 : Int)))))) (Go.IntKind.wrap Go.IntKind.i64 (i + (1 : Int))))
                  (none))
                (none))
              (none))
            (none))
          (none))
        (none))
      (none))
    (none))
  (k0 out)

noncomputable def porterref02_Hex_p1 (N : Nat) (s : (List UInt8)) (d : (List UInt8)) (out : (List UInt8)) (i : Int) (k0 : (List UInt8) → Option (List UInt8)) : Option (List UInt8) :=
  iter (fun (v : ((List UInt8) × Int)) r => porterref02_Hex_s1 N s d v.1 v.2 (fun out i => (r (out, i))) k0) N (out, i)

noncomputable def porterref02_Hex_g1 (N : Nat) (i : ((List UInt8) × (List UInt8))) (v : ((List UInt8) × Int)) (r : ((List UInt8) × Int) → Option (List UInt8)) (K : Ex → List A → Option (List UInt8)) : Option (List UInt8) :=
  porterref02_Hex_s1 N i.1 i.2 v.1 v.2 (fun out i => (r (out, i))) (fun a0 => (K (.exit 0) (mkS [(4, .v .str)] 33 (a0, ()))))

noncomputable def porterref02_Hex_h1 (N : Nat) : Hd (List UInt8) := fun st K => (unS [(0, .v .str), (2, .v .str), (0, .v .str), (0, .v (.int .i64))] 32 (restr [5, 0, 4, 3] 0 st)).bind fun x => iter (fun v r => porterref02_Hex_g1 N ((fun x => (x.1, x.2.1)) x) v r K) N ((fun x => (x.2.2.1, x.2.2.2.1)) x)

noncomputable def porterref02_Hex_t1 (N : Nat) : Tab (List UInt8) := []

theorem porterref02_Hex_ok1 {N : Nat} {c : Ctx} (hb : Base Go.Proofs.Tryd.prog (porterref02_Hex_E N) c) : CodeOk Go.Proofs.Tryd.prog c (nodeAt porterref02_Hex_body [0, 1, 0, 1, 1, 1]) (porterref02_Hex_h1 N) :=
  loop_ok (s := [(0, .v .str), (2, .v .str), (0, .v .str), (0, .v (.int .i64))]) (m := 32) (porterref02_Hex_g1 N) [5, 0, 4, 3] N (fun x => (x.1, x.2.1)) (fun x => (x.2.2.1, x.2.2.2.1)) (fun i v => (i.1, i.2, v.1, v.2, ())) (fun _ => rfl) (evN_sound hb N (porterref02_Hex_t1 N) porterref02_Hex_L porterref02_Hex_body TabOk.nil [0, 0, 1, 0, 1, 1, 1] _ rfl) (fun i v r K => by kernel_rfl)

noncomputable def porterref02_Hex (N : Nat) (s : (List UInt8)) : Option (List UInt8) :=
  porterref02_Hex_p1 N s ([(48 : UInt8), (49 : UInt8), (50 : UInt8), (51 : UInt8), (52 : UInt8), (53 : UInt8), (54 : UInt8), (55 : UInt8), (56 : UInt8), (57 : UInt8), (97 : UInt8), (98 : UInt8), (99 : UInt8), (100 : UInt8), (101 : UInt8), (102 : UInt8)] : List UInt8) ([] : List UInt8) (0 : Int)
  (fun out => some out)

noncomputable def porterref02_Hex_t (N : Nat) : Tab (List UInt8) := [([0, 1, 0, 1, 1, 1], porterref02_Hex_h1 N)]

theorem porterref02_Hex_link (N : Nat) (x : denS [(0, .v .str)]) : evFX (porterref02_Hex_E N) N (porterref02_Hex_t N) porterref02_Hex_L Go.Proofs.Tryd.f32 (mkS [(0, .v .str)] 0 x) (kRes (.v .str) 1) = porterref02_Hex N x.1 := by kernel_rfl

noncomputable def porterref02_Hex_res (N : Nat) : List A → Res := resOf [(0, .v .str)] (fun x => porterref02_Hex N x.1) (oRes (.v .str) 1)

theorem porterref02_Hex_ct (N : Nat) : Contract Go.Proofs.Tryd.prog glob 32 (porterref02_Hex_res N) :=
  Contract.of (E := porterref02_Hex_E N) (H := porterref02_Hex_t N) (L := porterref02_Hex_L) (N := N) (body := porterref02_Hex_body) (K := (kRes (.v .str) 1)) (porterref02_Hex_Eok N) Go.Proofs.Tryd.func32 (by kernel_rfl) (by decide) (fun _ hb => (TabOk.cons (porterref02_Hex_ok1 hb) TabOk.nil)) (fun x y h => by rw [porterref02_Hex_link]; exact h) (kRes_ok (s := (.v .str)) (m := 1))

abbrev porterref10_Text_R : Type := (List UInt8)

noncomputable def porterref10_Text_body : Code := (Go.Proofs.Tryd.f12.body).getD .skip

noncomputable def porterref10_Text_L : List (List Nat × List Nat) := [([0], [0]), ([0, 1], [0, 3]), ([0, 1, 1], [4, 0, 3]), ([0, 0, 1, 1, 1], [4, 0, 3]), ([0, 0, 0, 0, 0, 1, 1, 1], [9, 0, 4, 3]), ([1, 0, 0, 0, 0, 1, 1, 1], [0, 4, 3]), ([1, 1, 0, 0, 0, 0, 1, 1, 1], [3]), ([0, 0, 1, 0, 0, 0, 1, 1, 1], [0, 4, 3, 5]), ([0, 0, 1, 0, 1, 0, 0, 0, 1, 1, 1], [22, 3, 0, 4, 5]), ([1, 0, 1, 0, 1, 0, 0, 0, 1, 1, 1], [4, 5, 0, 3]), ([0, 1, 1, 0, 1, 0, 1, 0, 0, 0, 1, 1, 1], [33, 3, 0, 4, 5]), ([1, 1, 1, 0, 1, 0, 1, 0, 0, 0, 1, 1, 1], [4, 5, 0, 3]), ([1, 1, 1, 1, 0, 1, 0, 1, 0, 0, 0, 1, 1, 1], [4, 5, 0, 3]), ([0, 1, 1, 1, 0, 1, 0, 1, 0, 0, 0, 1, 1, 1], [4, 5, 0, 3]), ([0, 1, 0, 1, 0, 1, 0, 0, 0, 1, 1, 1], [4, 5, 0, 3]), ([1, 1, 0, 1, 0, 0, 0, 1, 1, 1], [4, 0, 3]), ([1, 0, 0, 0, 1, 1, 1], [4, 0, 3]), ([0, 1, 1, 1], [3]), ([0, 1, 1, 1, 1], [2]), ([1, 1, 1, 1, 1], [2])]

noncomputable def porterref10_Text_E (N : Nat) : Env := mkEnv tys glob [(32, porterref02_Hex_res N), (31, porterref10_safe_res N), (14, porterref10_Unit_res N)] [] [] [] false

theorem porterref10_Text_Eok (N : Nat) : EnvOk Go.Proofs.Tryd.prog (porterref10_Text_E N) := mkEnv_ok mixed tys_ok (FnsOk.cons (porterref02_Hex_ct N) (FnsOk.cons (porterref10_safe_ct N) (FnsOk.cons (porterref10_Unit_ct N) (FnsOk.nil))))

noncomputable def porterref10_Text_p3 (N : Nat) (s : (List UInt8)) (out : (List UInt8)) (at_ : Int) (n : Int) (k0 : Bool → Option (List UInt8)) : Option (List UInt8) :=
  cond (Go.Lift.inR at_ (List.length s))
  (cond ((((UInt8.toNat (List.getD s (Int.toNat at_) (0 : UInt8))) : Nat) : Int) == (34 : Int))
    (k0 true)
    (cond (Go.Lift.inR at_ (List.length s))
      (k0 ((((UInt8.toNat (List.getD s (Int.toNat at_) (0 : UInt8))) : Nat) : Int) == (92 : Int)))
      (none)))
  (none)

noncomputable def porterref10_Text_g3 (N : Nat) (x : denS [(0, .v .str), (2, .v .str), (0, .v (.int .i64)), (0, .v (.int .i64))]) (K : Ex → List A → Option (List UInt8)) : Option (List UInt8) :=
  porterref10_Text_p3 N x.1 x.2.1 x.2.2.1 x.2.2.2.1 (fun a4 => (K .normal (mkS [(0, .v .str), (2, .v .str), (0, .v (.int .i64)), (0, .v (.int .i64)), (16, .v .bool)] 33 (x.1, x.2.1, x.2.2.1, x.2.2.2.1, a4, ()))))

noncomputable def porterref10_Text_h3 (N : Nat) : Hd (List UInt8) := fun st K => (unS [(0, .v .str), (2, .v .str), (0, .v (.int .i64)), (0, .v (.int .i64))] 50 (restr [0, 4, 3, 5] 0 st)).bind fun x => porterref10_Text_g3 N x K

noncomputable def porterref10_Text_t3 (N : Nat) : Tab (List UInt8) := []

theorem porterref10_Text_ok3 {N : Nat} {c : Ctx} (hb : Base Go.Proofs.Tryd.prog (porterref10_Text_E N) c) : CodeOk Go.Proofs.Tryd.prog c (nodeAt porterref10_Text_body [0, 0, 1, 0, 1, 0, 0, 0, 1, 1, 1]) (porterref10_Text_h3 N) :=
  piece_ok (s := [(0, .v .str), (2, .v .str), (0, .v (.int .i64)), (0, .v (.int .i64))]) (m := 50) (g := porterref10_Text_g3 N) [0, 4, 3, 5] (evN_sound hb N (porterref10_Text_t3 N) porterref10_Text_L porterref10_Text_body TabOk.nil [0, 0, 1, 0, 1, 0, 0, 0, 1, 1, 1] _ rfl) (fun x K => by kernel_rfl)

noncomputable def porterref10_Text_p2 (N : Nat) (s : (List UInt8)) (out : (List UInt8)) (at_ : Int) (n : Int) (k0 : (List UInt8) → Option (List UInt8)) : Option (List UInt8) :=
  porterref10_Text_p3 N s out at_ n
  (fun x22 => cond x22
    (cond (decide (((List.length out) + 1) ≤ 9223372036854775807))
      (cond (decide (((0 : Int) ≤ (Go.IntKind.wrap Go.IntKind.i64 (at_ + (1 : Int)))) ∧ ((Go.IntKind.wrap Go.IntKind.i64 (at_ + (1 : Int))) ≤ (((List.length s) : Nat) : Int))))
        (cond (decide (((0 : Int) ≤ at_) ∧ (at_ ≤ (Go.IntKind.wrap Go.IntKind.i64 (at_ + (1 : Int))))))
          (cond (decide (((List.length (out ++ ([(92 : UInt8)] : List UInt8))) + (List.length (Go.Lift.cut s (Int.toNat at_) (Int.toNat (Go.IntKind.wrap Go.IntKind.i64 (at_ + (1 : Int))))))) ≤ 9223372036854775807))
            (k0 ((out ++ ([(92 : UInt8)] : List UInt8)) ++ (Go.Lift.cut s (Int.toNat at_) (Int.toNat (Go.IntKind.wrap Go.IntKind.i64 (at_ + (1 : Int)))))))
            (none))
          (none))
        (none))
      (none))
    ((porterref10_safe N s at_).bind fun y =>
      cond y
      (cond (decide (((0 : Int) ≤ (Go.IntKind.wrap Go.IntKind.i64 (at_ + n))) ∧ ((Go.IntKind.wrap Go.IntKind.i64 (at_ + n)) ≤ (((List.length s) : Nat) : Int))))
        (cond (decide (((0 : Int) ≤ at_) ∧ (at_ ≤ (Go.IntKind.wrap Go.IntKind.i64 (at_ + n)))))
          (cond (decide (((List.length out) + (List.length (Go.Lift.cut s (Int.toNat at_) (Int.toNat (Go.IntKind.wrap Go.IntKind.i64 (at_ + n)))))) ≤ 9223372036854775807))
            (k0 (out ++ (Go.Lift.cut s (Int.toNat at_) (Int.toNat (Go.IntKind.wrap Go.IntKind.i64 (at_ + n))))))
            (none))
          (none))
        (none))
      (cond (decide (((List.length out) + 2) ≤ 9223372036854775807))
        (cond (decide (((0 : Int) ≤ (Go.IntKind.wrap Go.IntKind.i64 (at_ + (1 : Int)))) ∧ ((Go.IntKind.wrap Go.IntKind.i64 (at_ + (1 : Int))) ≤ (((List.length s) : Nat) : Int))))
          (cond (decide (((0 : Int) ≤ at_) ∧ (at_ ≤ (Go.IntKind.wrap Go.IntKind.i64 (at_ + (1 : Int))))))
            ((porterref02_Hex N (Go.Lift.cut s (Int.toNat at_) (Int.toNat (Go.IntKind.wrap Go.IntKind.i64 (at_ + (1 : Int)))))).bind fun y1 =>
              cond (decide (((List.length (out ++ ([(92 : UInt8), (120 : UInt8)] : List UInt8))) + (List.length y1)) ≤ 9223372036854775807))
              (k0 ((out ++ ([(92 : UInt8), (120 : UInt8)] : List UInt8)) ++ y1))
              (none))
            (none))
          (none))
        (none))))

noncomputable def porterref10_Text_g2 (N : Nat) (x : denS [(0, .v .str), (2, .v .str), (0, .v (.int .i64)), (0, .v (.int .i64))]) (K : Ex → List A → Option (List UInt8)) : Option (List UInt8) :=
  porterref10_Text_p2 N x.1 x.2.1 x.2.2.1 x.2.2.2.1 (fun a1 => (K .normal (mkS [(0, .v .str), (2, .v .str), (0, .v (.int .i64)), (0, .v (.int .i64))] 50 (x.1, a1, x.2.2.1, x.2.2.2.1, ()))))

noncomputable def porterref10_Text_h2 (N : Nat) : Hd (List UInt8) := fun st K => (unS [(0, .v .str), (2, .v .str), (0, .v (.int .i64)), (0, .v (.int .i64))] 50 (restr [0, 4, 3, 5] 0 st)).bind fun x => porterref10_Text_g2 N x K

noncomputable def porterref10_Text_t2 (N : Nat) : Tab (List UInt8) := [([0, 0, 1, 0, 1, 0, 0, 0, 1, 1, 1], porterref10_Text_h3 N)]

theorem porterref10_Text_ok2 {N : Nat} {c : Ctx} (hb : Base Go.Proofs.Tryd.prog (porterref10_Text_E N) c) : CodeOk Go.Proofs.Tryd.prog c (nodeAt porterref10_Text_body [0, 1, 0, 1, 0, 0, 0, 1, 1, 1]) (porterref10_Text_h2 N) :=
  piece_ok (s := [(0, .v .str), (2, .v .str), (0, .v (.int .i64)), (0, .v (.int .i64))]) (m := 50) (g := porterref10_Text_g2 N) [0, 4, 3, 5] (evN_sound hb N (porterref10_Text_t2 N) porterref10_Text_L porterref10_Text_body (TabOk.cons (porterref10_Text_ok3 hb) TabOk.nil) [0, 1, 0, 1, 0, 0, 0, 1, 1, 1] _ rfl) (fun x K => by kernel_rfl)

noncomputable def porterref10_Text_s1 (N : Nat) (s : (List UInt8)) (out : (List UInt8)) (at_ : Int) (rec : (List UInt8) → Int → Option (List UInt8)) (k0 : (List UInt8) → Option (List UInt8)) : Option (List UInt8) :=
  cond (decide (at_ < (((List.length s) : Nat) : Int)))
  ((porterref10_Unit N s at_).bind fun y =>
    porterref10_Text_p2 N s out at_ y
    (fun out1 => rec out1 (Go.IntKind.wrap Go.IntKind.i64 (at_ + y))))
  (k0 out)

noncomputable def porterref10_Text_p1 (N : Nat) (s : (List UInt8)) (out : (List UInt8)) (at_ : Int) (k0 : (List UInt8) → Option (List UInt8)) : Option (List UInt8) :=
  iter (fun (v : ((List UInt8) × Int)) r => porterref10_Text_s1 N s v.1 v.2 (fun out at_ => (r (out, at_))) k0) N (out, at_)

noncomputable def porterref10_Text_g1 (N : Nat) (i : (List UInt8)) (v : ((List UInt8) × Int)) (r : ((List UInt8) × Int) → Option (List UInt8)) (K : Ex → List A → Option (List UInt8)) : Option (List UInt8) :=
  porterref10_Text_s1 N i v.1 v.2 (fun out at_ => (r (out, at_))) (fun a0 => (K (.exit 0) (mkS [(3, .v .str)] 52 (a0, ()))))

noncomputable def porterref10_Text_h1 (N : Nat) : Hd (List UInt8) := fun st K => (unS [(0, .v .str), (2, .v .str), (0, .v (.int .i64))] 51 (restr [4, 0, 3] 0 st)).bind fun x => iter (fun v r => porterref10_Text_g1 N ((fun x => x.1) x) v r K) N ((fun x => (x.2.1, x.2.2.1)) x)

noncomputable def porterref10_Text_t1 (N : Nat) : Tab (List UInt8) := [([0, 1, 0, 1, 0, 0, 0, 1, 1, 1], porterref10_Text_h2 N)]

theorem porterref10_Text_ok1 {N : Nat} {c : Ctx} (hb : Base Go.Proofs.Tryd.prog (porterref10_Text_E N) c) : CodeOk Go.Proofs.Tryd.prog c (nodeAt porterref10_Text_body [0, 0, 1, 1, 1]) (porterref10_Text_h1 N) :=
  loop_ok (s := [(0, .v .str), (2, .v .str), (0, .v (.int .i64))]) (m := 51) (porterref10_Text_g1 N) [4, 0, 3] N (fun x => x.1) (fun x => (x.2.1, x.2.2.1)) (fun i v => (i, v.1, v.2, ())) (fun _ => rfl) (evN_sound hb N (porterref10_Text_t1 N) porterref10_Text_L porterref10_Text_body (TabOk.cons (porterref10_Text_ok2 hb) TabOk.nil) [0, 0, 0, 1, 1, 1] _ rfl) (fun i v r K => by kernel_rfl)

noncomputable def porterref10_Text (N : Nat) (s : (List UInt8)) : Option (List UInt8) :=
  porterref10_Text_p1 N s ([(34 : UInt8)] : List UInt8) (0 : Int)
  (fun out => cond (decide (((List.length out) + 1) ≤ 9223372036854775807))
    (some (out ++ ([(34 : UInt8)] : List UInt8)))
    (none))

noncomputable def porterref10_Text_t (N : Nat) : Tab (List UInt8) := [([0, 0, 1, 1, 1], porterref10_Text_h1 N)]

theorem porterref10_Text_link (N : Nat) (x : denS [(0, .v .str)]) : evFX (porterref10_Text_E N) N (porterref10_Text_t N) porterref10_Text_L Go.Proofs.Tryd.f12 (mkS [(0, .v .str)] 0 x) (kRes (.v .str) 1) = porterref10_Text N x.1 := by kernel_rfl

noncomputable def porterref10_Text_res (N : Nat) : List A → Res := resOf [(0, .v .str)] (fun x => porterref10_Text N x.1) (oRes (.v .str) 1)

theorem porterref10_Text_ct (N : Nat) : Contract Go.Proofs.Tryd.prog glob 12 (porterref10_Text_res N) :=
  Contract.of (E := porterref10_Text_E N) (H := porterref10_Text_t N) (L := porterref10_Text_L) (N := N) (body := porterref10_Text_body) (K := (kRes (.v .str) 1)) (porterref10_Text_Eok N) Go.Proofs.Tryd.func12 (by kernel_rfl) (by decide) (fun _ hb => (TabOk.cons (porterref10_Text_ok1 hb) TabOk.nil)) (fun x y h => by rw [porterref10_Text_link]; exact h) (kRes_ok (s := (.v .str)) (m := 1))

abbrev porterlaw10_QuoteTexts_R : Type := Bool

noncomputable def porterlaw10_QuoteTexts_body : Code := (Go.Proofs.Tryd.f3.body).getD .skip

noncomputable def porterlaw10_QuoteTexts_L : List (List Nat × List Nat) := [([0], [0, 1]), ([0, 0, 1], [7, 0, 1]), ([1, 0, 1], [0, 1]), ([0, 0, 1, 0, 1], [4]), ([1, 0, 1, 0, 1], [4]), ([0, 1, 1], [4]), ([1, 1, 1], [4])]

noncomputable def porterlaw10_QuoteTexts_E (N : Nat) : Env := mkEnv tys glob [(12, porterref10_Text_res N), (14, porterref10_Unit_res N), (10, porterlaw10_works_res N), (11, quote_Text_res N), (13, quote_Unit_res N)] [] [] [] false

theorem porterlaw10_QuoteTexts_Eok (N : Nat) : EnvOk Go.Proofs.Tryd.prog (porterlaw10_QuoteTexts_E N) := mkEnv_ok mixed tys_ok (FnsOk.cons (porterref10_Text_ct N) (FnsOk.cons (porterref10_Unit_ct N) (FnsOk.cons (porterlaw10_works_ct N) (FnsOk.cons (quote_Text_ct N) (FnsOk.cons (quote_Unit_ct N) (FnsOk.nil))))))

noncomputable def porterlaw10_QuoteTexts (N : Nat) (s : (List UInt8)) (at_ : Int) : Option Bool :=
  cond (decide ((300 : Int) < (((List.length s) : Nat) : Int)))
  ((porterlaw10_works N).bind fun y =>
    some y)
  ((quote_Text N s).bind fun y1 =>
    (porterref10_Text N s).bind fun y2 =>
    cond (y1 == y2)
    ((quote_Unit N s at_).bind fun y3 =>
      (porterref10_Unit N s at_).bind fun y4 =>
      cond (y3 == y4)
      ((porterlaw10_works N).bind fun y5 =>
        some y5)
      (some false))
    (some false))

noncomputable def porterlaw10_QuoteTexts_t (N : Nat) : Tab Bool := []

theorem porterlaw10_QuoteTexts_link (N : Nat) (x : denS [(0, .v .str), (0, .v (.int .i64))]) : evFX (porterlaw10_QuoteTexts_E N) N (porterlaw10_QuoteTexts_t N) porterlaw10_QuoteTexts_L Go.Proofs.Tryd.f3 (mkS [(0, .v .str), (0, .v (.int .i64))] 0 x) (kRes (.v .bool) 2) = porterlaw10_QuoteTexts N x.1 x.2.1 := by kernel_rfl

noncomputable def porterlaw10_QuoteTexts_res (N : Nat) : List A → Res := resOf [(0, .v .str), (0, .v (.int .i64))] (fun x => porterlaw10_QuoteTexts N x.1 x.2.1) (oRes (.v .bool) 2)

theorem porterlaw10_QuoteTexts_ct (N : Nat) : Contract Go.Proofs.Tryd.prog glob 3 (porterlaw10_QuoteTexts_res N) :=
  Contract.of (E := porterlaw10_QuoteTexts_E N) (H := porterlaw10_QuoteTexts_t N) (L := porterlaw10_QuoteTexts_L) (N := N) (body := porterlaw10_QuoteTexts_body) (K := (kRes (.v .bool) 2)) (porterlaw10_QuoteTexts_Eok N) Go.Proofs.Tryd.func3 (by kernel_rfl) (by decide) (fun _ hb => TabOk.nil) (fun x y h => by rw [porterlaw10_QuoteTexts_link]; exact h) (kRes_ok (s := (.v .bool)) (m := 2))

abbrev porterref10_digit_R : Type := Int

noncomputable def porterref10_digit_body : Code := (Go.Proofs.Tryd.f42.body).getD .skip

noncomputable def porterref10_digit_L : List (List Nat × List Nat) := [([0], [0]), ([0, 0, 1], [8, 0]), ([1, 0, 1], [0]), ([0, 0, 1, 0, 1], [2]), ([1, 0, 1, 0, 1], [2]), ([0, 0, 1, 1], [17, 0]), ([1, 0, 1, 1], []), ([0, 0, 1, 0, 1, 1], [2]), ([1, 0, 1, 0, 1, 1], [2]), ([0, 1, 1, 1], [2]), ([1, 1, 1, 1], [2])]

noncomputable def porterref10_digit_E (N : Nat) : Env := mkEnv tys glob [] [] [] [] false

theorem porterref10_digit_Eok (N : Nat) : EnvOk Go.Proofs.Tryd.prog (porterref10_digit_E N) := mkEnv_ok mixed tys_ok (FnsOk.nil)

noncomputable def porterref10_digit_p2 (N : Nat) (b : Int) (k0 : Bool → Option Int) : Option Int :=
  cond (decide ((48 : Int) ≤ b))
  (k0 (decide (b ≤ (57 : Int))))
  (k0 false)

noncomputable def porterref10_digit_g2 (N : Nat) (x : denS [(0, .v (.int .u8))]) (K : Ex → List A → Option Int) : Option Int :=
  porterref10_digit_p2 N x.1 (fun a1 => (K .normal (mkS [(0, .v (.int .u8)), (7, .v .bool)] 12 (x.1, a1, ()))))

noncomputable def porterref10_digit_h2 (N : Nat) : Hd Int := fun st K => (unS [(0, .v (.int .u8))] 20 (restr [0] 0 st)).bind fun x => porterref10_digit_g2 N x K

noncomputable def porterref10_digit_t2 (N : Nat) : Tab Int := []

theorem porterref10_digit_ok2 {N : Nat} {c : Ctx} (hb : Base Go.Proofs.Tryd.prog (porterref10_digit_E N) c) : CodeOk Go.Proofs.Tryd.prog c (nodeAt porterref10_digit_body [0, 0, 1]) (porterref10_digit_h2 N) :=
  piece_ok (s := [(0, .v (.int .u8))]) (m := 20) (g := porterref10_digit_g2 N) [0] (evN_sound hb N (porterref10_digit_t2 N) porterref10_digit_L porterref10_digit_body TabOk.nil [0, 0, 1] _ rfl) (fun x K => by kernel_rfl)

noncomputable def porterref10_digit_p1 (N : Nat) (b : Int) (k0 : Int → Option Int) (k1 : Option Int) : Option Int :=
  porterref10_digit_p2 N b
  (fun x8 => cond x8
    (k0 (Go.IntKind.wrap Go.IntKind.i64 ((Go.IntKind.wrap Go.IntKind.i64 b) - (48 : Int))))
    (k1))

noncomputable def porterref10_digit_g1 (N : Nat) (x : denS [(0, .v (.int .u8))]) (K : Ex → List A → Option Int) : Option Int :=
  porterref10_digit_p1 N x.1 (fun a0 => (K .ret (mkS [(2, .v (.int .i64))] 18 (a0, ())))) (K .normal (mkS [(0, .v (.int .u8))] 20 (x.1, ())))

noncomputable def porterref10_digit_h1 (N : Nat) : Hd Int := fun st K => (unS [(0, .v (.int .u8))] 20 (restr [0] 0 st)).bind fun x => porterref10_digit_g1 N x K

noncomputable def porterref10_digit_t1 (N : Nat) : Tab Int := [([0, 0, 1], porterref10_digit_h2 N)]

theorem porterref10_digit_ok1 {N : Nat} {c : Ctx} (hb : Base Go.Proofs.Tryd.prog (porterref10_digit_E N) c) : CodeOk Go.Proofs.Tryd.prog c (nodeAt porterref10_digit_body [0, 1]) (porterref10_digit_h1 N) :=
  piece_ok (s := [(0, .v (.int .u8))]) (m := 20) (g := porterref10_digit_g1 N) [0] (evN_sound hb N (porterref10_digit_t1 N) porterref10_digit_L porterref10_digit_body (TabOk.cons (porterref10_digit_ok2 hb) TabOk.nil) [0, 1] _ rfl) (fun x K => by kernel_rfl)

noncomputable def porterref10_digit_p3 (N : Nat) (b : Int) (k0 : Bool → Option Int) : Option Int :=
  cond (decide ((97 : Int) ≤ b))
  (k0 (decide (b ≤ (102 : Int))))
  (k0 false)

noncomputable def porterref10_digit_g3 (N : Nat) (x : denS [(0, .v (.int .u8))]) (K : Ex → List A → Option Int) : Option Int :=
  porterref10_digit_p3 N x.1 (fun a1 => (K .normal (mkS [(0, .v (.int .u8)), (16, .v .bool)] 3 (x.1, a1, ()))))

noncomputable def porterref10_digit_h3 (N : Nat) : Hd Int := fun st K => (unS [(0, .v (.int .u8))] 20 (restr [0] 0 st)).bind fun x => porterref10_digit_g3 N x K

noncomputable def porterref10_digit_t3 (N : Nat) : Tab Int := []

theorem porterref10_digit_ok3 {N : Nat} {c : Ctx} (hb : Base Go.Proofs.Tryd.prog (porterref10_digit_E N) c) : CodeOk Go.Proofs.Tryd.prog c (nodeAt porterref10_digit_body [0, 0, 1, 1]) (porterref10_digit_h3 N) :=
  piece_ok (s := [(0, .v (.int .u8))]) (m := 20) (g := porterref10_digit_g3 N) [0] (evN_sound hb N (porterref10_digit_t3 N) porterref10_digit_L porterref10_digit_body TabOk.nil [0, 0, 1, 1] _ rfl) (fun x K => by kernel_rfl)

noncomputable def porterref10_digit (N : Nat) (b : Int) : Option Int :=
  porterref10_digit_p1 N b
  (fun x2 => some x2)
  (porterref10_digit_p3 N b
    (fun x17 => cond x17
      (some (Go.IntKind.wrap Go.IntKind.i64 ((Go.IntKind.wrap Go.IntKind.i64 b) - (87 : Int))))
      (some (-(1 : Int)))))

noncomputable def porterref10_digit_t (N : Nat) : Tab Int := [([0, 1], porterref10_digit_h1 N), ([0, 0, 1, 1], porterref10_digit_h3 N)]

theorem porterref10_digit_link (N : Nat) (x : denS [(0, .v (.int .u8))]) : evFX (porterref10_digit_E N) N (porterref10_digit_t N) porterref10_digit_L Go.Proofs.Tryd.f42 (mkS [(0, .v (.int .u8))] 0 x) (kRes (.v (.int .i64)) 1) = porterref10_digit N x.1 := by kernel_rfl

noncomputable def porterref10_digit_res (N : Nat) : List A → Res := resOf [(0, .v (.int .u8))] (fun x => porterref10_digit N x.1) (oRes (.v (.int .i64)) 1)

theorem porterref10_digit_ct (N : Nat) : Contract Go.Proofs.Tryd.prog glob 42 (porterref10_digit_res N) :=
  Contract.of (E := porterref10_digit_E N) (H := porterref10_digit_t N) (L := porterref10_digit_L) (N := N) (body := porterref10_digit_body) (K := (kRes (.v (.int .i64)) 1)) (porterref10_digit_Eok N) Go.Proofs.Tryd.func42 (by kernel_rfl) (by decide) (fun _ hb => (TabOk.cons (porterref10_digit_ok1 hb) (TabOk.cons (porterref10_digit_ok3 hb) TabOk.nil))) (fun x y h => by rw [porterref10_digit_link]; exact h) (kRes_ok (s := (.v (.int .i64))) (m := 1))

abbrev porterref02_Byte_R : Type := (List UInt8)

noncomputable def porterref02_Byte_body : Code := (Go.Proofs.Tryd.f43.body).getD .skip

noncomputable def porterref02_Byte_L : List (List Nat × List Nat) := [([0], [0]), ([0, 1], [3]), ([0, 1, 1], [2]), ([1, 1, 1], [2])]

noncomputable def porterref02_Byte_E (N : Nat) : Env := mkEnv tys glob [] [] [] [] false

theorem porterref02_Byte_Eok (N : Nat) : EnvOk Go.Proofs.Tryd.prog (porterref02_Byte_E N) := mkEnv_ok mixed tys_ok (FnsOk.nil)

noncomputable def porterref02_Byte (N : Nat) (n : Int) : Option (List UInt8) :=
  some (Go.Lift.toStr ([(Go.IntKind.wrap Go.IntKind.u8 n)] : List Int))

noncomputable def porterref02_Byte_t (N : Nat) : Tab (List UInt8) := []

theorem porterref02_Byte_link (N : Nat) (x : denS [(0, .v (.int .i64))]) : evFX (porterref02_Byte_E N) N (porterref02_Byte_t N) porterref02_Byte_L Go.Proofs.Tryd.f43 (mkS [(0, .v (.int .i64))] 0 x) (kRes (.v .str) 1) = porterref02_Byte N x.1 := by kernel_rfl

noncomputable def porterref02_Byte_res (N : Nat) : List A → Res := resOf [(0, .v (.int .i64))] (fun x => porterref02_Byte N x.1) (oRes (.v .str) 1)

theorem porterref02_Byte_ct (N : Nat) : Contract Go.Proofs.Tryd.prog glob 43 (porterref02_Byte_res N) :=
  Contract.of (E := porterref02_Byte_E N) (H := porterref02_Byte_t N) (L := porterref02_Byte_L) (N := N) (body := porterref02_Byte_body) (K := (kRes (.v .str) 1)) (porterref02_Byte_Eok N) Go.Proofs.Tryd.func43 (by kernel_rfl) (by decide) (fun _ hb => TabOk.nil) (fun x y h => by rw [porterref02_Byte_link]; exact h) (kRes_ok (s := (.v .str)) (m := 1))

abbrev porterref10_Escape_R : Type := ((List UInt8) × Int × Unit)

noncomputable def porterref10_Escape_body : Code := (Go.Proofs.Tryd.f35.body).getD .skip

noncomputable def porterref10_Escape_L : List (List Nat × List Nat) := [([0], [0, 1]), ([0, 1], [6, 0, 1]), ([0, 0, 1, 1], [14, 0, 1, 6]), ([1, 0, 1, 1], [0, 1, 6]), ([0, 0, 1, 0, 1, 1], [4, 5]), ([1, 0, 1, 0, 1, 1], [4, 5]), ([0, 0, 1, 1, 1], [26, 0, 1, 6]), ([1, 0, 1, 1, 1], [0, 1, 6]), ([0, 0, 1, 0, 1, 1, 1], [4, 5]), ([1, 0, 1, 0, 1, 1, 1], [4, 5]), ([0, 0, 1, 1, 1, 1], [37, 6, 0, 1]), ([1, 0, 1, 1, 1, 1], [6, 0, 1]), ([0, 0, 1, 0, 1, 1, 1, 1], [4, 5]), ([1, 0, 1, 0, 1, 1, 1, 1], [4, 5]), ([0, 0, 1, 1, 1, 1, 1], [39, 0, 1, 6]), ([1, 0, 1, 1, 1, 1, 1], [0, 1, 6]), ([0, 0, 1, 0, 1, 1, 1, 1, 1], [4, 5]), ([1, 0, 1, 0, 1, 1, 1, 1, 1], [4, 5]), ([0, 1, 1, 1, 1, 1, 1], [7, 6, 0, 1]), ([0, 0, 1, 1, 1, 1, 1, 1, 1], [46, 6, 0, 1, 7]), ([1, 0, 1, 1, 1, 1, 1, 1, 1], [6, 0, 1, 7]), ([0, 0, 1, 0, 1, 1, 1, 1, 1, 1, 1], [4, 5]), ([1, 0, 1, 0, 1, 1, 1, 1, 1, 1, 1], [4, 5]), ([0, 0, 1, 1, 1, 1, 1, 1, 1, 1], [48, 0, 1, 7]), ([1, 0, 1, 1, 1, 1, 1, 1, 1, 1], [0, 1, 7]), ([0, 0, 1, 0, 1, 1, 1, 1, 1, 1, 1, 1], [4, 5]), ([1, 0, 1, 0, 1, 1, 1, 1, 1, 1, 1, 1], [4, 5]), ([0, 1, 1, 1, 1, 1, 1, 1, 1, 1], [8, 7]), ([0, 0, 1, 1, 1, 1, 1, 1, 1, 1, 1, 1], [55, 7, 8]), ([1, 0, 1, 1, 1, 1, 1, 1, 1, 1, 1, 1], [7, 8]), ([0, 0, 1, 0, 1, 1, 1, 1, 1, 1, 1, 1, 1, 1], [4, 5]), ([1, 0, 1, 0, 1, 1, 1, 1, 1, 1, 1, 1, 1, 1], [4, 5]), ([0, 1, 1, 1, 1, 1, 1, 1, 1, 1, 1, 1], [4, 5]), ([1, 1, 1, 1, 1, 1, 1, 1, 1, 1, 1, 1], [4, 5])]

noncomputable def porterref10_Escape_E (N : Nat) : Env := mkEnv tys glob [(43, porterref02_Byte_res N), (42, porterref10_digit_res N)] [] [] [] false

theorem porterref10_Escape_Eok (N : Nat) : EnvOk Go.Proofs.Tryd.prog (porterref10_Escape_E N) := mkEnv_ok mixed tys_ok (FnsOk.cons (porterref02_Byte_ct N) (FnsOk.cons (porterref10_digit_ct N) (FnsOk.nil)))

noncomputable def porterref10_Escape_p2 (N : Nat) (s : (List UInt8)) (at_ : Int) (left : Int) (k0 : Bool → Option ((List UInt8) × Int × Unit)) : Option ((List UInt8) × Int × Unit) :=
  cond (Go.Lift.inR (Go.IntKind.wrap Go.IntKind.i64 (at_ + (1 : Int))) (List.length s))
  (cond ((((UInt8.toNat (List.getD s (Int.toNat (Go.IntKind.wrap Go.IntKind.i64 (at_ + (1 : Int)))) (0 : UInt8))) : Nat) : Int) == (34 : Int))
    (k0 true)
    (cond (Go.Lift.inR (Go.IntKind.wrap Go.IntKind.i64 (at_ + (1 : Int))) (List.length s))
      (k0 ((((UInt8.toNat (List.getD s (Int.toNat (Go.IntKind.wrap Go.IntKind.i64 (at_ + (1 : Int)))) (0 : UInt8))) : Nat) : Int) == (92 : Int)))
      (none)))
  (none)

noncomputable def porterref10_Escape_g2 (N : Nat) (x : denS [(0, .v .str), (0, .v (.int .i64)), (4, .v (.int .i64))]) (K : Ex → List A → Option ((List UInt8) × Int × Unit)) : Option ((List UInt8) × Int × Unit) :=
  porterref10_Escape_p2 N x.1 x.2.1 x.2.2.1 (fun a3 => (K .normal (mkS [(0, .v .str), (0, .v (.int .i64)), (4, .v (.int .i64)), (19, .v .bool)] 34 (x.1, x.2.1, x.2.2.1, a3, ()))))

noncomputable def porterref10_Escape_h2 (N : Nat) : Hd ((List UInt8) × Int × Unit) := fun st K => (unS [(0, .v .str), (0, .v (.int .i64)), (4, .v (.int .i64))] 54 (restr [0, 1, 6] 0 st)).bind fun x => porterref10_Escape_g2 N x K

noncomputable def porterref10_Escape_t2 (N : Nat) : Tab ((List UInt8) × Int × Unit) := []

theorem porterref10_Escape_ok2 {N : Nat} {c : Ctx} (hb : Base Go.Proofs.Tryd.prog (porterref10_Escape_E N) c) : CodeOk Go.Proofs.Tryd.prog c (nodeAt porterref10_Escape_body [0, 0, 1, 1, 1]) (porterref10_Escape_h2 N) :=
  piece_ok (s := [(0, .v .str), (0, .v (.int .i64)), (4, .v (.int .i64))]) (m := 54) (g := porterref10_Escape_g2 N) [0, 1, 6] (evN_sound hb N (porterref10_Escape_t2 N) porterref10_Escape_L porterref10_Escape_body TabOk.nil [0, 0, 1, 1, 1] _ rfl) (fun x K => by kernel_rfl)

noncomputable def porterref10_Escape_p1 (N : Nat) (s : (List UInt8)) (at_ : Int) (left : Int) (k0 : (List UInt8) → Int → Option ((List UInt8) × Int × Unit)) (k1 : Option ((List UInt8) × Int × Unit)) : Option ((List UInt8) × Int × Unit) :=
  porterref10_Escape_p2 N s at_ left
  (fun x26 => cond x26
    (cond (decide (((0 : Int) ≤ (Go.IntKind.wrap Go.IntKind.i64 (at_ + (2 : Int)))) ∧ ((Go.IntKind.wrap Go.IntKind.i64 (at_ + (2 : Int))) ≤ (((List.length s) : Nat) : Int))))
      (cond (decide (((0 : Int) ≤ (Go.IntKind.wrap Go.IntKind.i64 (at_ + (1 : Int)))) ∧ ((Go.IntKind.wrap Go.IntKind.i64 (at_ + (1 : Int))) ≤ (Go.IntKind.wrap Go.IntKind.i64 (at_ + (2 : Int))))))
        (k0 (Go.Lift.cut s (Int.toNat (Go.IntKind.wrap Go.IntKind.i64 (at_ + (1 : Int)))) (Int.toNat (Go.IntKind.wrap Go.IntKind.i64 (at_ + (2 : Int))))) (2 : Int))
        (none))
      (none))
    (k1))

noncomputable def porterref10_Escape_g1 (N : Nat) (x : denS [(0, .v .str), (0, .v (.int .i64)), (4, .v (.int .i64))]) (K : Ex → List A → Option ((List UInt8) × Int × Unit)) : Option ((List UInt8) × Int × Unit) :=
  porterref10_Escape_p1 N x.1 x.2.1 x.2.2.1 (fun a0 a1 => (K .ret (mkS [(4, .v .str), (0, .v (.int .i64))] 55 (a0, a1, ())))) (K .normal (mkS [(0, .v .str), (0, .v (.int .i64)), (4, .v (.int .i64))] 54 (x.1, x.2.1, x.2.2.1, ())))

noncomputable def porterref10_Escape_h1 (N : Nat) : Hd ((List UInt8) × Int × Unit) := fun st K => (unS [(0, .v .str), (0, .v (.int .i64)), (4, .v (.int .i64))] 54 (restr [0, 1, 6] 0 st)).bind fun x => porterref10_Escape_g1 N x K

noncomputable def porterref10_Escape_t1 (N : Nat) : Tab ((List UInt8) × Int × Unit) := [([0, 0, 1, 1, 1], porterref10_Escape_h2 N)]

theorem porterref10_Escape_ok1 {N : Nat} {c : Ctx} (hb : Base Go.Proofs.Tryd.prog (porterref10_Escape_E N) c) : CodeOk Go.Proofs.Tryd.prog c (nodeAt porterref10_Escape_body [0, 1, 1, 1]) (porterref10_Escape_h1 N) :=
  piece_ok (s := [(0, .v .str), (0, .v (.int .i64)), (4, .v (.int .i64))]) (m := 54) (g := porterref10_Escape_g1 N) [0, 1, 6] (evN_sound hb N (porterref10_Escape_t1 N) porterref10_Escape_L porterref10_Escape_body (TabOk.cons (porterref10_Escape_ok2 hb) TabOk.nil) [0, 1, 1, 1] _ rfl) (fun x K => by kernel_rfl)

noncomputable def porterref10_Escape (N : Nat) (s : (List UInt8)) (at_ : Int) : Option ((List UInt8) × Int × Unit) :=
  cond (decide ((Go.IntKind.wrap Go.IntKind.i64 ((((List.length s) : Nat) : Int) - at_)) < (2 : Int)))
  (some (([] : List UInt8), ((-(1 : Int)), ())))
  (porterref10_Escape_p1 N s at_ (Go.IntKind.wrap Go.IntKind.i64 ((((List.length s) : Nat) : Int) - at_))
    (fun x4 x5 => some (x4, (x5, ())))
    (cond (Go.Lift.inR (Go.IntKind.wrap Go.IntKind.i64 (at_ + (1 : Int))) (List.length s))
      (cond ((((UInt8.toNat (List.getD s (Int.toNat (Go.IntKind.wrap Go.IntKind.i64 (at_ + (1 : Int)))) (0 : UInt8))) : Nat) : Int) != (120 : Int))
        (some (([] : List UInt8), ((0 : Int), ())))
        (cond (decide ((Go.IntKind.wrap Go.IntKind.i64 ((((List.length s) : Nat) : Int) - at_)) < (3 : Int)))
          (some (([] : List UInt8), ((-(1 : Int)), ())))
          (cond (Go.Lift.inR (Go.IntKind.wrap Go.IntKind.i64 (at_ + (2 : Int))) (List.length s))
            ((porterref10_digit N (((UInt8.toNat (List.getD s (Int.toNat (Go.IntKind.wrap Go.IntKind.i64 (at_ + (2 : Int)))) (0 : UInt8))) : Nat) : Int)).bind fun y =>
              cond (decide (y < (0 : Int)))
              (some (([] : List UInt8), ((0 : Int), ())))
              (cond (decide ((Go.IntKind.wrap Go.IntKind.i64 ((((List.length s) : Nat) : Int) - at_)) < (4 : Int)))
                (some (([] : List UInt8), ((-(1 : Int)), ())))
                (cond (Go.Lift.inR (Go.IntKind.wrap Go.IntKind.i64 (at_ + (3 : Int))) (List.length s))
                  ((porterref10_digit N (((UInt8.toNat (List.getD s (Int.toNat (Go.IntKind.wrap Go.IntKind.i64 (at_ + (3 : Int)))) (0 : UInt8))) : Nat) : Int)).bind fun y1 =>
                    cond (decide (y1 < (0 : Int)))
                    (some (([] : List UInt8), ((0 : Int), ())))
                    (some ((Go.Lift.toStr ([(Go.IntKind.wrap Go.IntKind.u8 (Go.IntKind.wrap Go.IntKind.i64 ((Go.IntKind.wrap Go.IntKind.i64 ((16 : Int) * y)) + y1)))] : List Int)), ((4 : Int), ()))))
                  (none))))
            (none))))
      (none)))

noncomputable def porterref10_Escape_t (N : Nat) : Tab ((List UInt8) × Int × Unit) := [([0, 1, 1, 1], porterref10_Escape_h1 N)]

theorem porterref10_Escape_link (N : Nat) (x : denS [(0, .v .str), (0, .v (.int .i64))]) : evFX (porterref10_Escape_E N) N (porterref10_Escape_t N) porterref10_Escape_L Go.Proofs.Tryd.f35 (mkS [(0, .v .str), (0, .v (.int .i64))] 0 x) (kRes (.tup [.str, (.int .i64)]) 2) = porterref10_Escape N x.1 x.2.1 := by kernel_rfl

noncomputable def porterref10_Escape_res (N : Nat) : List A → Res := resOf [(0, .v .str), (0, .v (.int .i64))] (fun x => porterref10_Escape N x.1 x.2.1) (oRes (.tup [.str, (.int .i64)]) 2)

theorem porterref10_Escape_ct (N : Nat) : Contract Go.Proofs.Tryd.prog glob 35 (porterref10_Escape_res N) :=
  Contract.of (E := porterref10_Escape_E N) (H := porterref10_Escape_t N) (L := porterref10_Escape_L) (N := N) (body := porterref10_Escape_body) (K := (kRes (.tup [.str, (.int .i64)]) 2)) (porterref10_Escape_Eok N) Go.Proofs.Tryd.func35 (by kernel_rfl) (by decide) (fun _ hb => (TabOk.cons (porterref10_Escape_ok1 hb) TabOk.nil)) (fun x y h => by rw [porterref10_Escape_link]; exact h) (kRes_ok (s := (.tup [.str, (.int .i64)])) (m := 2))

abbrev porterref10_Read_R : Type := ((List UInt8) × Int × (Int × (Int × Unit)) × Unit)

noncomputable def porterref10_Read_body : Code := (Go.Proofs.Tryd.f16.body).getD .skip

noncomputable def porterref10_Read_L : List (List Nat × List Nat) := [([0], [1, 0, 6]), ([0, 0, 1], [18, 6, 1, 0]), ([1, 0, 1], [1, 0, 6]), ([0, 0, 1, 0, 1], [4, 5, 6]), ([1, 0, 1, 0, 1], [4, 5, 6]), ([0, 0, 1, 1], [23, 1, 6, 0]), ([1, 0, 1, 1], [0, 1, 6]), ([0, 0, 1, 0, 1, 1], [4, 5, 6]), ([1, 0, 1, 0, 1, 1], [4, 5, 6]), ([0, 0, 1, 1, 1], [29, 1, 6, 0]), ([1, 0, 1, 1, 1], [1, 0, 6]), ([0, 0, 1, 0, 1, 1, 1], [4, 5, 6]), ([1, 0, 1, 0, 1, 1, 1], [4, 5, 6]), ([0, 1, 1, 1, 1], [1, 0, 7, 6]), ([0, 1, 1, 1, 1, 1], [8, 0, 7, 6]), ([0, 0, 1, 1, 1, 1, 1, 1], [8, 0, 7, 6]), ([0, 0, 0, 0, 0, 1, 1, 1, 1, 1, 1], [37, 0, 8, 7, 6]), ([1, 0, 0, 0, 0, 1, 1, 1, 1, 1, 1], [0, 8, 7, 6]), ([1, 1, 0, 0, 0, 0, 1, 1, 1, 1, 1, 1], [0, 6]), ([0, 0, 0, 1, 0, 0, 0, 1, 1, 1, 1, 1, 1], [41, 7, 8, 6, 0]), ([1, 0, 0, 1, 0, 0, 0, 1, 1, 1, 1, 1, 1], [0, 8, 6, 7]), ([0, 0, 1, 0, 0, 1, 0, 0, 0, 1, 1, 1, 1, 1, 1], [4, 5, 6]), ([1, 0, 1, 0, 0, 1, 0, 0, 0, 1, 1, 1, 1, 1, 1], [4, 5, 6]), ([0, 1, 0, 1, 0, 0, 0, 1, 1, 1, 1, 1, 1], [0, 8, 6, 7, 10, 9]), ([0, 0, 1, 1, 0, 1, 0, 0, 0, 1, 1, 1, 1, 1, 1], [53, 0, 8, 6, 7, 10, 9]), ([1, 0, 1, 1, 0, 1, 0, 0, 0, 1, 1, 1, 1, 1, 1], [10, 0, 6, 8, 7, 9]), ([0, 1, 1, 0, 1, 1, 0, 1, 0, 0, 0, 1, 1, 1, 1, 1, 1], [62, 0, 8, 6, 7, 10, 9]), ([1, 1, 1, 0, 1, 1, 0, 1, 0, 0, 0, 1, 1, 1, 1, 1, 1], [10, 0, 6, 8, 7, 9]), ([0, 0, 1, 1, 1, 0, 1, 1, 0, 1, 0, 0, 0, 1, 1, 1, 1, 1, 1], [0, 8, 10, 6, 7]), ([1, 0, 1, 1, 1, 0, 1, 1, 0, 1, 0, 0, 0, 1, 1, 1, 1, 1, 1], [10, 0, 6, 8, 7, 9]), ([0, 1, 0, 1, 1, 0, 1, 0, 0, 0, 1, 1, 1, 1, 1, 1], [10, 0, 6, 8, 7, 9]), ([0, 0, 1, 1, 1, 0, 1, 0, 0, 0, 1, 1, 1, 1, 1, 1], [73, 0, 6, 10, 8, 7, 9]), ([1, 0, 1, 1, 1, 0, 1, 0, 0, 0, 1, 1, 1, 1, 1, 1], [10, 8, 6, 7, 9, 0]), ([0, 0, 1, 0, 1, 1, 1, 0, 1, 0, 0, 0, 1, 1, 1, 1, 1, 1], [4, 5, 6]), ([1, 0, 1, 0, 1, 1, 1, 0, 1, 0, 0, 0, 1, 1, 1, 1, 1, 1], [4, 5, 6]), ([0, 0, 1, 1, 1, 1, 0, 1, 0, 0, 0, 1, 1, 1, 1, 1, 1], [78, 8, 6, 7, 9, 10, 0]), ([1, 0, 1, 1, 1, 1, 0, 1, 0, 0, 0, 1, 1, 1, 1, 1, 1], [7, 9, 8, 10, 0, 6]), ([0, 0, 1, 0, 1, 1, 1, 1, 0, 1, 0, 0, 0, 1, 1, 1, 1, 1, 1], [4, 5, 6]), ([1, 0, 1, 0, 1, 1, 1, 1, 0, 1, 0, 0, 0, 1, 1, 1, 1, 1, 1], [4, 5, 6]), ([0, 1, 1, 1, 1, 1, 0, 1, 0, 0, 0, 1, 1, 1, 1, 1, 1], [8, 10, 0, 7, 6]), ([1, 1, 1, 1, 1, 1, 0, 1, 0, 0, 0, 1, 1, 1, 1, 1, 1], [8, 0, 7, 6]), ([1, 0, 0, 0, 1, 1, 1, 1, 1, 1], [8, 0, 7, 6]), ([0, 1, 1, 1, 1, 1, 1], [0, 6]), ([0, 1, 1, 1, 1, 1, 1, 1], [4, 5, 6]), ([1, 1, 1, 1, 1, 1, 1, 1], [4, 5, 6])]

noncomputable def porterref10_Read_E (N : Nat) : Env := mkEnv tys glob [(35, porterref10_Escape_res N), (31, porterref10_safe_res N), (17, porterref10_Rune_res N)] [] [] [] false

theorem porterref10_Read_Eok (N : Nat) : EnvOk Go.Proofs.Tryd.prog (porterref10_Read_E N) := mkEnv_ok mixed tys_ok (FnsOk.cons (porterref10_Escape_ct N) (FnsOk.cons (porterref10_safe_ct N) (FnsOk.cons (porterref10_Rune_ct N) (FnsOk.nil))))

noncomputable def porterref10_Read_p2 (N : Nat) (s : (List UInt8)) (at_ : Int) (x6 : (Int × (Int × Unit))) (k0 : Bool → Option ((List UInt8) × Int × (Int × (Int × Unit)) × Unit)) : Option ((List UInt8) × Int × (Int × (Int × Unit)) × Unit) :=
  cond (decide (at_ < (0 : Int)))
  (k0 true)
  (k0 (decide ((((List.length s) : Nat) : Int) < at_)))

noncomputable def porterref10_Read_g2 (N : Nat) (x : denS [(0, .v .str), (0, .v (.int .i64)), (4, .box (.pair (.int .i64) (.pair (.int .i64) .unit)))]) (K : Ex → List A → Option ((List UInt8) × Int × (Int × (Int × Unit)) × Unit)) : Option ((List UInt8) × Int × (Int × (Int × Unit)) × Unit) :=
  porterref10_Read_p2 N x.1 x.2.1 x.2.2.1 (fun a3 => (K .normal (mkS [(0, .v .str), (0, .v (.int .i64)), (4, .box (.pair (.int .i64) (.pair (.int .i64) .unit))), (11, .v .bool)] 71 (x.1, x.2.1, x.2.2.1, a3, ()))))

noncomputable def porterref10_Read_h2 (N : Nat) : Hd ((List UInt8) × Int × (Int × (Int × Unit)) × Unit) := fun st K => (unS [(0, .v .str), (0, .v (.int .i64)), (4, .box (.pair (.int .i64) (.pair (.int .i64) .unit)))] 83 (restr [1, 0, 6] 0 st)).bind fun x => porterref10_Read_g2 N x K

noncomputable def porterref10_Read_t2 (N : Nat) : Tab ((List UInt8) × Int × (Int × (Int × Unit)) × Unit) := []

theorem porterref10_Read_ok2 {N : Nat} {c : Ctx} (hb : Base Go.Proofs.Tryd.prog (porterref10_Read_E N) c) : CodeOk Go.Proofs.Tryd.prog c (nodeAt porterref10_Read_body [0, 0, 1]) (porterref10_Read_h2 N) :=
  piece_ok (s := [(0, .v .str), (0, .v (.int .i64)), (4, .box (.pair (.int .i64) (.pair (.int .i64) .unit)))]) (m := 83) (g := porterref10_Read_g2 N) [1, 0, 6] (evN_sound hb N (porterref10_Read_t2 N) porterref10_Read_L porterref10_Read_body TabOk.nil [0, 0, 1] _ rfl) (fun x K => by kernel_rfl)

noncomputable def porterref10_Read_p1 (N : Nat) (s : (List UInt8)) (at_ : Int) (x6 : (Int × (Int × Unit))) (k0 : (List UInt8) → Int → (Int × (Int × Unit)) → Option ((List UInt8) × Int × (Int × (Int × Unit)) × Unit)) (k1 : Option ((List UInt8) × Int × (Int × (Int × Unit)) × Unit)) : Option ((List UInt8) × Int × (Int × (Int × Unit)) × Unit) :=
  porterref10_Read_p2 N s at_ x6
  (fun x18 => cond x18
    (k0 ([] : List UInt8) (0 : Int) ((7 : Int), ((0 : Int), ())))
    (k1))

noncomputable def porterref10_Read_g1 (N : Nat) (x : denS [(0, .v .str), (0, .v (.int .i64)), (4, .box (.pair (.int .i64) (.pair (.int .i64) .unit)))]) (K : Ex → List A → Option ((List UInt8) × Int × (Int × (Int × Unit)) × Unit)) : Option ((List UInt8) × Int × (Int × (Int × Unit)) × Unit) :=
  porterref10_Read_p1 N x.1 x.2.1 x.2.2.1 (fun a0 a1 a2 => (K .ret (mkS [(4, .v .str), (0, .v (.int .i64)), (0, .box (.pair (.int .i64) (.pair (.int .i64) .unit)))] 83 (a0, a1, a2, ())))) (K .normal (mkS [(0, .v .str), (0, .v (.int .i64)), (4, .box (.pair (.int .i64) (.pair (.int .i64) .unit)))] 83 (x.1, x.2.1, x.2.2.1, ())))

noncomputable def porterref10_Read_h1 (N : Nat) : Hd ((List UInt8) × Int × (Int × (Int × Unit)) × Unit) := fun st K => (unS [(0, .v .str), (0, .v (.int .i64)), (4, .box (.pair (.int .i64) (.pair (.int .i64) .unit)))] 83 (restr [1, 0, 6] 0 st)).bind fun x => porterref10_Read_g1 N x K

noncomputable def porterref10_Read_t1 (N : Nat) : Tab ((List UInt8) × Int × (Int × (Int × Unit)) × Unit) := [([0, 0, 1], porterref10_Read_h2 N)]

theorem porterref10_Read_ok1 {N : Nat} {c : Ctx} (hb : Base Go.Proofs.Tryd.prog (porterref10_Read_E N) c) : CodeOk Go.Proofs.Tryd.prog c (nodeAt porterref10_Read_body [0, 1]) (porterref10_Read_h1 N) :=
  piece_ok (s := [(0, .v .str), (0, .v (.int .i64)), (4, .box (.pair (.int .i64) (.pair (.int .i64) .unit)))]) (m := 83) (g := porterref10_Read_g1 N) [1, 0, 6] (evN_sound hb N (porterref10_Read_t1 N) porterref10_Read_L porterref10_Read_body (TabOk.cons (porterref10_Read_ok2 hb) TabOk.nil) [0, 1] _ rfl) (fun x K => by kernel_rfl)

noncomputable def porterref10_Read_p4 (N : Nat) (s : (List UInt8)) (x6 : (Int × (Int × Unit))) (out : (List UInt8)) (i : Int) (t : (List UInt8)) (n : Int) (k0 : (List UInt8) → Int → Option ((List UInt8) × Int × (Int × (Int × Unit)) × Unit)) : Option ((List UInt8) × Int × (Int × (Int × Unit)) × Unit) :=
  cond (Go.Lift.inR i (List.length s))
  (cond ((((UInt8.toNat (List.getD s (Int.toNat i) (0 : UInt8))) : Nat) : Int) == (92 : Int))
    ((porterref10_Escape N s i).bind fun y =>
      k0 y.1 y.2.1)
    ((porterref10_safe N s i).bind fun y1 =>
      cond y1
      ((porterref10_Rune N s i).bind fun y2 =>
        cond (decide (((0 : Int) ≤ (Go.IntKind.wrap Go.IntKind.i64 (i + y2))) ∧ ((Go.IntKind.wrap Go.IntKind.i64 (i + y2)) ≤ (((List.length s) : Nat) : Int))))
        (cond (decide (((0 : Int) ≤ i) ∧ (i ≤ (Go.IntKind.wrap Go.IntKind.i64 (i + y2)))))
          (k0 (Go.Lift.cut s (Int.toNat i) (Int.toNat (Go.IntKind.wrap Go.IntKind.i64 (i + y2)))) y2)
          (none))
        (none))
      (k0 t n)))
  (none)

noncomputable def porterref10_Read_g4 (N : Nat) (x : denS [(0, .v .str), (5, .box (.pair (.int .i64) (.pair (.int .i64) .unit))), (0, .v .str), (0, .v (.int .i64)), (0, .v .str), (0, .v (.int .i64))]) (K : Ex → List A → Option ((List UInt8) × Int × (Int × (Int × Unit)) × Unit)) : Option ((List UInt8) × Int × (Int × (Int × Unit)) × Unit) :=
  porterref10_Read_p4 N x.1 x.2.1 x.2.2.1 x.2.2.2.1 x.2.2.2.2.1 x.2.2.2.2.2.1 (fun a4 a5 => (K .normal (mkS [(0, .v .str), (5, .box (.pair (.int .i64) (.pair (.int .i64) .unit))), (0, .v .str), (0, .v (.int .i64)), (0, .v .str), (0, .v (.int .i64))] 79 (x.1, x.2.1, x.2.2.1, x.2.2.2.1, a4, a5, ()))))

noncomputable def porterref10_Read_h4 (N : Nat) : Hd ((List UInt8) × Int × (Int × (Int × Unit)) × Unit) := fun st K => (unS [(0, .v .str), (5, .box (.pair (.int .i64) (.pair (.int .i64) .unit))), (0, .v .str), (0, .v (.int .i64)), (0, .v .str), (0, .v (.int .i64))] 79 (restr [0, 8, 6, 7, 10, 9] 0 st)).bind fun x => porterref10_Read_g4 N x K

noncomputable def porterref10_Read_t4 (N : Nat) : Tab ((List UInt8) × Int × (Int × (Int × Unit)) × Unit) := []

theorem porterref10_Read_ok4 {N : Nat} {c : Ctx} (hb : Base Go.Proofs.Tryd.prog (porterref10_Read_E N) c) : CodeOk Go.Proofs.Tryd.prog c (nodeAt porterref10_Read_body [0, 1, 1, 0, 1, 0, 0, 0, 1, 1, 1, 1, 1, 1]) (porterref10_Read_h4 N) :=
  piece_ok (s := [(0, .v .str), (5, .box (.pair (.int .i64) (.pair (.int .i64) .unit))), (0, .v .str), (0, .v (.int .i64)), (0, .v .str), (0, .v (.int .i64))]) (m := 79) (g := porterref10_Read_g4 N) [0, 8, 6, 7, 10, 9] (evN_sound hb N (porterref10_Read_t4 N) porterref10_Read_L porterref10_Read_body TabOk.nil [0, 1, 1, 0, 1, 0, 0, 0, 1, 1, 1, 1, 1, 1] _ rfl) (fun x K => by kernel_rfl)

noncomputable def porterref10_Read_s3 (N : Nat) (s : (List UInt8)) (x6 : (Int × (Int × Unit))) (out : (List UInt8)) (i : Int) (rec : (List UInt8) → Int → Option ((List UInt8) × Int × (Int × (Int × Unit)) × Unit)) (k0 : (List UInt8) → Int → (Int × (Int × Unit)) → Option ((List UInt8) × Int × (Int × (Int × Unit)) × Unit)) (k1 : Option ((List UInt8) × Int × (Int × (Int × Unit)) × Unit)) : Option ((List UInt8) × Int × (Int × (Int × Unit)) × Unit) :=
  cond (decide (i < (((List.length s) : Nat) : Int)))
  (cond (Go.Lift.inR i (List.length s))
    (cond ((((UInt8.toNat (List.getD s (Int.toNat i) (0 : UInt8))) : Nat) : Int) == (34 : Int))
      (k0 out (Go.IntKind.wrap Go.IntKind.i64 (i + (1 : Int))) ((0 : Int), ((0 : Int), ())))
      (cond (decide (((0 : Int) ≤ i) ∧ (i ≤ (((List.length s) : Nat) : Int))))
        (cond (decide (((0 : Int) ≤ i) ∧ (i ≤ i)))
          (porterref10_Read_p4 N s x6 out i (Go.Lift.cut s (Int.toNat i) (Int.toNat i)) (0 : Int)
            (fun t n => cond (decide (n < (0 : Int)))
              (k0 ([] : List UInt8) (0 : Int) ((1 : Int), ((((List.length s) : Nat) : Int), ())))
              (cond (n == (0 : Int))
                (k0 ([] : List UInt8) (0 : Int) ((2 : Int), (i, ())))
                (cond (decide (((List.length out) + (List.length t)) ≤ 9223372036854775807))
                  (rec (out ++ t) (Go.IntKind.wrap Go.IntKind.i64 (i + n)))
                  (none)))))
          (none))
        (none)))
    (none))
  (k1)

noncomputable def porterref10_Read_p3 (N : Nat) (s : (List UInt8)) (x6 : (Int × (Int × Unit))) (out : (List UInt8)) (i : Int) (k0 : (List UInt8) → Int → (Int × (Int × Unit)) → Option ((List UInt8) × Int × (Int × (Int × Unit)) × Unit)) (k1 : Option ((List UInt8) × Int × (Int × (Int × Unit)) × Unit)) : Option ((List UInt8) × Int × (Int × (Int × Unit)) × Unit) :=
  iter (fun (v : ((List UInt8) × Int)) r => porterref10_Read_s3 N s x6 v.1 v.2 (fun out i => (r (out, i))) k0 k1) N (out, i)

noncomputable def porterref10_Read_g3 (N : Nat) (i : ((List UInt8) × (Int × (Int × Unit)))) (v : ((List UInt8) × Int)) (r : ((List UInt8) × Int) → Option ((List UInt8) × Int × (Int × (Int × Unit)) × Unit)) (K : Ex → List A → Option ((List UInt8) × Int × (Int × (Int × Unit)) × Unit)) : Option ((List UInt8) × Int × (Int × (Int × Unit)) × Unit) :=
  porterref10_Read_s3 N i.1 i.2 v.1 v.2 (fun out i => (r (out, i))) (fun a0 a1 a2 => (K .ret (mkS [(4, .v .str), (0, .v (.int .i64)), (0, .box (.pair (.int .i64) (.pair (.int .i64) .unit)))] 83 (a0, a1, a2, ())))) (K (.exit 0) (mkS [(0, .v .str), (5, .box (.pair (.int .i64) (.pair (.int .i64) .unit)))] 83 (i.1, i.2, ())))

noncomputable def porterref10_Read_h3 (N : Nat) : Hd ((List UInt8) × Int × (Int × (Int × Unit)) × Unit) := fun st K => (unS [(0, .v .str), (5, .box (.pair (.int .i64) (.pair (.int .i64) .unit))), (0, .v .str), (0, .v (.int .i64))] 81 (restr [8, 0, 7, 6] 0 st)).bind fun x => iter (fun v r => porterref10_Read_g3 N ((fun x => (x.1, x.2.1)) x) v r K) N ((fun x => (x.2.2.1, x.2.2.2.1)) x)

noncomputable def porterref10_Read_t3 (N : Nat) : Tab ((List UInt8) × Int × (Int × (Int × Unit)) × Unit) := [([0, 1, 1, 0, 1, 0, 0, 0, 1, 1, 1, 1, 1, 1], porterref10_Read_h4 N)]

theorem porterref10_Read_ok3 {N : Nat} {c : Ctx} (hb : Base Go.Proofs.Tryd.prog (porterref10_Read_E N) c) : CodeOk Go.Proofs.Tryd.prog c (nodeAt porterref10_Read_body [0, 0, 1, 1, 1, 1, 1, 1]) (porterref10_Read_h3 N) :=
  loop_ok (s := [(0, .v .str), (5, .box (.pair (.int .i64) (.pair (.int .i64) .unit))), (0, .v .str), (0, .v (.int .i64))]) (m := 81) (porterref10_Read_g3 N) [8, 0, 7, 6] N (fun x => (x.1, x.2.1)) (fun x => (x.2.2.1, x.2.2.2.1)) (fun i v => (i.1, i.2, v.1, v.2, ())) (fun _ => rfl) (evN_sound hb N (porterref10_Read_t3 N) porterref10_Read_L porterref10_Read_body (TabOk.cons (porterref10_Read_ok4 hb) TabOk.nil) [0, 0, 0, 1, 1, 1, 1, 1, 1] _ rfl) (fun i v r K => by kernel_rfl)

noncomputable def porterref10_Read (N : Nat) (s : (List UInt8)) (at_ : Int) : Option ((List UInt8) × Int × (Int × (Int × Unit)) × Unit) :=
  porterref10_Read_p1 N s at_ ((0 : Int), ((0 : Int), ()))
  (fun x4 x5 x6 => some (x4, (x5, (x6, ()))))
  (cond (at_ == (((List.length s) : Nat) : Int))
    (some (([] : List UInt8), ((0 : Int), (((1 : Int), (at_, ())), ()))))
    (cond (Go.Lift.inR at_ (List.length s))
      (cond ((((UInt8.toNat (List.getD s (Int.toNat at_) (0 : UInt8))) : Nat) : Int) != (34 : Int))
        (some (([] : List UInt8), ((0 : Int), (((2 : Int), (at_, ())), ()))))
        (porterref10_Read_p3 N s ((0 : Int), ((0 : Int), ())) ([] : List UInt8) (Go.IntKind.wrap Go.IntKind.i64 (at_ + (1 : Int)))
          (fun x41 x51 x61 => some (x41, (x51, (x61, ()))))
          (some (([] : List UInt8), ((0 : Int), (((1 : Int), ((((List.length s) : Nat) : Int), ())), ()))))))
      (none)))

noncomputable def porterref10_Read_t (N : Nat) : Tab ((List UInt8) × Int × (Int × (Int × Unit)) × Unit) := [([0, 1], porterref10_Read_h1 N), ([0, 0, 1, 1, 1, 1, 1, 1], porterref10_Read_h3 N)]

theorem porterref10_Read_link (N : Nat) (x : denS [(0, .v .str), (0, .v (.int .i64))]) : evFX (porterref10_Read_E N) N (porterref10_Read_t N) porterref10_Read_L Go.Proofs.Tryd.f16 (mkS [(0, .v .str), (0, .v (.int .i64))] 0 x) (kRes (.tup [.str, (.int .i64), (.pair (.int .i64) (.pair (.int .i64) .unit))]) 2) = porterref10_Read N x.1 x.2.1 := by kernel_rfl

noncomputable def porterref10_Read_res (N : Nat) : List A → Res := resOf [(0, .v .str), (0, .v (.int .i64))] (fun x => porterref10_Read N x.1 x.2.1) (oRes (.tup [.str, (.int .i64), (.pair (.int .i64) (.pair (.int .i64) .unit))]) 2)

theorem porterref10_Read_ct (N : Nat) : Contract Go.Proofs.Tryd.prog glob 16 (porterref10_Read_res N) :=
  Contract.of (E := porterref10_Read_E N) (H := porterref10_Read_t N) (L := porterref10_Read_L) (N := N) (body := porterref10_Read_body) (K := (kRes (.tup [.str, (.int .i64), (.pair (.int .i64) (.pair (.int .i64) .unit))]) 2)) (porterref10_Read_Eok N) Go.Proofs.Tryd.func16 (by kernel_rfl) (by decide) (fun _ hb => (TabOk.cons (porterref10_Read_ok1 hb) (TabOk.cons (porterref10_Read_ok3 hb) TabOk.nil))) (fun x y h => by rw [porterref10_Read_link]; exact h) (kRes_ok (s := (.tup [.str, (.int .i64), (.pair (.int .i64) (.pair (.int .i64) .unit))])) (m := 2))

abbrev porterlaw10_QuoteReads_R : Type := Bool

noncomputable def porterlaw10_QuoteReads_body : Code := (Go.Proofs.Tryd.f4.body).getD .skip

noncomputable def porterlaw10_QuoteReads_L : List (List Nat × List Nat) := [([0], [0, 1]), ([0, 0, 1], [13, 0, 1]), ([1, 0, 1], [0, 1]), ([0, 0, 1, 0, 1], [4]), ([1, 0, 1, 0, 1], [4]), ([0, 1, 1], [0, 1, 5, 6, 7]), ([0, 1, 1, 1], [5, 8, 6, 9, 7, 10]), ([0, 1, 1, 1, 1], [4]), ([1, 1, 1, 1, 1], [4])]

noncomputable def porterlaw10_QuoteReads_E (N : Nat) : Env := mkEnv tys glob [(16, porterref10_Read_res N), (10, porterlaw10_works_res N), (15, quote_Read_res N)] [] [] [] false

theorem porterlaw10_QuoteReads_Eok (N : Nat) : EnvOk Go.Proofs.Tryd.prog (porterlaw10_QuoteReads_E N) := mkEnv_ok mixed tys_ok (FnsOk.cons (porterref10_Read_ct N) (FnsOk.cons (porterlaw10_works_ct N) (FnsOk.cons (quote_Read_ct N) (FnsOk.nil))))

noncomputable def porterlaw10_QuoteReads (N : Nat) (s : (List UInt8)) (at_ : Int) : Option Bool :=
  cond (decide ((300 : Int) < (((List.length s) : Nat) : Int)))
  ((porterlaw10_works N).bind fun y =>
    some y)
  ((quote_Read N s at_).bind fun y1 =>
    (porterref10_Read N s at_).bind fun y2 =>
    cond (y1.1 == y2.1)
    (cond (y1.2.1 == y2.2.1)
      (cond (Go.Lift.eqD (Go.Lift.T.pair (Go.Lift.T.int Go.IntKind.i64) (Go.Lift.T.pair (Go.Lift.T.int Go.IntKind.i64) Go.Lift.T.unit)) y1.2.2.1 y2.2.2.1)
        ((porterlaw10_works N).bind fun y3 =>
          some y3)
        (some false))
      (some false))
    (some false))

noncomputable def porterlaw10_QuoteReads_t (N : Nat) : Tab Bool := []

theorem porterlaw10_QuoteReads_link (N : Nat) (x : denS [(0, .v .str), (0, .v (.int .i64))]) : evFX (porterlaw10_QuoteReads_E N) N (porterlaw10_QuoteReads_t N) porterlaw10_QuoteReads_L Go.Proofs.Tryd.f4 (mkS [(0, .v .str), (0, .v (.int .i64))] 0 x) (kRes (.v .bool) 2) = porterlaw10_QuoteReads N x.1 x.2.1 := by kernel_rfl

noncomputable def porterlaw10_QuoteReads_res (N : Nat) : List A → Res := resOf [(0, .v .str), (0, .v (.int .i64))] (fun x => porterlaw10_QuoteReads N x.1 x.2.1) (oRes (.v .bool) 2)

theorem porterlaw10_QuoteReads_ct (N : Nat) : Contract Go.Proofs.Tryd.prog glob 4 (porterlaw10_QuoteReads_res N) :=
  Contract.of (E := porterlaw10_QuoteReads_E N) (H := porterlaw10_QuoteReads_t N) (L := porterlaw10_QuoteReads_L) (N := N) (body := porterlaw10_QuoteReads_body) (K := (kRes (.v .bool) 2)) (porterlaw10_QuoteReads_Eok N) Go.Proofs.Tryd.func4 (by kernel_rfl) (by decide) (fun _ hb => TabOk.nil) (fun x y h => by rw [porterlaw10_QuoteReads_link]; exact h) (kRes_ok (s := (.v .bool)) (m := 2))

abbrev porterlaw10_QuoteBack_R : Type := Bool

noncomputable def porterlaw10_QuoteBack_body : Code := (Go.Proofs.Tryd.f5.body).getD .skip

noncomputable def porterlaw10_QuoteBack_L : List (List Nat × List Nat) := [([0], [0, 1, 2]), ([0, 0, 1], [23, 1, 0, 2]), ([1, 0, 1], [1, 0, 2]), ([0, 0, 1, 0, 1], [6]), ([1, 0, 1, 0, 1], [6]), ([0, 1, 1], [0, 7, 2, 1]), ([0, 1, 1, 1], [8, 1, 9, 0, 7, 10]), ([0, 1, 1, 1, 1], [6]), ([1, 1, 1, 1, 1], [6])]

noncomputable def porterlaw10_QuoteBack_E (N : Nat) : Env := mkEnv tys glob [(10, porterlaw10_works_res N), (11, quote_Text_res N), (15, quote_Read_res N)] [] [] [] false

theorem porterlaw10_QuoteBack_Eok (N : Nat) : EnvOk Go.Proofs.Tryd.prog (porterlaw10_QuoteBack_E N) := mkEnv_ok mixed tys_ok (FnsOk.cons (porterlaw10_works_ct N) (FnsOk.cons (quote_Text_ct N) (FnsOk.cons (quote_Read_ct N) (FnsOk.nil))))

noncomputable def porterlaw10_QuoteBack_p2 (N : Nat) (a : (List UInt8)) (s : (List UInt8)) (b : (List UInt8)) (k0 : Bool → Option Bool) : Option Bool :=
  cond (decide ((100 : Int) < (((List.length a) : Nat) : Int)))
  (k0 true)
  (cond (decide ((500 : Int) < (((List.length s) : Nat) : Int)))
    (k0 true)
    (k0 (decide ((100 : Int) < (((List.length b) : Nat) : Int)))))

noncomputable def porterlaw10_QuoteBack_g2 (N : Nat) (x : denS [(0, .v .str), (0, .v .str), (0, .v .str)]) (K : Ex → List A → Option Bool) : Option Bool :=
  porterlaw10_QuoteBack_p2 N x.1 x.2.1 x.2.2.1 (fun a3 => (K .normal (mkS [(0, .v .str), (0, .v .str), (0, .v .str), (20, .v .bool)] 35 (x.1, x.2.1, x.2.2.1, a3, ()))))

noncomputable def porterlaw10_QuoteBack_h2 (N : Nat) : Hd Bool := fun st K => (unS [(0, .v .str), (0, .v .str), (0, .v .str)] 56 (restr [0, 1, 2] 0 st)).bind fun x => porterlaw10_QuoteBack_g2 N x K

noncomputable def porterlaw10_QuoteBack_t2 (N : Nat) : Tab Bool := []

theorem porterlaw10_QuoteBack_ok2 {N : Nat} {c : Ctx} (hb : Base Go.Proofs.Tryd.prog (porterlaw10_QuoteBack_E N) c) : CodeOk Go.Proofs.Tryd.prog c (nodeAt porterlaw10_QuoteBack_body [0, 0, 1]) (porterlaw10_QuoteBack_h2 N) :=
  piece_ok (s := [(0, .v .str), (0, .v .str), (0, .v .str)]) (m := 56) (g := porterlaw10_QuoteBack_g2 N) [0, 1, 2] (evN_sound hb N (porterlaw10_QuoteBack_t2 N) porterlaw10_QuoteBack_L porterlaw10_QuoteBack_body TabOk.nil [0, 0, 1] _ rfl) (fun x K => by kernel_rfl)

noncomputable def porterlaw10_QuoteBack_p1 (N : Nat) (a : (List UInt8)) (s : (List UInt8)) (b : (List UInt8)) (k0 : Bool → Option Bool) (k1 : Option Bool) : Option Bool :=
  porterlaw10_QuoteBack_p2 N a s b
  (fun x23 => cond x23
    ((porterlaw10_works N).bind fun y =>
      k0 y)
    (k1))

noncomputable def porterlaw10_QuoteBack_g1 (N : Nat) (x : denS [(0, .v .str), (0, .v .str), (0, .v .str)]) (K : Ex → List A → Option Bool) : Option Bool :=
  porterlaw10_QuoteBack_p1 N x.1 x.2.1 x.2.2.1 (fun a0 => (K .ret (mkS [(6, .v .bool)] 52 (a0, ())))) (K .normal (mkS [(0, .v .str), (0, .v .str), (0, .v .str)] 56 (x.1, x.2.1, x.2.2.1, ())))

noncomputable def porterlaw10_QuoteBack_h1 (N : Nat) : Hd Bool := fun st K => (unS [(0, .v .str), (0, .v .str), (0, .v .str)] 56 (restr [0, 1, 2] 0 st)).bind fun x => porterlaw10_QuoteBack_g1 N x K

noncomputable def porterlaw10_QuoteBack_t1 (N : Nat) : Tab Bool := [([0, 0, 1], porterlaw10_QuoteBack_h2 N)]

theorem porterlaw10_QuoteBack_ok1 {N : Nat} {c : Ctx} (hb : Base Go.Proofs.Tryd.prog (porterlaw10_QuoteBack_E N) c) : CodeOk Go.Proofs.Tryd.prog c (nodeAt porterlaw10_QuoteBack_body [0, 1]) (porterlaw10_QuoteBack_h1 N) :=
  piece_ok (s := [(0, .v .str), (0, .v .str), (0, .v .str)]) (m := 56) (g := porterlaw10_QuoteBack_g1 N) [0, 1, 2] (evN_sound hb N (porterlaw10_QuoteBack_t1 N) porterlaw10_QuoteBack_L porterlaw10_QuoteBack_body (TabOk.cons (porterlaw10_QuoteBack_ok2 hb) TabOk.nil) [0, 1] _ rfl) (fun x K => by kernel_rfl)

noncomputable def porterlaw10_QuoteBack (N : Nat) (a : (List UInt8)) (s : (List UInt8)) (b : (List UInt8)) : Option Bool :=
  porterlaw10_QuoteBack_p1 N a s b
  (fun x6 => some x6)
  ((quote_Text N s).bind fun y =>
    cond (decide (((List.length a) + (List.length y)) ≤ 9223372036854775807))
    (cond (decide (((List.length (a ++ y)) + (List.length b)) ≤ 9223372036854775807))
      ((quote_Read N ((a ++ y) ++ b) (((List.length a) : Nat) : Int)).bind fun y1 =>
        cond (y1.1 == s)
        (cond (y1.2.1 == (Go.IntKind.wrap Go.IntKind.i64 ((((List.length a) : Nat) : Int) + (((List.length y) : Nat) : Int))))
          (cond (Go.Lift.eqD (Go.Lift.T.pair (Go.Lift.T.int Go.IntKind.i64) (Go.Lift.T.pair (Go.Lift.T.int Go.IntKind.i64) Go.Lift.T.unit)) y1.2.2.1 ((0 : Int), ((0 : Int), ())))
            ((porterlaw10_works N).bind fun y2 =>
              some y2)
            (some false))
          (some false))
        (some false))
      (none))
    (none))

noncomputable def porterlaw10_QuoteBack_t (N : Nat) : Tab Bool := [([0, 1], porterlaw10_QuoteBack_h1 N)]

theorem porterlaw10_QuoteBack_link (N : Nat) (x : denS [(0, .v .str), (0, .v .str), (0, .v .str)]) : evFX (porterlaw10_QuoteBack_E N) N (porterlaw10_QuoteBack_t N) porterlaw10_QuoteBack_L Go.Proofs.Tryd.f5 (mkS [(0, .v .str), (0, .v .str), (0, .v .str)] 0 x) (kRes (.v .bool) 3) = porterlaw10_QuoteBack N x.1 x.2.1 x.2.2.1 := by kernel_rfl

noncomputable def porterlaw10_QuoteBack_res (N : Nat) : List A → Res := resOf [(0, .v .str), (0, .v .str), (0, .v .str)] (fun x => porterlaw10_QuoteBack N x.1 x.2.1 x.2.2.1) (oRes (.v .bool) 3)

theorem porterlaw10_QuoteBack_ct (N : Nat) : Contract Go.Proofs.Tryd.prog glob 5 (porterlaw10_QuoteBack_res N) :=
  Contract.of (E := porterlaw10_QuoteBack_E N) (H := porterlaw10_QuoteBack_t N) (L := porterlaw10_QuoteBack_L) (N := N) (body := porterlaw10_QuoteBack_body) (K := (kRes (.v .bool) 3)) (porterlaw10_QuoteBack_Eok N) Go.Proofs.Tryd.func5 (by kernel_rfl) (by decide) (fun _ hb => (TabOk.cons (porterlaw10_QuoteBack_ok1 hb) TabOk.nil)) (fun x y h => by rw [porterlaw10_QuoteBack_link]; exact h) (kRes_ok (s := (.v .bool)) (m := 3))

abbrev porterlaw10_QuoteSafe_R : Type := Bool

noncomputable def porterlaw10_QuoteSafe_body : Code := (Go.Proofs.Tryd.f6.body).getD .skip

noncomputable def porterlaw10_QuoteSafe_L : List (List Nat × List Nat) := [([0], [0]), ([0, 0, 1], [8, 0]), ([1, 0, 1], [0]), ([0, 0, 1, 0, 1], [2]), ([1, 0, 1, 0, 1], [2]), ([0, 1, 1], [3]), ([0, 0, 1, 1, 1], [27, 3]), ([1, 0, 1, 1, 1], [3]), ([0, 0, 1, 0, 1, 1, 1], [2]), ([1, 0, 1, 0, 1, 1, 1], [2]), ([0, 1, 1, 1, 1], [4, 3]), ([0, 0, 1, 1, 1, 1, 1], [4, 3]), ([0, 0, 0, 0, 0, 1, 1, 1, 1, 1], [32, 3, 4]), ([1, 0, 0, 0, 0, 1, 1, 1, 1, 1], [3, 4]), ([1, 1, 0, 0, 0, 0, 1, 1, 1, 1, 1], [4, 3]), ([0, 0, 1, 0, 0, 0, 1, 1, 1, 1, 1], [5, 3, 4]), ([0, 0, 1, 0, 1, 0, 0, 0, 1, 1, 1, 1, 1], [55, 3, 4, 5]), ([1, 0, 1, 0, 1, 0, 0, 0, 1, 1, 1, 1, 1], [3, 4, 5]), ([0, 0, 1, 0, 1, 0, 1, 0, 0, 0, 1, 1, 1, 1, 1], [2]), ([1, 0, 1, 0, 1, 0, 1, 0, 0, 0, 1, 1, 1, 1, 1], [2]), ([0, 0, 1, 1, 0, 1, 0, 0, 0, 1, 1, 1, 1, 1], [59, 4, 3, 5]), ([1, 0, 1, 1, 0, 1, 0, 0, 0, 1, 1, 1, 1, 1], [4, 5, 3]), ([0, 1, 0, 1, 1, 0, 1, 0, 0, 0, 1, 1, 1, 1, 1], [4, 5, 3]), ([1, 1, 1, 0, 1, 0, 0, 0, 1, 1, 1, 1, 1], [4, 3]), ([1, 0, 0, 0, 1, 1, 1, 1, 1], [4, 3]), ([0, 1, 1, 1, 1, 1], [4, 3]), ([0, 1, 1, 1, 1, 1, 1], [2]), ([1, 1, 1, 1, 1, 1, 1], [2])]

noncomputable def porterlaw10_QuoteSafe_E (N : Nat) : Env := mkEnv tys glob [(17, porterref10_Rune_res N), (10, porterlaw10_works_res N), (11, quote_Text_res N)] [] [] [] false

theorem porterlaw10_QuoteSafe_Eok (N : Nat) : EnvOk Go.Proofs.Tryd.prog (porterlaw10_QuoteSafe_E N) := mkEnv_ok mixed tys_ok (FnsOk.cons (porterref10_Rune_ct N) (FnsOk.cons (porterlaw10_works_ct N) (FnsOk.cons (quote_Text_ct N) (FnsOk.nil))))

noncomputable def porterlaw10_QuoteSafe_p2 (N : Nat) (q : (List UInt8)) (k0 : Bool → Option Bool) : Option Bool :=
  cond (decide ((((List.length q) : Nat) : Int) < (2 : Int)))
  (k0 true)
  (cond (Go.Lift.inR (0 : Int) (List.length q))
    (cond ((((UInt8.toNat (List.getD q 0 (0 : UInt8))) : Nat) : Int) != (34 : Int))
      (k0 true)
      (cond (Go.Lift.inR (Go.IntKind.wrap Go.IntKind.i64 ((((List.length q) : Nat) : Int) - (1 : Int))) (List.length q))
        (k0 ((((UInt8.toNat (List.getD q (Int.toNat (Go.IntKind.wrap Go.IntKind.i64 ((((List.length q) : Nat) : Int) - (1 : Int)))) (0 : UInt8))) : Nat) : Int) != (34 : Int)))
        (none)))
    (none))

noncomputable def porterlaw10_QuoteSafe_g2 (N : Nat) (x : denS [(3, .v .str)]) (K : Ex → List A → Option Bool) : Option Bool :=
  porterlaw10_QuoteSafe_p2 N x.1 (fun a1 => (K .normal (mkS [(3, .v .str), (23, .v .bool)] 43 (x.1, a1, ()))))

noncomputable def porterlaw10_QuoteSafe_h2 (N : Nat) : Hd Bool := fun st K => (unS [(3, .v .str)] 67 (restr [3] 0 st)).bind fun x => porterlaw10_QuoteSafe_g2 N x K

noncomputable def porterlaw10_QuoteSafe_t2 (N : Nat) : Tab Bool := []

theorem porterlaw10_QuoteSafe_ok2 {N : Nat} {c : Ctx} (hb : Base Go.Proofs.Tryd.prog (porterlaw10_QuoteSafe_E N) c) : CodeOk Go.Proofs.Tryd.prog c (nodeAt porterlaw10_QuoteSafe_body [0, 0, 1, 1, 1]) (porterlaw10_QuoteSafe_h2 N) :=
  piece_ok (s := [(3, .v .str)]) (m := 67) (g := porterlaw10_QuoteSafe_g2 N) [3] (evN_sound hb N (porterlaw10_QuoteSafe_t2 N) porterlaw10_QuoteSafe_L porterlaw10_QuoteSafe_body TabOk.nil [0, 0, 1, 1, 1] _ rfl) (fun x K => by kernel_rfl)

noncomputable def porterlaw10_QuoteSafe_p1 (N : Nat) (q : (List UInt8)) (k0 : Bool → Option Bool) (k1 : Option Bool) : Option Bool :=
  porterlaw10_QuoteSafe_p2 N q
  (fun x27 => cond x27
    (k0 false)
    (k1))

noncomputable def porterlaw10_QuoteSafe_g1 (N : Nat) (x : denS [(3, .v .str)]) (K : Ex → List A → Option Bool) : Option Bool :=
  porterlaw10_QuoteSafe_p1 N x.1 (fun a0 => (K .ret (mkS [(2, .v .bool)] 68 (a0, ())))) (K .normal (mkS [(3, .v .str)] 67 (x.1, ())))

noncomputable def porterlaw10_QuoteSafe_h1 (N : Nat) : Hd Bool := fun st K => (unS [(3, .v .str)] 67 (restr [3] 0 st)).bind fun x => porterlaw10_QuoteSafe_g1 N x K

noncomputable def porterlaw10_QuoteSafe_t1 (N : Nat) : Tab Bool := [([0, 0, 1, 1, 1], porterlaw10_QuoteSafe_h2 N)]

theorem porterlaw10_QuoteSafe_ok1 {N : Nat} {c : Ctx} (hb : Base Go.Proofs.Tryd.prog (porterlaw10_QuoteSafe_E N) c) : CodeOk Go.Proofs.Tryd.prog c (nodeAt porterlaw10_QuoteSafe_body [0, 1, 1, 1]) (porterlaw10_QuoteSafe_h1 N) :=
  piece_ok (s := [(3, .v .str)]) (m := 67) (g := porterlaw10_QuoteSafe_g1 N) [3] (evN_sound hb N (porterlaw10_QuoteSafe_t1 N) porterlaw10_QuoteSafe_L porterlaw10_QuoteSafe_body (TabOk.cons (porterlaw10_QuoteSafe_ok2 hb) TabOk.nil) [0, 1, 1, 1] _ rfl) (fun x K => by kernel_rfl)

noncomputable def porterlaw10_QuoteSafe_p5 (N : Nat) (q : (List UInt8)) (at_ : Int) (n : Int) (k0 : Bool → Option Bool) : Option Bool :=
  cond (n == (0 : Int))
  (k0 true)
  (cond (Go.Lift.inR at_ (List.length q))
    (cond (decide ((((UInt8.toNat (List.getD q (Int.toNat at_) (0 : UInt8))) : Nat) : Int) < (32 : Int)))
      (k0 true)
      (cond (Go.Lift.inR at_ (List.length q))
        (cond ((((UInt8.toNat (List.getD q (Int.toNat at_) (0 : UInt8))) : Nat) : Int) == (127 : Int))
          (k0 true)
          (cond (Go.Lift.inR at_ (List.length q))
            (k0 ((((UInt8.toNat (List.getD q (Int.toNat at_) (0 : UInt8))) : Nat) : Int) == (34 : Int)))
            (none)))
        (none)))
    (none))

noncomputable def porterlaw10_QuoteSafe_g5 (N : Nat) (x : denS [(3, .v .str), (0, .v (.int .i64)), (0, .v (.int .i64))]) (K : Ex → List A → Option Bool) : Option Bool :=
  porterlaw10_QuoteSafe_p5 N x.1 x.2.1 x.2.2.1 (fun a3 => (K .normal (mkS [(3, .v .str), (0, .v (.int .i64)), (0, .v (.int .i64)), (49, .v .bool)] 15 (x.1, x.2.1, x.2.2.1, a3, ()))))

noncomputable def porterlaw10_QuoteSafe_h5 (N : Nat) : Hd Bool := fun st K => (unS [(3, .v .str), (0, .v (.int .i64)), (0, .v (.int .i64))] 65 (restr [5, 3, 4] 0 st)).bind fun x => porterlaw10_QuoteSafe_g5 N x K

noncomputable def porterlaw10_QuoteSafe_t5 (N : Nat) : Tab Bool := []

theorem porterlaw10_QuoteSafe_ok5 {N : Nat} {c : Ctx} (hb : Base Go.Proofs.Tryd.prog (porterlaw10_QuoteSafe_E N) c) : CodeOk Go.Proofs.Tryd.prog c (nodeAt porterlaw10_QuoteSafe_body [0, 0, 1, 0, 1, 0, 0, 0, 1, 1, 1, 1, 1]) (porterlaw10_QuoteSafe_h5 N) :=
  piece_ok (s := [(3, .v .str), (0, .v (.int .i64)), (0, .v (.int .i64))]) (m := 65) (g := porterlaw10_QuoteSafe_g5 N) [5, 3, 4] (evN_sound hb N (porterlaw10_QuoteSafe_t5 N) porterlaw10_QuoteSafe_L porterlaw10_QuoteSafe_body TabOk.nil [0, 0, 1, 0, 1, 0, 0, 0, 1, 1, 1, 1, 1] _ rfl) (fun x K => by kernel_rfl)

noncomputable def porterlaw10_QuoteSafe_p4 (N : Nat) (q : (List UInt8)) (at_ : Int) (n : Int) (k0 : Bool → Option Bool) (k1 : Option Bool) : Option Bool :=
  porterlaw10_QuoteSafe_p5 N q at_ n
  (fun x55 => cond x55
    (k0 false)
    (k1))

noncomputable def porterlaw10_QuoteSafe_g4 (N : Nat) (x : denS [(3, .v .str), (0, .v (.int .i64)), (0, .v (.int .i64))]) (K : Ex → List A → Option Bool) : Option Bool :=
  porterlaw10_QuoteSafe_p4 N x.1 x.2.1 x.2.2.1 (fun a0 => (K .ret (mkS [(2, .v .bool)] 68 (a0, ())))) (K .normal (mkS [(3, .v .str), (0, .v (.int .i64)), (0, .v (.int .i64))] 65 (x.1, x.2.1, x.2.2.1, ())))

noncomputable def porterlaw10_QuoteSafe_h4 (N : Nat) : Hd Bool := fun st K => (unS [(3, .v .str), (0, .v (.int .i64)), (0, .v (.int .i64))] 65 (restr [5, 3, 4] 0 st)).bind fun x => porterlaw10_QuoteSafe_g4 N x K

noncomputable def porterlaw10_QuoteSafe_t4 (N : Nat) : Tab Bool := [([0, 0, 1, 0, 1, 0, 0, 0, 1, 1, 1, 1, 1], porterlaw10_QuoteSafe_h5 N)]

theorem porterlaw10_QuoteSafe_ok4 {N : Nat} {c : Ctx} (hb : Base Go.Proofs.Tryd.prog (porterlaw10_QuoteSafe_E N) c) : CodeOk Go.Proofs.Tryd.prog c (nodeAt porterlaw10_QuoteSafe_body [0, 1, 0, 1, 0, 0, 0, 1, 1, 1, 1, 1]) (porterlaw10_QuoteSafe_h4 N) :=
  piece_ok (s := [(3, .v .str), (0, .v (.int .i64)), (0, .v (.int .i64))]) (m := 65) (g := porterlaw10_QuoteSafe_g4 N) [5, 3, 4] (evN_sound hb N (porterlaw10_QuoteSafe_t4 N) porterlaw10_QuoteSafe_L porterlaw10_QuoteSafe_body (TabOk.cons (porterlaw10_QuoteSafe_ok5 hb) TabOk.nil) [0, 1, 0, 1, 0, 0, 0, 1, 1, 1, 1, 1] _ rfl) (fun x K => by kernel_rfl)

noncomputable def porterlaw10_QuoteSafe_p6 (N : Nat) (q : (List UInt8)) (at_ : Int) (n : Int) (k0 : Int → Option Bool) : Option Bool :=
  cond (Go.Lift.inR at_ (List.length q))
  (cond ((((UInt8.toNat (List.getD q (Int.toNat at_) (0 : UInt8))) : Nat) : Int) == (92 : Int))
    (k0 (2 : Int))
    (k0 n))
  (none)

noncomputable def porterlaw10_QuoteSafe_g6 (N : Nat) (x : denS [(3, .v .str), (0, .v (.int .i64)), (0, .v (.int .i64))]) (K : Ex → List A → Option Bool) : Option Bool :=
  porterlaw10_QuoteSafe_p6 N x.1 x.2.1 x.2.2.1 (fun a2 => (K .normal (mkS [(3, .v .str), (0, .v (.int .i64)), (0, .v (.int .i64))] 65 (x.1, x.2.1, a2, ()))))

noncomputable def porterlaw10_QuoteSafe_h6 (N : Nat) : Hd Bool := fun st K => (unS [(3, .v .str), (0, .v (.int .i64)), (0, .v (.int .i64))] 65 (restr [3, 4, 5] 0 st)).bind fun x => porterlaw10_QuoteSafe_g6 N x K

noncomputable def porterlaw10_QuoteSafe_t6 (N : Nat) : Tab Bool := []

theorem porterlaw10_QuoteSafe_ok6 {N : Nat} {c : Ctx} (hb : Base Go.Proofs.Tryd.prog (porterlaw10_QuoteSafe_E N) c) : CodeOk Go.Proofs.Tryd.prog c (nodeAt porterlaw10_QuoteSafe_body [0, 1, 1, 0, 1, 0, 0, 0, 1, 1, 1, 1, 1]) (porterlaw10_QuoteSafe_h6 N) :=
  piece_ok (s := [(3, .v .str), (0, .v (.int .i64)), (0, .v (.int .i64))]) (m := 65) (g := porterlaw10_QuoteSafe_g6 N) [3, 4, 5] (evN_sound hb N (porterlaw10_QuoteSafe_t6 N) porterlaw10_QuoteSafe_L porterlaw10_QuoteSafe_body TabOk.nil [0, 1, 1, 0, 1, 0, 0, 0, 1, 1, 1, 1, 1] _ rfl) (fun x K => by kernel_rfl)

noncomputable def porterlaw10_QuoteSafe_s3 (N : Nat) (q : (List UInt8)) (at_ : Int) (rec : Int → Option Bool) (k0 : Bool → Option Bool) (k1 : Int → Option Bool) : Option Bool :=
  cond (decide (at_ < (Go.IntKind.wrap Go.IntKind.i64 ((((List.length q) : Nat) : Int) - (1 : Int)))))
  ((porterref10_Rune N q at_).bind fun y =>
    porterlaw10_QuoteSafe_p4 N q at_ y
    (fun x2 => k0 x2)
    (porterlaw10_QuoteSafe_p6 N q at_ y
      (fun n => rec (Go.IntKind.wrap Go.IntKind.i64 (at_ + n)))))
  (k1 at_)

noncomputable def porterlaw10_QuoteSafe_p3 (N : Nat) (q : (List UInt8)) (at_ : Int) (k0 : Bool → Option Bool) (k1 : Int → Option Bool) : Option Bool :=
  iter (fun (v : Int) r => porterlaw10_QuoteSafe_s3 N q v (fun at_ => (r at_)) k0 k1) N at_

noncomputable def porterlaw10_QuoteSafe_g3 (N : Nat) (i : (List UInt8)) (v : Int) (r : Int → Option Bool) (K : Ex → List A → Option Bool) : Option Bool :=
  porterlaw10_QuoteSafe_s3 N i v (fun at_ => (r at_)) (fun a0 => (K .ret (mkS [(2, .v .bool)] 68 (a0, ())))) (fun a1 => (K (.exit 0) (mkS [(3, .v .str), (0, .v (.int .i64))] 66 (i, a1, ()))))

noncomputable def porterlaw10_QuoteSafe_h3 (N : Nat) : Hd Bool := fun st K => (unS [(3, .v .str), (0, .v (.int .i64))] 66 (restr [4, 3] 0 st)).bind fun x => iter (fun v r => porterlaw10_QuoteSafe_g3 N ((fun x => x.1) x) v r K) N ((fun x => x.2.1) x)

noncomputable def porterlaw10_QuoteSafe_t3 (N : Nat) : Tab Bool := [([0, 1, 0, 1, 0, 0, 0, 1, 1, 1, 1, 1], porterlaw10_QuoteSafe_h4 N), ([0, 1, 1, 0, 1, 0, 0, 0, 1, 1, 1, 1, 1], porterlaw10_QuoteSafe_h6 N)]

theorem porterlaw10_QuoteSafe_ok3 {N : Nat} {c : Ctx} (hb : Base Go.Proofs.Tryd.prog (porterlaw10_QuoteSafe_E N) c) : CodeOk Go.Proofs.Tryd.prog c (nodeAt porterlaw10_QuoteSafe_body [0, 0, 1, 1, 1, 1, 1]) (porterlaw10_QuoteSafe_h3 N) :=
  loop_ok (s := [(3, .v .str), (0, .v (.int .i64))]) (m := 66) (porterlaw10_QuoteSafe_g3 N) [4, 3] N (fun x => x.1) (fun x => x.2.1) (fun i v => (i, v, ())) (fun _ => rfl) (evN_sound hb N (porterlaw10_QuoteSafe_t3 N) porterlaw10_QuoteSafe_L porterlaw10_QuoteSafe_body (TabOk.cons (porterlaw10_QuoteSafe_ok4 hb) (TabOk.cons (porterlaw10_QuoteSafe_ok6 hb) TabOk.nil)) [0, 0, 0, 1, 1, 1, 1, 1] _ rfl) (fun i v r K => by kernel_rfl)

noncomputable def porterlaw10_QuoteSafe (N : Nat) (s : (List UInt8)) : Option Bool :=
  cond (decide ((500 : Int) < (((List.length s) : Nat) : Int)))
  ((porterlaw10_works N).bind fun y =>
    some y)
  ((quote_Text N s).bind fun y1 =>
    porterlaw10_QuoteSafe_p1 N y1
    (fun x2 => some x2)
    (porterlaw10_QuoteSafe_p3 N y1 (1 : Int)
      (fun x21 => some x21)
      (fun at_ => cond (at_ == (Go.IntKind.wrap Go.IntKind.i64 ((((List.length y1) : Nat) : Int) - (1 : Int))))
        ((porterlaw10_works N).bind fun y2 =>
          some y2)
        (some false))))

noncomputable def porterlaw10_QuoteSafe_t (N : Nat) : Tab Bool := [([0, 1, 1, 1], porterlaw10_QuoteSafe_h1 N), ([0, 0, 1, 1, 1, 1, 1], porterlaw10_QuoteSafe_h3 N)]

theorem porterlaw10_QuoteSafe_link (N : Nat) (x : denS [(0, .v .str)]) : evFX (porterlaw10_QuoteSafe_E N) N (porterlaw10_QuoteSafe_t N) porterlaw10_QuoteSafe_L Go.Proofs.Tryd.f6 (mkS [(0, .v .str)] 0 x) (kRes (.v .bool) 1) = porterlaw10_QuoteSafe N x.1 := by kernel_rfl

noncomputable def porterlaw10_QuoteSafe_res (N : Nat) : List A → Res := resOf [(0, .v .str)] (fun x => porterlaw10_QuoteSafe N x.1) (oRes (.v .bool) 1)

theorem porterlaw10_QuoteSafe_ct (N : Nat) : Contract Go.Proofs.Tryd.prog glob 6 (porterlaw10_QuoteSafe_res N) :=
  Contract.of (E := porterlaw10_QuoteSafe_E N) (H := porterlaw10_QuoteSafe_t N) (L := porterlaw10_QuoteSafe_L) (N := N) (body := porterlaw10_QuoteSafe_body) (K := (kRes (.v .bool) 1)) (porterlaw10_QuoteSafe_Eok N) Go.Proofs.Tryd.func6 (by kernel_rfl) (by decide) (fun _ hb => (TabOk.cons (porterlaw10_QuoteSafe_ok1 hb) (TabOk.cons (porterlaw10_QuoteSafe_ok3 hb) TabOk.nil))) (fun x y h => by rw [porterlaw10_QuoteSafe_link]; exact h) (kRes_ok (s := (.v .bool)) (m := 1))

end Go.Proofs.YtpnjnnhedadjgaaDoorLf
