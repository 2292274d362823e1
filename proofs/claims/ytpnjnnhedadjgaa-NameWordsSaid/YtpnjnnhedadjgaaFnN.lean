/- The functions of the seat, as plain functions, and what their calls do. Printed by a program of mine; checked here. -/
import Derived.Test.YtpnjnnhedadjgaaLfW
import Derived.Test.YtpnjnnhedadjgaaChecked
import Derived.KernelRfl
set_option linter.all false
set_option maxRecDepth 100000
namespace Go.Proofs.YtpnjnnhedadjgaaLf
open Go Go.Lift

noncomputable def ty3 : TyI := ⟨(Go.TypeDesc.int Go.IntKind.i64), 1, 8, (.int .i64), (0 : Int), false⟩

theorem ty3_ok : TyOk Go.Proofs.Try.prog 3 ty3 := TyOk.of (by kernel_rfl) (by kernel_rfl) (by kernel_rfl) (by kernel_rfl)

noncomputable def ty4 : TyI := ⟨Go.TypeDesc.bool, 1, 1, .bool, false, false⟩

theorem ty4_ok : TyOk Go.Proofs.Try.prog 4 ty4 := TyOk.of (by kernel_rfl) (by kernel_rfl) (by kernel_rfl) (by kernel_rfl)

noncomputable def ty5 : TyI := ⟨(Go.TypeDesc.int Go.IntKind.u8), 1, 1, (.int .u8), (0 : Int), false⟩

theorem ty5_ok : TyOk Go.Proofs.Try.prog 5 ty5 := TyOk.of (by kernel_rfl) (by kernel_rfl) (by kernel_rfl) (by kernel_rfl)

noncomputable def ty9 : TyI := ⟨Go.TypeDesc.string, 1, 16, .str, ([] : List UInt8), false⟩

theorem ty9_ok : TyOk Go.Proofs.Try.prog 9 ty9 := TyOk.of (by kernel_rfl) (by kernel_rfl) (by kernel_rfl) (by kernel_rfl)

noncomputable def ty21 : TyI := ⟨(Go.TypeDesc.int Go.IntKind.i32), 1, 4, (.int .i32), (0 : Int), false⟩

theorem ty21_ok : TyOk Go.Proofs.Try.prog 21 ty21 := TyOk.of (by kernel_rfl) (by kernel_rfl) (by kernel_rfl) (by kernel_rfl)

noncomputable def ty28 : TyI := ⟨(Go.TypeDesc.slice 9), 1, 24, (.sl .str), ([] : List (List UInt8)), false⟩

theorem ty28_ok : TyOk Go.Proofs.Try.prog 28 ty28 := TyOk.of (by kernel_rfl) (by kernel_rfl) (by kernel_rfl) (by kernel_rfl)

noncomputable def ty36 : TyI := ⟨(Go.TypeDesc.func (List.toArray ([21, 4] : List Nat)) (List.toArray ([4] : List Nat)) false), 1, 8, .opq, Go.Value.nilFunc, false⟩

theorem ty36_ok : TyOk Go.Proofs.Try.prog 36 ty36 := TyOk.of (by kernel_rfl) (by kernel_rfl) (by kernel_rfl) (by kernel_rfl)

noncomputable def ty40 : TyI := ⟨(Go.TypeDesc.slice 5), 1, 24, (.sl (.int .u8)), ([] : List Int), false⟩

theorem ty40_ok : TyOk Go.Proofs.Try.prog 40 ty40 := TyOk.of (by kernel_rfl) (by kernel_rfl) (by kernel_rfl) (by kernel_rfl)

noncomputable def tys : List (Nat × TyI) := [(3, ty3), (4, ty4), (5, ty5), (9, ty9), (21, ty21), (28, ty28), (36, ty36), (40, ty40)]

theorem tys_ok : TysOk Go.Proofs.Try.prog tys := TysOk.cons ty3_ok (TysOk.cons ty4_ok (TysOk.cons ty5_ok (TysOk.cons ty9_ok (TysOk.cons ty21_ok (TysOk.cons ty28_ok (TysOk.cons ty36_ok (TysOk.cons ty40_ok (TysOk.nil))))))))

theorem mixed : Go.Proofs.Try.prog.follows .mixedOrders = true := by kernel_rfl

abbrev name_digit_R : Type := Bool

noncomputable def name_digit_body : Code := (Go.Proofs.Try.f24.body).getD .skip

noncomputable def name_digit_L : List (List Nat × List Nat) := [([0], [0]), ([0, 1], [2]), ([1, 1], [2])]

noncomputable def name_digit_E (N : Nat) : Env := mkEnv tys noGlob [] [] [] [] false

theorem name_digit_Eok (N : Nat) : EnvOk Go.Proofs.Try.prog (name_digit_E N) := mkEnv_ok mixed tys_ok (FnsOk.nil)

noncomputable def name_digit (N : Nat) (c : Int) : Option Bool :=
  cond (decide ((48 : Int) ≤ c))
  (some (decide (c ≤ (57 : Int))))
  (some false)

noncomputable def name_digit_t (N : Nat) : Tab Bool := []

theorem name_digit_link (N : Nat) (x : denS [(0, .v (.int .i32))]) : evFX (name_digit_E N) N (name_digit_t N) name_digit_L Go.Proofs.Try.f24 (mkS [(0, .v (.int .i32))] 0 x) (kRes (.v .bool) 1) = name_digit N x.1 := by kernel_rfl

noncomputable def name_digit_res (N : Nat) : List A → Res := resOf [(0, .v (.int .i32))] (fun x => name_digit N x.1) (oRes (.v .bool) 1)

theorem name_digit_ct (N : Nat) : Contract Go.Proofs.Try.prog noGlob 24 (name_digit_res N) :=
  Contract.of (E := name_digit_E N) (H := name_digit_t N) (L := name_digit_L) (N := N) (body := name_digit_body) (K := (kRes (.v .bool) 1)) (name_digit_Eok N) Go.Proofs.Try.func24 (by kernel_rfl) (by decide) (fun _ hb => TabOk.nil) (fun x y h => by rw [name_digit_link]; exact h) (kRes_ok (s := (.v .bool)) (m := 1))

abbrev name_labelRune_R : Type := Bool

noncomputable def name_labelRune_body : Code := (Go.Proofs.Try.f19.body).getD .skip

noncomputable def name_labelRune_L : List (List Nat × List Nat) := [([0], [0, 1]), ([0, 1], [5, 0, 1]), ([0, 1, 1], [4]), ([1, 1, 1], [4])]

noncomputable def name_labelRune_E (N : Nat) : Env := mkEnv tys noGlob [(24, name_digit_res N)] [] [] [] false

theorem name_labelRune_Eok (N : Nat) : EnvOk Go.Proofs.Try.prog (name_labelRune_E N) := mkEnv_ok mixed tys_ok (FnsOk.cons (name_digit_ct N) (FnsOk.nil))

noncomputable def name_labelRune_p1 (N : Nat) (c : Int) (first : Bool) (k0 : Bool → Option Bool) : Option Bool :=
  cond (decide ((97 : Int) ≤ c))
  (cond (decide (c ≤ (122 : Int)))
    (k0 true)
    (cond (decide ((65 : Int) ≤ c))
      (cond (decide (c ≤ (90 : Int)))
        (k0 true)
        (k0 (c == (95 : Int))))
      (k0 (c == (95 : Int)))))
  (cond (decide ((65 : Int) ≤ c))
    (cond (decide (c ≤ (90 : Int)))
      (k0 true)
      (k0 (c == (95 : Int))))
    (k0 (c == (95 : Int))))

noncomputable def name_labelRune_g1 (N : Nat) (x : denS [(0, .v (.int .i32)), (0, .v .bool)]) (K : Ex → List A → Option Bool) : Option Bool :=
  name_labelRune_p1 N x.1 x.2.1 (fun a2 => (K .normal (mkS [(0, .v (.int .i32)), (0, .v .bool), (3, .v .bool)] 27 (x.1, x.2.1, a2, ()))))

noncomputable def name_labelRune_h1 (N : Nat) : Hd Bool := fun st K => (unS [(0, .v (.int .i32)), (0, .v .bool)] 31 (restr [0, 1] 0 st)).bind fun x => name_labelRune_g1 N x K

noncomputable def name_labelRune_t1 (N : Nat) : Tab Bool := []

theorem name_labelRune_ok1 {N : Nat} {c : Ctx} (hb : Base Go.Proofs.Try.prog (name_labelRune_E N) c) : CodeOk Go.Proofs.Try.prog c (nodeAt name_labelRune_body [0, 1]) (name_labelRune_h1 N) :=
  piece_ok (s := [(0, .v (.int .i32)), (0, .v .bool)]) (m := 31) (g := name_labelRune_g1 N) [0, 1] (evN_sound hb N (name_labelRune_t1 N) name_labelRune_L name_labelRune_body TabOk.nil [0, 1] _ rfl) (fun x K => by kernel_rfl)

noncomputable def name_labelRune (N : Nat) (c : Int) (first : Bool) : Option Bool :=
  name_labelRune_p1 N c first
  (fun letter => cond letter
    (some true)
    ((name_digit N c).bind fun y =>
      cond y
      (some (!first))
      (some false)))

noncomputable def name_labelRune_t (N : Nat) : Tab Bool := [([0, 1], name_labelRune_h1 N)]

theorem name_labelRune_link (N : Nat) (x : denS [(0, .v (.int .i32)), (0, .v .bool)]) : evFX (name_labelRune_E N) N (name_labelRune_t N) name_labelRune_L Go.Proofs.Try.f19 (mkS [(0, .v (.int .i32)), (0, .v .bool)] 0 x) (kRes (.v .bool) 2) = name_labelRune N x.1 x.2.1 := by kernel_rfl

noncomputable def name_labelRune_res (N : Nat) : List A → Res := resOf [(0, .v (.int .i32)), (0, .v .bool)] (fun x => name_labelRune N x.1 x.2.1) (oRes (.v .bool) 2)

theorem name_labelRune_ct (N : Nat) : Contract Go.Proofs.Try.prog noGlob 19 (name_labelRune_res N) :=
  Contract.of (E := name_labelRune_E N) (H := name_labelRune_t N) (L := name_labelRune_L) (N := N) (body := name_labelRune_body) (K := (kRes (.v .bool) 2)) (name_labelRune_Eok N) Go.Proofs.Try.func19 (by kernel_rfl) (by decide) (fun _ hb => (TabOk.cons (name_labelRune_ok1 hb) TabOk.nil)) (fun x y h => by rw [name_labelRune_link]; exact h) (kRes_ok (s := (.v .bool)) (m := 2))

abbrev name_wordRune_R : Type := Bool

noncomputable def name_wordRune_body : Code := (Go.Proofs.Try.f22.body).getD .skip

noncomputable def name_wordRune_L : List (List Nat × List Nat) := [([0], [0, 1]), ([0, 1], [5, 0, 1]), ([0, 1, 1], [4]), ([1, 1, 1], [4])]

noncomputable def name_wordRune_E (N : Nat) : Env := mkEnv tys noGlob [(24, name_digit_res N)] [] [] [] false

theorem name_wordRune_Eok (N : Nat) : EnvOk Go.Proofs.Try.prog (name_wordRune_E N) := mkEnv_ok mixed tys_ok (FnsOk.cons (name_digit_ct N) (FnsOk.nil))

noncomputable def name_wordRune_p1 (N : Nat) (c : Int) (first : Bool) (k0 : Bool → Option Bool) : Option Bool :=
  cond (decide ((97 : Int) ≤ c))
  (k0 (decide (c ≤ (122 : Int))))
  (k0 false)

noncomputable def name_wordRune_g1 (N : Nat) (x : denS [(0, .v (.int .i32)), (0, .v .bool)]) (K : Ex → List A → Option Bool) : Option Bool :=
  name_wordRune_p1 N x.1 x.2.1 (fun a2 => (K .normal (mkS [(0, .v (.int .i32)), (0, .v .bool), (3, .v .bool)] 19 (x.1, x.2.1, a2, ()))))

noncomputable def name_wordRune_h1 (N : Nat) : Hd Bool := fun st K => (unS [(0, .v (.int .i32)), (0, .v .bool)] 23 (restr [0, 1] 0 st)).bind fun x => name_wordRune_g1 N x K

noncomputable def name_wordRune_t1 (N : Nat) : Tab Bool := []

theorem name_wordRune_ok1 {N : Nat} {c : Ctx} (hb : Base Go.Proofs.Try.prog (name_wordRune_E N) c) : CodeOk Go.Proofs.Try.prog c (nodeAt name_wordRune_body [0, 1]) (name_wordRune_h1 N) :=
  piece_ok (s := [(0, .v (.int .i32)), (0, .v .bool)]) (m := 23) (g := name_wordRune_g1 N) [0, 1] (evN_sound hb N (name_wordRune_t1 N) name_wordRune_L name_wordRune_body TabOk.nil [0, 1] _ rfl) (fun x K => by kernel_rfl)

noncomputable def name_wordRune (N : Nat) (c : Int) (first : Bool) : Option Bool :=
  name_wordRune_p1 N c first
  (fun letter => cond letter
    (some true)
    ((name_digit N c).bind fun y =>
      cond y
      (some (!first))
      (cond (c == (45 : Int))
        (some (!first))
        (some false))))

noncomputable def name_wordRune_t (N : Nat) : Tab Bool := [([0, 1], name_wordRune_h1 N)]

theorem name_wordRune_link (N : Nat) (x : denS [(0, .v (.int .i32)), (0, .v .bool)]) : evFX (name_wordRune_E N) N (name_wordRune_t N) name_wordRune_L Go.Proofs.Try.f22 (mkS [(0, .v (.int .i32)), (0, .v .bool)] 0 x) (kRes (.v .bool) 2) = name_wordRune N x.1 x.2.1 := by kernel_rfl

noncomputable def name_wordRune_res (N : Nat) : List A → Res := resOf [(0, .v (.int .i32)), (0, .v .bool)] (fun x => name_wordRune N x.1 x.2.1) (oRes (.v .bool) 2)

theorem name_wordRune_ct (N : Nat) : Contract Go.Proofs.Try.prog noGlob 22 (name_wordRune_res N) :=
  Contract.of (E := name_wordRune_E N) (H := name_wordRune_t N) (L := name_wordRune_L) (N := N) (body := name_wordRune_body) (K := (kRes (.v .bool) 2)) (name_wordRune_Eok N) Go.Proofs.Try.func22 (by kernel_rfl) (by decide) (fun _ hb => (TabOk.cons (name_wordRune_ok1 hb) TabOk.nil)) (fun x y h => by rw [name_wordRune_link]; exact h) (kRes_ok (s := (.v .bool)) (m := 2))

abbrev name_all_label_R : Type := Bool

noncomputable def name_all_label_body : Code := (Go.Proofs.Try.f20.body).getD .skip

noncomputable def name_all_label_L : List (List Nat × List Nat) := [([0], [0, 1]), ([0, 0, 1], [13, 0, 1]), ([1, 0, 1], [0, 1]), ([0, 0, 1, 0, 1], [4]), ([1, 0, 1, 0, 1], [4]), ([0, 0, 1, 1], [15, 1]), ([0, 1, 0, 1, 1], [15, 1]), ([0, 0, 0, 1, 0, 1, 1], [17, 16, 1, 15]), ([0, 1, 0, 0, 1, 0, 1, 1], [16, 1, 15]), ([1, 0, 1, 0, 0, 1, 0, 1, 1], []), ([0, 0, 1, 1, 0, 0, 1, 0, 1, 1], [1, 6, 5, 15]), ([0, 1, 0, 1, 1, 0, 0, 1, 0, 1, 1], [25, 15, 1]), ([1, 1, 0, 1, 1, 0, 0, 1, 0, 1, 1], [15, 1]), ([0, 0, 1, 1, 0, 1, 1, 0, 0, 1, 0, 1, 1], [4]), ([1, 0, 1, 1, 0, 1, 1, 0, 0, 1, 0, 1, 1], [4]), ([1, 1, 0, 0, 1, 0, 1, 1], [15, 1]), ([1, 0, 1, 1], []), ([0, 1, 1, 1], [4]), ([1, 1, 1, 1], [4])]

noncomputable def name_all_label_E (N : Nat) : Env := mkEnv tys noGlob [(19, name_labelRune_res N)] [] [] [] false

theorem name_all_label_Eok (N : Nat) : EnvOk Go.Proofs.Try.prog (name_all_label_E N) := mkEnv_ok mixed tys_ok (FnsOk.cons (name_labelRune_ct N) (FnsOk.nil))

noncomputable def name_all_label_p2 (N : Nat) (s : (List UInt8)) (k0 : Bool → Option Bool) : Option Bool :=
  cond (s == ([] : List UInt8))
  (k0 true)
  (k0 (decide ((32 : Int) < (((List.length s) : Nat) : Int))))

noncomputable def name_all_label_g2 (N : Nat) (x : denS [(0, .v .str), (0, .fnc 19)]) (K : Ex → List A → Option Bool) : Option Bool :=
  name_all_label_p2 N x.1 (fun a1 => (K .normal (mkS [(0, .v .str), (0, .fnc 19), (11, .v .bool)] 12 (x.1, (), a1, ()))))

noncomputable def name_all_label_h2 (N : Nat) : Hd Bool := fun st K => (unS [(0, .v .str), (0, .fnc 19)] 24 (restr [0, 1] 0 st)).bind fun x => name_all_label_g2 N x K

noncomputable def name_all_label_t2 (N : Nat) : Tab Bool := []

theorem name_all_label_ok2 {N : Nat} {c : Ctx} (hb : Base Go.Proofs.Try.prog (name_all_label_E N) c) : CodeOk Go.Proofs.Try.prog c (nodeAt name_all_label_body [0, 0, 1]) (name_all_label_h2 N) :=
  piece_ok (s := [(0, .v .str), (0, .fnc 19)]) (m := 24) (g := name_all_label_g2 N) [0, 1] (evN_sound hb N (name_all_label_t2 N) name_all_label_L name_all_label_body TabOk.nil [0, 0, 1] _ rfl) (fun x K => by kernel_rfl)

noncomputable def name_all_label_p1 (N : Nat) (s : (List UInt8)) (k0 : Bool → Option Bool) (k1 : Option Bool) : Option Bool :=
  name_all_label_p2 N s
  (fun x13 => cond x13
    (k0 false)
    (k1))

noncomputable def name_all_label_g1 (N : Nat) (x : denS [(0, .v .str), (0, .fnc 19)]) (K : Ex → List A → Option Bool) : Option Bool :=
  name_all_label_p1 N x.1 (fun a0 => (K .ret (mkS [(4, .v .bool)] 21 (a0, ())))) (K .normal (mkS [(0, .v .str), (0, .fnc 19)] 24 (x.1, (), ())))

noncomputable def name_all_label_h1 (N : Nat) : Hd Bool := fun st K => (unS [(0, .v .str), (0, .fnc 19)] 24 (restr [0, 1] 0 st)).bind fun x => name_all_label_g1 N x K

noncomputable def name_all_label_t1 (N : Nat) : Tab Bool := [([0, 0, 1], name_all_label_h2 N)]

theorem name_all_label_ok1 {N : Nat} {c : Ctx} (hb : Base Go.Proofs.Try.prog (name_all_label_E N) c) : CodeOk Go.Proofs.Try.prog c (nodeAt name_all_label_body [0, 1]) (name_all_label_h1 N) :=
  piece_ok (s := [(0, .v .str), (0, .fnc 19)]) (m := 24) (g := name_all_label_g1 N) [0, 1] (evN_sound hb N (name_all_label_t1 N) name_all_label_L name_all_label_body (TabOk.cons (name_all_label_ok2 hb) TabOk.nil) [0, 1] _ rfl) (fun x K => by kernel_rfl)

noncomputable def name_all_label_s3 (N : Nat) (x15 : (List UInt8 × Nat)) (rec : (List UInt8 × Nat) → Option Bool) (k0 : Bool → Option Bool) (k1 : Option Bool) : Option Bool :=
  cond (decide (x15.2 < (List.length x15.1)))
  ((name_labelRune N (((Go.Lift.runeAt x15.1 x15.2).1 : Nat) : Int) (((x15.2 : Nat) : Int) == (0 : Int))).bind fun y =>
    cond (!y)
    (k0 false)
    (rec (x15.1, (x15.2 + (Go.Lift.runeAt x15.1 x15.2).2))))
  (k1)

noncomputable def name_all_label_p3 (N : Nat) (x15 : (List UInt8 × Nat)) (k0 : Bool → Option Bool) (k1 : Option Bool) : Option Bool :=
  iter (fun (v : (List UInt8 × Nat)) r => name_all_label_s3 N v (fun x15 => (r x15)) k0 k1) N x15

noncomputable def name_all_label_g3 (N : Nat) (i : Unit) (v : (List UInt8 × Nat)) (r : (List UInt8 × Nat) → Option Bool) (K : Ex → List A → Option Bool) : Option Bool :=
  name_all_label_s3 N v (fun x15 => (r x15)) (fun a0 => (K .ret (mkS [(4, .v .bool)] 21 (a0, ())))) (K (.exit 0) (mkS [] 26 ()))

noncomputable def name_all_label_h3 (N : Nat) : Hd Bool := fun st K => (unS [(1, .fnc 19), (13, .iter)] 10 (restr [15, 1] 0 st)).bind fun x => iter (fun v r => name_all_label_g3 N ((fun x => ()) x) v r K) N ((fun x => x.2.1) x)

noncomputable def name_all_label_t3 (N : Nat) : Tab Bool := []

theorem name_all_label_ok3 {N : Nat} {c : Ctx} (hb : Base Go.Proofs.Try.prog (name_all_label_E N) c) : CodeOk Go.Proofs.Try.prog c (nodeAt name_all_label_body [0, 1, 0, 1, 1]) (name_all_label_h3 N) :=
  loop_ok (s := [(1, .fnc 19), (13, .iter)]) (m := 10) (name_all_label_g3 N) [15, 1] N (fun x => ()) (fun x => x.2.1) (fun i v => ((), v, ())) (fun _ => rfl) (evN_sound hb N (name_all_label_t3 N) name_all_label_L name_all_label_body TabOk.nil [0, 0, 1, 0, 1, 1] _ rfl) (fun i v r K => by kernel_rfl)

noncomputable def name_all_label (N : Nat) (s : (List UInt8)) : Option Bool :=
  name_all_label_p1 N s
  (fun x4 => some x4)
  (name_all_label_p3 N (s, 0)
    (fun x41 => some x41)
    (some true))

noncomputable def name_all_label_t (N : Nat) : Tab Bool := [([0, 1], name_all_label_h1 N), ([0, 1, 0, 1, 1], name_all_label_h3 N)]

theorem name_all_label_link (N : Nat) (x : denS [(0, .v .str), (0, .fnc 19)]) : evFX (name_all_label_E N) N (name_all_label_t N) name_all_label_L Go.Proofs.Try.f20 (mkS [(0, .v .str), (0, .fnc 19)] 0 x) (kRes (.v .bool) 2) = name_all_label N x.1 := by kernel_rfl

noncomputable def name_all_label_res (N : Nat) : List A → Res := resOf [(0, .v .str), (0, .fnc 19)] (fun x => name_all_label N x.1) (oRes (.v .bool) 2)

theorem name_all_label_ct (N : Nat) : Contract Go.Proofs.Try.prog noGlob 20 (name_all_label_res N) :=
  Contract.of (E := name_all_label_E N) (H := name_all_label_t N) (L := name_all_label_L) (N := N) (body := name_all_label_body) (K := (kRes (.v .bool) 2)) (name_all_label_Eok N) Go.Proofs.Try.func20 (by kernel_rfl) (by decide) (fun _ hb => (TabOk.cons (name_all_label_ok1 hb) (TabOk.cons (name_all_label_ok3 hb) TabOk.nil))) (fun x y h => by rw [name_all_label_link]; exact h) (kRes_ok (s := (.v .bool)) (m := 2))

abbrev name_all_word_R : Type := Bool

noncomputable def name_all_word_body : Code := (Go.Proofs.Try.f20.body).getD .skip

noncomputable def name_all_word_L : List (List Nat × List Nat) := [([0], [0, 1]), ([0, 0, 1], [13, 0, 1]), ([1, 0, 1], [0, 1]), ([0, 0, 1, 0, 1], [4]), ([1, 0, 1, 0, 1], [4]), ([0, 0, 1, 1], [15, 1]), ([0, 1, 0, 1, 1], [15, 1]), ([0, 0, 0, 1, 0, 1, 1], [17, 16, 1, 15]), ([0, 1, 0, 0, 1, 0, 1, 1], [16, 1, 15]), ([1, 0, 1, 0, 0, 1, 0, 1, 1], []), ([0, 0, 1, 1, 0, 0, 1, 0, 1, 1], [1, 6, 5, 15]), ([0, 1, 0, 1, 1, 0, 0, 1, 0, 1, 1], [25, 15, 1]), ([1, 1, 0, 1, 1, 0, 0, 1, 0, 1, 1], [15, 1]), ([0, 0, 1, 1, 0, 1, 1, 0, 0, 1, 0, 1, 1], [4]), ([1, 0, 1, 1, 0, 1, 1, 0, 0, 1, 0, 1, 1], [4]), ([1, 1, 0, 0, 1, 0, 1, 1], [15, 1]), ([1, 0, 1, 1], []), ([0, 1, 1, 1], [4]), ([1, 1, 1, 1], [4])]

noncomputable def name_all_word_E (N : Nat) : Env := mkEnv tys noGlob [(22, name_wordRune_res N)] [] [] [] false

theorem name_all_word_Eok (N : Nat) : EnvOk Go.Proofs.Try.prog (name_all_word_E N) := mkEnv_ok mixed tys_ok (FnsOk.cons (name_wordRune_ct N) (FnsOk.nil))

noncomputable def name_all_word_p2 (N : Nat) (s : (List UInt8)) (k0 : Bool → Option Bool) : Option Bool :=
  cond (s == ([] : List UInt8))
  (k0 true)
  (k0 (decide ((32 : Int) < (((List.length s) : Nat) : Int))))

noncomputable def name_all_word_g2 (N : Nat) (x : denS [(0, .v .str), (0, .fnc 22)]) (K : Ex → List A → Option Bool) : Option Bool :=
  name_all_word_p2 N x.1 (fun a1 => (K .normal (mkS [(0, .v .str), (0, .fnc 22), (11, .v .bool)] 12 (x.1, (), a1, ()))))

noncomputable def name_all_word_h2 (N : Nat) : Hd Bool := fun st K => (unS [(0, .v .str), (0, .fnc 22)] 24 (restr [0, 1] 0 st)).bind fun x => name_all_word_g2 N x K

noncomputable def name_all_word_t2 (N : Nat) : Tab Bool := []

theorem name_all_word_ok2 {N : Nat} {c : Ctx} (hb : Base Go.Proofs.Try.prog (name_all_word_E N) c) : CodeOk Go.Proofs.Try.prog c (nodeAt name_all_word_body [0, 0, 1]) (name_all_word_h2 N) :=
  piece_ok (s := [(0, .v .str), (0, .fnc 22)]) (m := 24) (g := name_all_word_g2 N) [0, 1] (evN_sound hb N (name_all_word_t2 N) name_all_word_L name_all_word_body TabOk.nil [0, 0, 1] _ rfl) (fun x K => by kernel_rfl)

noncomputable def name_all_word_p1 (N : Nat) (s : (List UInt8)) (k0 : Bool → Option Bool) (k1 : Option Bool) : Option Bool :=
  name_all_word_p2 N s
  (fun x13 => cond x13
    (k0 false)
    (k1))

noncomputable def name_all_word_g1 (N : Nat) (x : denS [(0, .v .str), (0, .fnc 22)]) (K : Ex → List A → Option Bool) : Option Bool :=
  name_all_word_p1 N x.1 (fun a0 => (K .ret (mkS [(4, .v .bool)] 21 (a0, ())))) (K .normal (mkS [(0, .v .str), (0, .fnc 22)] 24 (x.1, (), ())))

noncomputable def name_all_word_h1 (N : Nat) : Hd Bool := fun st K => (unS [(0, .v .str), (0, .fnc 22)] 24 (restr [0, 1] 0 st)).bind fun x => name_all_word_g1 N x K

noncomputable def name_all_word_t1 (N : Nat) : Tab Bool := [([0, 0, 1], name_all_word_h2 N)]

theorem name_all_word_ok1 {N : Nat} {c : Ctx} (hb : Base Go.Proofs.Try.prog (name_all_word_E N) c) : CodeOk Go.Proofs.Try.prog c (nodeAt name_all_word_body [0, 1]) (name_all_word_h1 N) :=
  piece_ok (s := [(0, .v .str), (0, .fnc 22)]) (m := 24) (g := name_all_word_g1 N) [0, 1] (evN_sound hb N (name_all_word_t1 N) name_all_word_L name_all_word_body (TabOk.cons (name_all_word_ok2 hb) TabOk.nil) [0, 1] _ rfl) (fun x K => by kernel_rfl)

noncomputable def name_all_word_s3 (N : Nat) (x15 : (List UInt8 × Nat)) (rec : (List UInt8 × Nat) → Option Bool) (k0 : Bool → Option Bool) (k1 : Option Bool) : Option Bool :=
  cond (decide (x15.2 < (List.length x15.1)))
  ((name_wordRune N (((Go.Lift.runeAt x15.1 x15.2).1 : Nat) : Int) (((x15.2 : Nat) : Int) == (0 : Int))).bind fun y =>
    cond (!y)
    (k0 false)
    (rec (x15.1, (x15.2 + (Go.Lift.runeAt x15.1 x15.2).2))))
  (k1)

noncomputable def name_all_word_p3 (N : Nat) (x15 : (List UInt8 × Nat)) (k0 : Bool → Option Bool) (k1 : Option Bool) : Option Bool :=
  iter (fun (v : (List UInt8 × Nat)) r => name_all_word_s3 N v (fun x15 => (r x15)) k0 k1) N x15

noncomputable def name_all_word_g3 (N : Nat) (i : Unit) (v : (List UInt8 × Nat)) (r : (List UInt8 × Nat) → Option Bool) (K : Ex → List A → Option Bool) : Option Bool :=
  name_all_word_s3 N v (fun x15 => (r x15)) (fun a0 => (K .ret (mkS [(4, .v .bool)] 21 (a0, ())))) (K (.exit 0) (mkS [] 26 ()))

noncomputable def name_all_word_h3 (N : Nat) : Hd Bool := fun st K => (unS [(1, .fnc 22), (13, .iter)] 10 (restr [15, 1] 0 st)).bind fun x => iter (fun v r => name_all_word_g3 N ((fun x => ()) x) v r K) N ((fun x => x.2.1) x)

noncomputable def name_all_word_t3 (N : Nat) : Tab Bool := []

theorem name_all_word_ok3 {N : Nat} {c : Ctx} (hb : Base Go.Proofs.Try.prog (name_all_word_E N) c) : CodeOk Go.Proofs.Try.prog c (nodeAt name_all_word_body [0, 1, 0, 1, 1]) (name_all_word_h3 N) :=
  loop_ok (s := [(1, .fnc 22), (13, .iter)]) (m := 10) (name_all_word_g3 N) [15, 1] N (fun x => ()) (fun x => x.2.1) (fun i v => ((), v, ())) (fun _ => rfl) (evN_sound hb N (name_all_word_t3 N) name_all_word_L name_all_word_body TabOk.nil [0, 0, 1, 0, 1, 1] _ rfl) (fun i v r K => by kernel_rfl)

noncomputable def name_all_word (N : Nat) (s : (List UInt8)) : Option Bool :=
  name_all_word_p1 N s
  (fun x4 => some x4)
  (name_all_word_p3 N (s, 0)
    (fun x41 => some x41)
    (some true))

noncomputable def name_all_word_t (N : Nat) : Tab Bool := [([0, 1], name_all_word_h1 N), ([0, 1, 0, 1, 1], name_all_word_h3 N)]

theorem name_all_word_link (N : Nat) (x : denS [(0, .v .str), (0, .fnc 22)]) : evFX (name_all_word_E N) N (name_all_word_t N) name_all_word_L Go.Proofs.Try.f20 (mkS [(0, .v .str), (0, .fnc 22)] 0 x) (kRes (.v .bool) 2) = name_all_word N x.1 := by kernel_rfl

noncomputable def name_all_word_res (N : Nat) : List A → Res := resOf [(0, .v .str), (0, .fnc 22)] (fun x => name_all_word N x.1) (oRes (.v .bool) 2)

theorem name_all_word_ct (N : Nat) : Contract Go.Proofs.Try.prog noGlob 20 (name_all_word_res N) :=
  Contract.of (E := name_all_word_E N) (H := name_all_word_t N) (L := name_all_word_L) (N := N) (body := name_all_word_body) (K := (kRes (.v .bool) 2)) (name_all_word_Eok N) Go.Proofs.Try.func20 (by kernel_rfl) (by decide) (fun _ hb => (TabOk.cons (name_all_word_ok1 hb) (TabOk.cons (name_all_word_ok3 hb) TabOk.nil))) (fun x y h => by rw [name_all_word_link]; exact h) (kRes_ok (s := (.v .bool)) (m := 2))

noncomputable def name_all_word_all (N : Nat) : List A → Res := resAlt [(0, .v .str), (0, .fnc 22)] (fun x => name_all_word N x.1) (oRes (.v .bool) 2) (name_all_label_res N)

theorem name_all_word_allct (N : Nat) : Contract Go.Proofs.Try.prog noGlob 20 (name_all_word_all N) := Contract.alt (name_all_word_ct N) (name_all_label_ct N)

abbrev name_Word_R : Type := Bool

noncomputable def name_Word_body : Code := (Go.Proofs.Try.f10.body).getD .skip

noncomputable def name_Word_L : List (List Nat × List Nat) := [([0], [0]), ([0, 1], [2]), ([1, 1], [2])]

noncomputable def name_Word_E (N : Nat) : Env := mkEnv tys noGlob [(20, name_all_word_all N), (22, name_wordRune_res N)] [] [] [] false

theorem name_Word_Eok (N : Nat) : EnvOk Go.Proofs.Try.prog (name_Word_E N) := mkEnv_ok mixed tys_ok (FnsOk.cons (name_all_word_allct N) (FnsOk.cons (name_wordRune_ct N) (FnsOk.nil)))

noncomputable def name_Word (N : Nat) (s : (List UInt8)) : Option Bool :=
  (name_all_word N s).bind fun y =>
  some y

noncomputable def name_Word_t (N : Nat) : Tab Bool := []

theorem name_Word_link (N : Nat) (x : denS [(0, .v .str)]) : evFX (name_Word_E N) N (name_Word_t N) name_Word_L Go.Proofs.Try.f10 (mkS [(0, .v .str)] 0 x) (kRes (.v .bool) 1) = name_Word N x.1 := by kernel_rfl

noncomputable def name_Word_res (N : Nat) : List A → Res := resOf [(0, .v .str)] (fun x => name_Word N x.1) (oRes (.v .bool) 1)

theorem name_Word_ct (N : Nat) : Contract Go.Proofs.Try.prog noGlob 10 (name_Word_res N) :=
  Contract.of (E := name_Word_E N) (H := name_Word_t N) (L := name_Word_L) (N := N) (body := name_Word_body) (K := (kRes (.v .bool) 1)) (name_Word_Eok N) Go.Proofs.Try.func10 (by kernel_rfl) (by decide) (fun _ hb => TabOk.nil) (fun x y h => by rw [name_Word_link]; exact h) (kRes_ok (s := (.v .bool)) (m := 1))

abbrev name_Words_R : Type := ((List (List UInt8)) × Bool × Unit)

noncomputable def name_Words_body : Code := (Go.Proofs.Try.f14.body).getD .skip

noncomputable def name_Words_L : List (List Nat × List Nat) := [([0], [0]), ([0, 1], [0, 4]), ([0, 1, 1], [0, 5, 4]), ([0, 0, 1, 1, 1], [10, 0, 5, 4]), ([0, 1, 0, 1, 1, 1], [10, 0, 5, 4]), ([0, 0, 0, 1, 0, 1, 1, 1], [12, 11, 10, 0, 5, 4]), ([0, 1, 0, 0, 1, 0, 1, 1, 1], [11, 10, 0, 5, 4]), ([1, 0, 1, 0, 0, 1, 0, 1, 1, 1], [4]), ([0, 0, 1, 1, 0, 0, 1, 0, 1, 1, 1], [7, 10, 0, 5, 4, 6]), ([0, 0, 1, 0, 1, 1, 0, 0, 1, 0, 1, 1, 1], [16, 10, 0, 5, 4, 6]), ([1, 0, 1, 0, 1, 1, 0, 0, 1, 0, 1, 1, 1], [0, 5, 6, 4, 10]), ([0, 1, 0, 1, 0, 1, 1, 0, 0, 1, 0, 1, 1, 1], [10, 0, 5, 4]), ([0, 0, 1, 1, 0, 1, 1, 0, 0, 1, 0, 1, 1, 1], [22, 4, 0, 5, 6, 10]), ([1, 0, 1, 1, 0, 1, 1, 0, 0, 1, 0, 1, 1, 1], [4, 0, 5, 6, 10]), ([0, 0, 1, 0, 1, 1, 0, 1, 1, 0, 0, 1, 0, 1, 1, 1], [2, 3]), ([1, 0, 1, 0, 1, 1, 0, 1, 1, 0, 0, 1, 0, 1, 1, 1], [2, 3]), ([0, 1, 1, 1, 0, 1, 1, 0, 0, 1, 0, 1, 1, 1], [6, 10, 0, 4]), ([1, 1, 1, 1, 0, 1, 1, 0, 0, 1, 0, 1, 1, 1], [10, 0, 5, 4]), ([1, 1, 0, 0, 1, 0, 1, 1, 1], [10, 0, 5, 4]), ([1, 0, 1, 1, 1], [4]), ([0, 1, 1, 1, 1], [2, 3]), ([1, 1, 1, 1, 1], [2, 3])]

noncomputable def name_Words_E (N : Nat) : Env := mkEnv tys noGlob [(10, name_Word_res N)] [(4, .str), (2, .str)] [] [] false

theorem name_Words_Eok (N : Nat) : EnvOk Go.Proofs.Try.prog (name_Words_E N) := mkEnv_ok mixed tys_ok (FnsOk.cons (name_Word_ct N) (FnsOk.nil))

noncomputable def name_Words_s1 (N : Nat) (s : (List UInt8)) (words : (List (List UInt8))) (from_ : Int) (x10 : (List UInt8 × Nat)) (rec : (List (List UInt8)) → Int → (List UInt8 × Nat) → Option ((List (List UInt8)) × Bool × Unit)) (k0 : (List (List UInt8)) → Bool → Option ((List (List UInt8)) × Bool × Unit)) (k1 : (List (List UInt8)) → Option ((List (List UInt8)) × Bool × Unit)) : Option ((List (List UInt8)) × Bool × Unit) :=
  cond (decide (x10.2 < (List.length x10.1)))
  (cond ((((Go.Lift.runeAt x10.1 x10.2).1 : Nat) : Int) != (32 : Int))
    (rec words from_ (x10.1, (x10.2 + (Go.Lift.runeAt x10.1 x10.2).2)))
    (cond (decide (((0 : Int) ≤ ((x10.2 : Nat) : Int)) ∧ (((x10.2 : Nat) : Int) ≤ (((List.length s) : Nat) : Int))))
      (cond (decide (((0 : Int) ≤ from_) ∧ (from_ ≤ ((x10.2 : Nat) : Int))))
        ((name_Word N (Go.Lift.cut s (Int.toNat from_) (Int.toNat ((x10.2 : Nat) : Int)))).bind fun y =>
          cond (!y)
          (k0 ([] : List (List UInt8)) false)
          (cond (decide (((0 : Int) ≤ ((x10.2 : Nat) : Int)) ∧ (((x10.2 : Nat) : Int) ≤ (((List.length s) : Nat) : Int))))
            (cond (decide (((0 : Int) ≤ from_) ∧ (from_ ≤ ((x10.2 : Nat) : Int))))
              (cond (decide ((((List.length words) + 1) * 16) ≤ 70368744177664))
                (rec (words ++ ([(Go.Lift.cut s (Int.toNat from_) (Int.toNat ((x10.2 : Nat) : Int)))] : List (List UInt8))) (Go.IntKind.wrap Go.IntKind.i64 (((x10.2 : Nat) : Int) + (1 : Int))) (x10.1, (x10.2 + (Go.Lift.runeAt x10.1 x10.2).2)))
                (none))
              (none))
            (none)))
        (none))
      (none)))
  (k1 words)

noncomputable def name_Words_p1 (N : Nat) (s : (List UInt8)) (words : (List (List UInt8))) (from_ : Int) (x10 : (List UInt8 × Nat)) (k0 : (List (List UInt8)) → Bool → Option ((List (List UInt8)) × Bool × Unit)) (k1 : (List (List UInt8)) → Option ((List (List UInt8)) × Bool × Unit)) : Option ((List (List UInt8)) × Bool × Unit) :=
  iter (fun (v : ((List (List UInt8)) × Int × (List UInt8 × Nat))) r => name_Words_s1 N s v.1 v.2.1 v.2.2 (fun words from_ x10 => (r (words, from_, x10))) k0 k1) N (words, from_, x10)

noncomputable def name_Words_g1 (N : Nat) (i : (List UInt8)) (v : ((List (List UInt8)) × Int × (List UInt8 × Nat))) (r : ((List (List UInt8)) × Int × (List UInt8 × Nat)) → Option ((List (List UInt8)) × Bool × Unit)) (K : Ex → List A → Option ((List (List UInt8)) × Bool × Unit)) : Option ((List (List UInt8)) × Bool × Unit) :=
  name_Words_s1 N i v.1 v.2.1 v.2.2 (fun words from_ x10 => (r (words, from_, x10))) (fun a0 a1 => (K .ret (mkS [(2, .row .str), (0, .v .bool)] 29 (a0, a1, ())))) (fun a0 => (K (.exit 0) (mkS [(4, .row .str)] 28 (a0, ()))))

noncomputable def name_Words_h1 (N : Nat) : Hd ((List (List UInt8)) × Bool × Unit) := fun st K => (unS [(0, .v .str), (3, .row .str), (0, .v (.int .i64)), (4, .iter)] 22 (restr [10, 0, 5, 4] 0 st)).bind fun x => iter (fun v r => name_Words_g1 N ((fun x => x.1) x) v r K) N ((fun x => (x.2.1, x.2.2.1, x.2.2.2.1)) x)

noncomputable def name_Words_t1 (N : Nat) : Tab ((List (List UInt8)) × Bool × Unit) := []

theorem name_Words_ok1 {N : Nat} {c : Ctx} (hb : Base Go.Proofs.Try.prog (name_Words_E N) c) : CodeOk Go.Proofs.Try.prog c (nodeAt name_Words_body [0, 1, 0, 1, 1, 1]) (name_Words_h1 N) :=
  loop_ok (s := [(0, .v .str), (3, .row .str), (0, .v (.int .i64)), (4, .iter)]) (m := 22) (name_Words_g1 N) [10, 0, 5, 4] N (fun x => x.1) (fun x => (x.2.1, x.2.2.1, x.2.2.2.1)) (fun i v => (i, v.1, v.2.1, v.2.2, ())) (fun _ => rfl) (evN_sound hb N (name_Words_t1 N) name_Words_L name_Words_body TabOk.nil [0, 0, 1, 0, 1, 1, 1] _ rfl) (fun i v r K => by kernel_rfl)

noncomputable def name_Words (N : Nat) (s : (List UInt8)) : Option ((List (List UInt8)) × Bool × Unit) :=
  cond (decide (((List.length s) + 1) ≤ 9223372036854775807))
  (name_Words_p1 N s ([] : List (List UInt8)) (0 : Int) ((s ++ ([(32 : UInt8)] : List UInt8)), 0)
    (fun x2 x3 => some (x2, (x3, ())))
    (fun words => some (words, (true, ()))))
  (none)

noncomputable def name_Words_t (N : Nat) : Tab ((List (List UInt8)) × Bool × Unit) := [([0, 1, 0, 1, 1, 1], name_Words_h1 N)]

theorem name_Words_link (N : Nat) (x : denS [(0, .v .str)]) : evFX (name_Words_E N) N (name_Words_t N) name_Words_L Go.Proofs.Try.f14 (mkS [(0, .v .str)] 0 x) (kRes (.tup [(.sl .str), .bool]) 1) = name_Words N x.1 := by kernel_rfl

noncomputable def name_Words_res (N : Nat) : List A → Res := resOf [(0, .v .str)] (fun x => name_Words N x.1) (oRes (.tup [(.sl .str), .bool]) 1)

theorem name_Words_ct (N : Nat) : Contract Go.Proofs.Try.prog noGlob 14 (name_Words_res N) :=
  Contract.of (E := name_Words_E N) (H := name_Words_t N) (L := name_Words_L) (N := N) (body := name_Words_body) (K := (kRes (.tup [(.sl .str), .bool]) 1)) (name_Words_Eok N) Go.Proofs.Try.func14 (by kernel_rfl) (by decide) (fun _ hb => (TabOk.cons (name_Words_ok1 hb) TabOk.nil)) (fun x y h => by rw [name_Words_link]; exact h) (kRes_ok (s := (.tup [(.sl .str), .bool])) (m := 1))

abbrev name_Cut_R : Type := ((List UInt8) × Int × Unit)

noncomputable def name_Cut_body : Code := (Go.Proofs.Try.f7.body).getD .skip

noncomputable def name_Cut_L : List (List Nat × List Nat) := [([0], [1, 0]), ([0, 0, 1], [16, 0, 1]), ([1, 0, 1], [0, 1]), ([0, 0, 1, 0, 1], [4, 5]), ([1, 0, 1, 0, 1], [4, 5]), ([0, 1, 1], [0, 1, 6]), ([0, 0, 1, 1, 1], [22, 1, 0, 6]), ([0, 1, 0, 1, 1, 1], [22, 1, 0, 6]), ([0, 0, 0, 1, 0, 1, 1, 1], [24, 23, 1, 0, 22, 6]), ([0, 1, 0, 0, 1, 0, 1, 1, 1], [23, 1, 0, 22, 6]), ([1, 0, 1, 0, 0, 1, 0, 1, 1, 1], [0, 1, 6]), ([0, 0, 1, 1, 0, 0, 1, 0, 1, 1, 1], [8, 7, 1, 0, 22, 6]), ([0, 1, 0, 1, 1, 0, 0, 1, 0, 1, 1, 1], [31, 1, 7, 0, 22, 6]), ([1, 1, 0, 1, 1, 0, 0, 1, 0, 1, 1, 1], [22, 1, 0, 6]), ([0, 0, 1, 1, 0, 1, 1, 0, 0, 1, 0, 1, 1, 1], [0, 1, 6]), ([1, 0, 1, 1, 0, 1, 1, 0, 0, 1, 0, 1, 1, 1], [0, 1, 6]), ([1, 1, 0, 0, 1, 0, 1, 1, 1], [22, 1, 0, 6]), ([1, 0, 1, 1, 1], [0, 1, 6]), ([0, 1, 1, 1, 1], [4, 5]), ([1, 1, 1, 1, 1], [4, 5])]

noncomputable def name_Cut_E (N : Nat) : Env := mkEnv tys noGlob [(19, name_labelRune_res N)] [] [] [] false

theorem name_Cut_Eok (N : Nat) : EnvOk Go.Proofs.Try.prog (name_Cut_E N) := mkEnv_ok mixed tys_ok (FnsOk.cons (name_labelRune_ct N) (FnsOk.nil))

noncomputable def name_Cut_p2 (N : Nat) (s : (List UInt8)) (at_ : Int) (k0 : Bool → Option ((List UInt8) × Int × Unit)) : Option ((List UInt8) × Int × Unit) :=
  cond (decide (at_ < (0 : Int)))
  (k0 true)
  (k0 (decide ((((List.length s) : Nat) : Int) < at_)))

noncomputable def name_Cut_g2 (N : Nat) (x : denS [(0, .v .str), (0, .v (.int .i64))]) (K : Ex → List A → Option ((List UInt8) × Int × Unit)) : Option ((List UInt8) × Int × Unit) :=
  name_Cut_p2 N x.1 x.2.1 (fun a2 => (K .normal (mkS [(0, .v .str), (0, .v (.int .i64)), (14, .v .bool)] 23 (x.1, x.2.1, a2, ()))))

noncomputable def name_Cut_h2 (N : Nat) : Hd ((List UInt8) × Int × Unit) := fun st K => (unS [(0, .v .str), (0, .v (.int .i64))] 38 (restr [1, 0] 0 st)).bind fun x => name_Cut_g2 N x K

noncomputable def name_Cut_t2 (N : Nat) : Tab ((List UInt8) × Int × Unit) := []

theorem name_Cut_ok2 {N : Nat} {c : Ctx} (hb : Base Go.Proofs.Try.prog (name_Cut_E N) c) : CodeOk Go.Proofs.Try.prog c (nodeAt name_Cut_body [0, 0, 1]) (name_Cut_h2 N) :=
  piece_ok (s := [(0, .v .str), (0, .v (.int .i64))]) (m := 38) (g := name_Cut_g2 N) [1, 0] (evN_sound hb N (name_Cut_t2 N) name_Cut_L name_Cut_body TabOk.nil [0, 0, 1] _ rfl) (fun x K => by kernel_rfl)

noncomputable def name_Cut_p1 (N : Nat) (s : (List UInt8)) (at_ : Int) (k0 : (List UInt8) → Int → Option ((List UInt8) × Int × Unit)) (k1 : Option ((List UInt8) × Int × Unit)) : Option ((List UInt8) × Int × Unit) :=
  name_Cut_p2 N s at_
  (fun x16 => cond x16
    (k0 ([] : List UInt8) (0 : Int))
    (k1))

noncomputable def name_Cut_g1 (N : Nat) (x : denS [(0, .v .str), (0, .v (.int .i64))]) (K : Ex → List A → Option ((List UInt8) × Int × Unit)) : Option ((List UInt8) × Int × Unit) :=
  name_Cut_p1 N x.1 x.2.1 (fun a0 a1 => (K .ret (mkS [(4, .v .str), (0, .v (.int .i64))] 34 (a0, a1, ())))) (K .normal (mkS [(0, .v .str), (0, .v (.int .i64))] 38 (x.1, x.2.1, ())))

noncomputable def name_Cut_h1 (N : Nat) : Hd ((List UInt8) × Int × Unit) := fun st K => (unS [(0, .v .str), (0, .v (.int .i64))] 38 (restr [1, 0] 0 st)).bind fun x => name_Cut_g1 N x K

noncomputable def name_Cut_t1 (N : Nat) : Tab ((List UInt8) × Int × Unit) := [([0, 0, 1], name_Cut_h2 N)]

theorem name_Cut_ok1 {N : Nat} {c : Ctx} (hb : Base Go.Proofs.Try.prog (name_Cut_E N) c) : CodeOk Go.Proofs.Try.prog c (nodeAt name_Cut_body [0, 1]) (name_Cut_h1 N) :=
  piece_ok (s := [(0, .v .str), (0, .v (.int .i64))]) (m := 38) (g := name_Cut_g1 N) [1, 0] (evN_sound hb N (name_Cut_t1 N) name_Cut_L name_Cut_body (TabOk.cons (name_Cut_ok2 hb) TabOk.nil) [0, 1] _ rfl) (fun x K => by kernel_rfl)

noncomputable def name_Cut_s4 (N : Nat) (s : (List UInt8)) (at_ : Int) (end_ : Int) (x22 : (List UInt8 × Nat)) (rec : (List UInt8 × Nat) → Option ((List UInt8) × Int × Unit)) (k0 : Int → Option ((List UInt8) × Int × Unit)) : Option ((List UInt8) × Int × Unit) :=
  cond (decide (x22.2 < (List.length x22.1)))
  ((name_labelRune N (((Go.Lift.runeAt x22.1 x22.2).1 : Nat) : Int) (((x22.2 : Nat) : Int) == (0 : Int))).bind fun y =>
    cond (!y)
    (k0 (Go.IntKind.wrap Go.IntKind.i64 (at_ + ((x22.2 : Nat) : Int))))
    (rec (x22.1, (x22.2 + (Go.Lift.runeAt x22.1 x22.2).2))))
  (k0 end_)

noncomputable def name_Cut_p4 (N : Nat) (s : (List UInt8)) (at_ : Int) (end_ : Int) (x22 : (List UInt8 × Nat)) (k0 : Int → Option ((List UInt8) × Int × Unit)) : Option ((List UInt8) × Int × Unit) :=
  iter (fun (v : (List UInt8 × Nat)) r => name_Cut_s4 N s at_ end_ v (fun x22 => (r x22)) k0) N x22

noncomputable def name_Cut_g4 (N : Nat) (i : ((List UInt8) × Int × Int)) (v : (List UInt8 × Nat)) (r : (List UInt8 × Nat) → Option ((List UInt8) × Int × Unit)) (K : Ex → List A → Option ((List UInt8) × Int × Unit)) : Option ((List UInt8) × Int × Unit) :=
  name_Cut_s4 N i.1 i.2.1 i.2.2 v (fun x22 => (r x22)) (fun a2 => (K (.exit 0) (mkS [(0, .v .str), (0, .v (.int .i64)), (4, .v (.int .i64))] 33 (i.1, i.2.1, a2, ()))))

noncomputable def name_Cut_h4 (N : Nat) : Hd ((List UInt8) × Int × Unit) := fun st K => (unS [(0, .v .str), (0, .v (.int .i64)), (4, .v (.int .i64)), (15, .iter)] 17 (restr [22, 1, 0, 6] 0 st)).bind fun x => iter (fun v r => name_Cut_g4 N ((fun x => (x.1, x.2.1, x.2.2.1)) x) v r K) N ((fun x => x.2.2.2.1) x)

noncomputable def name_Cut_t4 (N : Nat) : Tab ((List UInt8) × Int × Unit) := []

theorem name_Cut_ok4 {N : Nat} {c : Ctx} (hb : Base Go.Proofs.Try.prog (name_Cut_E N) c) : CodeOk Go.Proofs.Try.prog c (nodeAt name_Cut_body [0, 1, 0, 1, 1, 1]) (name_Cut_h4 N) :=
  loop_ok (s := [(0, .v .str), (0, .v (.int .i64)), (4, .v (.int .i64)), (15, .iter)]) (m := 17) (name_Cut_g4 N) [22, 1, 0, 6] N (fun x => (x.1, x.2.1, x.2.2.1)) (fun x => x.2.2.2.1) (fun i v => (i.1, i.2.1, i.2.2, v, ())) (fun _ => rfl) (evN_sound hb N (name_Cut_t4 N) name_Cut_L name_Cut_body TabOk.nil [0, 0, 1, 0, 1, 1, 1] _ rfl) (fun i v r K => by kernel_rfl)

noncomputable def name_Cut_p3 (N : Nat) (s : (List UInt8)) (at_ : Int) (end_ : Int) (k0 : Int → Option ((List UInt8) × Int × Unit)) : Option ((List UInt8) × Int × Unit) :=
  cond (decide (((0 : Int) ≤ at_) ∧ (at_ ≤ (((List.length s) : Nat) : Int))))
  (name_Cut_p4 N s at_ end_ ((Go.Lift.cut s (Int.toNat at_) (List.length s)), 0)
    (fun end_1 => k0 end_1))
  (none)

noncomputable def name_Cut_g3 (N : Nat) (x : denS [(0, .v .str), (0, .v (.int .i64)), (4, .v (.int .i64))]) (K : Ex → List A → Option ((List UInt8) × Int × Unit)) : Option ((List UInt8) × Int × Unit) :=
  name_Cut_p3 N x.1 x.2.1 x.2.2.1 (fun a2 => (K .normal (mkS [(0, .v .str), (0, .v (.int .i64)), (4, .v (.int .i64))] 33 (x.1, x.2.1, a2, ()))))

noncomputable def name_Cut_h3 (N : Nat) : Hd ((List UInt8) × Int × Unit) := fun st K => (unS [(0, .v .str), (0, .v (.int .i64)), (4, .v (.int .i64))] 33 (restr [0, 1, 6] 0 st)).bind fun x => name_Cut_g3 N x K

noncomputable def name_Cut_t3 (N : Nat) : Tab ((List UInt8) × Int × Unit) := [([0, 1, 0, 1, 1, 1], name_Cut_h4 N)]

theorem name_Cut_ok3 {N : Nat} {c : Ctx} (hb : Base Go.Proofs.Try.prog (name_Cut_E N) c) : CodeOk Go.Proofs.Try.prog c (nodeAt name_Cut_body [0, 1, 1, 1]) (name_Cut_h3 N) :=
  piece_ok (s := [(0, .v .str), (0, .v (.int .i64)), (4, .v (.int .i64))]) (m := 33) (g := name_Cut_g3 N) [0, 1, 6] (evN_sound hb N (name_Cut_t3 N) name_Cut_L name_Cut_body (TabOk.cons (name_Cut_ok4 hb) TabOk.nil) [0, 1, 1, 1] _ rfl) (fun x K => by kernel_rfl)

noncomputable def name_Cut (N : Nat) (s : (List UInt8)) (at_ : Int) : Option ((List UInt8) × Int × Unit) :=
  name_Cut_p1 N s at_
  (fun x4 x5 => some (x4, (x5, ())))
  (name_Cut_p3 N s at_ (((List.length s) : Nat) : Int)
    (fun end_ => cond (decide (((0 : Int) ≤ end_) ∧ (end_ ≤ (((List.length s) : Nat) : Int))))
      (cond (decide (((0 : Int) ≤ at_) ∧ (at_ ≤ end_)))
        (some ((Go.Lift.cut s (Int.toNat at_) (Int.toNat end_)), (end_, ())))
        (none))
      (none)))

noncomputable def name_Cut_t (N : Nat) : Tab ((List UInt8) × Int × Unit) := [([0, 1], name_Cut_h1 N), ([0, 1, 1, 1], name_Cut_h3 N)]

theorem name_Cut_link (N : Nat) (x : denS [(0, .v .str), (0, .v (.int .i64))]) : evFX (name_Cut_E N) N (name_Cut_t N) name_Cut_L Go.Proofs.Try.f7 (mkS [(0, .v .str), (0, .v (.int .i64))] 0 x) (kRes (.tup [.str, (.int .i64)]) 2) = name_Cut N x.1 x.2.1 := by kernel_rfl

noncomputable def name_Cut_res (N : Nat) : List A → Res := resOf [(0, .v .str), (0, .v (.int .i64))] (fun x => name_Cut N x.1 x.2.1) (oRes (.tup [.str, (.int .i64)]) 2)

theorem name_Cut_ct (N : Nat) : Contract Go.Proofs.Try.prog noGlob 7 (name_Cut_res N) :=
  Contract.of (E := name_Cut_E N) (H := name_Cut_t N) (L := name_Cut_L) (N := N) (body := name_Cut_body) (K := (kRes (.tup [.str, (.int .i64)]) 2)) (name_Cut_Eok N) Go.Proofs.Try.func7 (by kernel_rfl) (by decide) (fun _ hb => (TabOk.cons (name_Cut_ok1 hb) (TabOk.cons (name_Cut_ok3 hb) TabOk.nil))) (fun x y h => by rw [name_Cut_link]; exact h) (kRes_ok (s := (.tup [.str, (.int .i64)])) (m := 2))

abbrev name_Label_R : Type := Bool

noncomputable def name_Label_body : Code := (Go.Proofs.Try.f8.body).getD .skip

noncomputable def name_Label_L : List (List Nat × List Nat) := [([0], [0]), ([0, 1], [2]), ([1, 1], [2])]

noncomputable def name_Label_E (N : Nat) : Env := mkEnv tys noGlob [(20, name_all_word_all N), (19, name_labelRune_res N)] [] [] [] false

theorem name_Label_Eok (N : Nat) : EnvOk Go.Proofs.Try.prog (name_Label_E N) := mkEnv_ok mixed tys_ok (FnsOk.cons (name_all_word_allct N) (FnsOk.cons (name_labelRune_ct N) (FnsOk.nil)))

noncomputable def name_Label (N : Nat) (s : (List UInt8)) : Option Bool :=
  (name_all_label N s).bind fun y =>
  some y

noncomputable def name_Label_t (N : Nat) : Tab Bool := []

theorem name_Label_link (N : Nat) (x : denS [(0, .v .str)]) : evFX (name_Label_E N) N (name_Label_t N) name_Label_L Go.Proofs.Try.f8 (mkS [(0, .v .str)] 0 x) (kRes (.v .bool) 1) = name_Label N x.1 := by kernel_rfl

noncomputable def name_Label_res (N : Nat) : List A → Res := resOf [(0, .v .str)] (fun x => name_Label N x.1) (oRes (.v .bool) 1)

theorem name_Label_ct (N : Nat) : Contract Go.Proofs.Try.prog noGlob 8 (name_Label_res N) :=
  Contract.of (E := name_Label_E N) (H := name_Label_t N) (L := name_Label_L) (N := N) (body := name_Label_body) (K := (kRes (.v .bool) 1)) (name_Label_Eok N) Go.Proofs.Try.func8 (by kernel_rfl) (by decide) (fun _ hb => TabOk.nil) (fun x y h => by rw [name_Label_link]; exact h) (kRes_ok (s := (.v .bool)) (m := 1))

abbrev name_Join_R : Type := (List UInt8)

noncomputable def name_Join_body : Code := (Go.Proofs.Try.f17.body).getD .skip

noncomputable def name_Join_L : List (List Nat × List Nat) := [([0], [0]), ([0, 1], [0, 3]), ([0, 0, 1, 1], [8, 7, 6, 3]), ([0, 1, 0, 1, 1], [8, 7, 6, 3]), ([0, 0, 0, 1, 0, 1, 1], [9, 8, 6, 3, 7]), ([0, 1, 0, 0, 1, 0, 1, 1], [8, 6, 3, 7]), ([1, 0, 1, 0, 0, 1, 0, 1, 1], [3]), ([0, 0, 0, 1, 1, 0, 0, 1, 0, 1, 1], [4, 3, 5, 8, 7, 6]), ([0, 0, 1, 0, 0, 1, 1, 0, 0, 1, 0, 1, 1], [14, 3, 5, 8, 7, 6]), ([1, 0, 1, 0, 0, 1, 1, 0, 0, 1, 0, 1, 1], [3, 5, 8, 7, 6]), ([0, 1, 0, 1, 0, 0, 1, 1, 0, 0, 1, 0, 1, 1], [3, 5, 8, 7, 6]), ([1, 1, 0, 0, 1, 1, 0, 0, 1, 0, 1, 1], [8, 7, 6, 3]), ([0, 1, 1, 0, 0, 1, 0, 1, 1], [8, 7, 6, 3]), ([1, 1, 1, 0, 0, 1, 0, 1, 1], [8, 7, 6, 3]), ([1, 0, 1, 1], [3]), ([0, 1, 1, 1], [2]), ([1, 1, 1, 1], [2])]

noncomputable def name_Join_E (N : Nat) : Env := mkEnv tys noGlob [] [(3, (.int .u8))] [] [] false

theorem name_Join_Eok (N : Nat) : EnvOk Go.Proofs.Try.prog (name_Join_E N) := mkEnv_ok mixed tys_ok (FnsOk.nil)

noncomputable def name_Join_p2 (N : Nat) (out : (List Int)) (i : Int) (s : (List UInt8)) (x6 : (List (List UInt8))) (x7 : Int) (x8 : Int) (k0 : (List Int) → Option (List UInt8)) : Option (List UInt8) :=
  cond (decide ((0 : Int) < i))
  (cond (decide ((((List.length out) + 1) * 1) ≤ 70368744177664))
    (k0 (out ++ ([(32 : Int)] : List Int)))
    (none))
  (k0 out)

noncomputable def name_Join_g2 (N : Nat) (x : denS [(3, .row (.int .u8)), (0, .v (.int .i64)), (0, .v .str), (0, .v (.sl .str)), (0, .v (.int .i64)), (0, .v (.int .i64))]) (K : Ex → List A → Option (List UInt8)) : Option (List UInt8) :=
  name_Join_p2 N x.1 x.2.1 x.2.2.1 x.2.2.2.1 x.2.2.2.2.1 x.2.2.2.2.2.1 (fun a0 => (K .normal (mkS [(3, .row (.int .u8)), (1, .v .str), (0, .v (.sl .str)), (0, .v (.int .i64)), (0, .v (.int .i64))] 15 (a0, x.2.2.1, x.2.2.2.1, x.2.2.2.2.1, x.2.2.2.2.2.1, ()))))

noncomputable def name_Join_h2 (N : Nat) : Hd (List UInt8) := fun st K => (unS [(3, .row (.int .u8)), (0, .v (.int .i64)), (0, .v .str), (0, .v (.sl .str)), (0, .v (.int .i64)), (0, .v (.int .i64))] 15 (restr [4, 3, 5, 8, 7, 6] 0 st)).bind fun x => name_Join_g2 N x K

noncomputable def name_Join_t2 (N : Nat) : Tab (List UInt8) := []

theorem name_Join_ok2 {N : Nat} {c : Ctx} (hb : Base Go.Proofs.Try.prog (name_Join_E N) c) : CodeOk Go.Proofs.Try.prog c (nodeAt name_Join_body [0, 1, 0, 0, 1, 1, 0, 0, 1, 0, 1, 1]) (name_Join_h2 N) :=
  piece_ok (s := [(3, .row (.int .u8)), (0, .v (.int .i64)), (0, .v .str), (0, .v (.sl .str)), (0, .v (.int .i64)), (0, .v (.int .i64))]) (m := 15) (g := name_Join_g2 N) [4, 3, 5, 8, 7, 6] (evN_sound hb N (name_Join_t2 N) name_Join_L name_Join_body TabOk.nil [0, 1, 0, 0, 1, 1, 0, 0, 1, 0, 1, 1] _ rfl) (fun x K => by kernel_rfl)

noncomputable def name_Join_s1 (N : Nat) (x6 : (List (List UInt8))) (x7 : Int) (out : (List Int)) (x8 : Int) (rec : (List Int) → Int → Option (List UInt8)) (k0 : (List Int) → Option (List UInt8)) : Option (List UInt8) :=
  cond (decide (x8 < x7))
  (cond (Go.Lift.inR x8 (List.length x6))
    (name_Join_p2 N out x8 (List.getD x6 (Int.toNat x8) ([] : List UInt8)) x6 x7 x8
      (fun out1 => cond (decide ((((List.length out1) + (List.length (Go.Lift.ofStr (List.getD x6 (Int.toNat x8) ([] : List UInt8))))) * 1) ≤ 70368744177664))
        (rec (out1 ++ (Go.Lift.ofStr (List.getD x6 (Int.toNat x8) ([] : List UInt8)))) (Go.IntKind.wrap Go.IntKind.i64 (x8 + (1 : Int))))
        (none)))
    (none))
  (k0 out)

noncomputable def name_Join_p1 (N : Nat) (out : (List Int)) (x6 : (List (List UInt8))) (x7 : Int) (x8 : Int) (k0 : (List Int) → Option (List UInt8)) : Option (List UInt8) :=
  iter (fun (v : ((List Int) × Int)) r => name_Join_s1 N x6 x7 v.1 v.2 (fun out x8 => (r (out, x8))) k0) N (out, x8)

noncomputable def name_Join_g1 (N : Nat) (i : ((List (List UInt8)) × Int)) (v : ((List Int) × Int)) (r : ((List Int) × Int) → Option (List UInt8)) (K : Ex → List A → Option (List UInt8)) : Option (List UInt8) :=
  name_Join_s1 N i.1 i.2 v.1 v.2 (fun out x8 => (r (out, x8))) (fun a0 => (K (.exit 0) (mkS [(3, .row (.int .u8))] 20 (a0, ()))))

noncomputable def name_Join_h1 (N : Nat) : Hd (List UInt8) := fun st K => (unS [(3, .row (.int .u8)), (2, .v (.sl .str)), (0, .v (.int .i64)), (0, .v (.int .i64))] 15 (restr [8, 7, 6, 3] 0 st)).bind fun x => iter (fun v r => name_Join_g1 N ((fun x => (x.2.1, x.2.2.1)) x) v r K) N ((fun x => (x.1, x.2.2.2.1)) x)

noncomputable def name_Join_t1 (N : Nat) : Tab (List UInt8) := [([0, 1, 0, 0, 1, 1, 0, 0, 1, 0, 1, 1], name_Join_h2 N)]

theorem name_Join_ok1 {N : Nat} {c : Ctx} (hb : Base Go.Proofs.Try.prog (name_Join_E N) c) : CodeOk Go.Proofs.Try.prog c (nodeAt name_Join_body [0, 1, 0, 1, 1]) (name_Join_h1 N) :=
  loop_ok (s := [(3, .row (.int .u8)), (2, .v (.sl .str)), (0, .v (.int .i64)), (0, .v (.int .i64))]) (m := 15) (name_Join_g1 N) [8, 7, 6, 3] N (fun x => (x.2.1, x.2.2.1)) (fun x => (x.1, x.2.2.2.1)) (fun i v => (v.1, i.1, i.2, v.2, ())) (fun _ => rfl) (evN_sound hb N (name_Join_t1 N) name_Join_L name_Join_body (TabOk.cons (name_Join_ok2 hb) TabOk.nil) [0, 0, 1, 0, 1, 1] _ rfl) (fun i v r K => by kernel_rfl)

noncomputable def name_Join (N : Nat) (l : (List (List UInt8))) : Option (List UInt8) :=
  name_Join_p1 N ([] : List Int) l (((List.length l) : Nat) : Int) (0 : Int)
  (fun out => some (Go.Lift.toStr out))

noncomputable def name_Join_t (N : Nat) : Tab (List UInt8) := [([0, 1, 0, 1, 1], name_Join_h1 N)]

theorem name_Join_link (N : Nat) (x : denS [(0, .v (.sl .str))]) : evFX (name_Join_E N) N (name_Join_t N) name_Join_L Go.Proofs.Try.f17 (mkS [(0, .v (.sl .str))] 0 x) (kRes (.v .str) 1) = name_Join N x.1 := by kernel_rfl

noncomputable def name_Join_res (N : Nat) : List A → Res := resOf [(0, .v (.sl .str))] (fun x => name_Join N x.1) (oRes (.v .str) 1)

theorem name_Join_ct (N : Nat) : Contract Go.Proofs.Try.prog noGlob 17 (name_Join_res N) :=
  Contract.of (E := name_Join_E N) (H := name_Join_t N) (L := name_Join_L) (N := N) (body := name_Join_body) (K := (kRes (.v .str) 1)) (name_Join_Eok N) Go.Proofs.Try.func17 (by kernel_rfl) (by decide) (fun _ hb => (TabOk.cons (name_Join_ok1 hb) TabOk.nil)) (fun x y h => by rw [name_Join_link]; exact h) (kRes_ok (s := (.v .str)) (m := 1))

abbrev porterlaw09_works_R : Type := Bool

noncomputable def porterlaw09_works_body : Code := (Go.Proofs.Try.f6.body).getD .skip

noncomputable def porterlaw09_works_L : List (List Nat × List Nat) := [([0], []), ([0, 1], [1, 2]), ([0, 1, 1], [1, 2, 4]), ([0, 1, 1, 1], [1, 2, 4, 5, 6]), ([0, 1, 1, 1, 1], [0]), ([1, 1, 1, 1, 1], [0])]

noncomputable def porterlaw09_works_E (N : Nat) : Env := mkEnv tys noGlob [(17, name_Join_res N), (8, name_Label_res N), (7, name_Cut_res N), (14, name_Words_res N), (10, name_Word_res N)] [] [] [] false

theorem porterlaw09_works_Eok (N : Nat) : EnvOk Go.Proofs.Try.prog (porterlaw09_works_E N) := mkEnv_ok mixed tys_ok (FnsOk.cons (name_Join_ct N) (FnsOk.cons (name_Label_ct N) (FnsOk.cons (name_Cut_ct N) (FnsOk.cons (name_Words_ct N) (FnsOk.cons (name_Word_ct N) (FnsOk.nil))))))

noncomputable def porterlaw09_works (N : Nat) : Option Bool :=
  (name_Words N ([(97 : UInt8), (32 : UInt8), (98 : UInt8)] : List UInt8)).bind fun y =>
  (name_Words N ([(97 : UInt8), (32 : UInt8), (32 : UInt8), (98 : UInt8)] : List UInt8)).bind fun y1 =>
  (name_Cut N ([(43 : UInt8), (97 : UInt8), (95 : UInt8), (49 : UInt8), (61 : UInt8)] : List UInt8) (1 : Int)).bind fun y2 =>
  (name_Label N ([(97 : UInt8), (95 : UInt8), (49 : UInt8)] : List UInt8)).bind fun y3 =>
  cond y3
  ((name_Word N ([(97 : UInt8), (95 : UInt8), (49 : UInt8)] : List UInt8)).bind fun y4 =>
    cond (!y4)
    ((name_Word N ([(97 : UInt8), (45 : UInt8), (49 : UInt8)] : List UInt8)).bind fun y5 =>
      cond y5
      (cond ((((List.length y.1) : Nat) : Int) == (2 : Int))
        (cond y.2.1
          (cond (!y1.2.1)
            (cond (y2.1 == ([(97 : UInt8), (95 : UInt8), (49 : UInt8)] : List UInt8))
              (cond (y2.2.1 == (4 : Int))
                ((name_Join N y.1).bind fun y6 =>
                  some (y6 == ([(97 : UInt8), (32 : UInt8), (98 : UInt8)] : List UInt8)))
                (some false))
              (some false))
            (some false))
          (some false))
        (some false))
      (some false))
    (some false))
  (some false)

noncomputable def porterlaw09_works_t (N : Nat) : Tab Bool := []

theorem porterlaw09_works_link (N : Nat) (x : denS []) : evFX (porterlaw09_works_E N) N (porterlaw09_works_t N) porterlaw09_works_L Go.Proofs.Try.f6 (mkS [] 0 x) (kRes (.v .bool) 0) = porterlaw09_works N := by kernel_rfl

noncomputable def porterlaw09_works_res (N : Nat) : List A → Res := resOf [] (fun x => porterlaw09_works N) (oRes (.v .bool) 0)

theorem porterlaw09_works_ct (N : Nat) : Contract Go.Proofs.Try.prog noGlob 6 (porterlaw09_works_res N) :=
  Contract.of (E := porterlaw09_works_E N) (H := porterlaw09_works_t N) (L := porterlaw09_works_L) (N := N) (body := porterlaw09_works_body) (K := (kRes (.v .bool) 0)) (porterlaw09_works_Eok N) Go.Proofs.Try.func6 (by kernel_rfl) (by decide) (fun _ hb => TabOk.nil) (fun x y h => by rw [porterlaw09_works_link]; exact h) (kRes_ok (s := (.v .bool)) (m := 0))

abbrev porterref09_sign_R : Type := Bool

noncomputable def porterref09_sign_body : Code := (Go.Proofs.Try.f21.body).getD .skip

noncomputable def porterref09_sign_L : List (List Nat × List Nat) := [([0], [0, 1]), ([0, 0, 1], [22, 1, 0]), ([1, 0, 1], [1, 0]), ([0, 0, 1, 0, 1], [4]), ([1, 0, 1, 0, 1], [4]), ([0, 1, 1], [4]), ([1, 1, 1], [4])]

noncomputable def porterref09_sign_E (N : Nat) : Env := mkEnv tys noGlob [] [] [] [] false

theorem porterref09_sign_Eok (N : Nat) : EnvOk Go.Proofs.Try.prog (porterref09_sign_E N) := mkEnv_ok mixed tys_ok (FnsOk.nil)

noncomputable def porterref09_sign_p2 (N : Nat) (b : Int) (first : Bool) (k0 : Bool → Option Bool) : Option Bool :=
  cond (b == (95 : Int))
  (k0 true)
  (cond (decide ((65 : Int) ≤ b))
    (cond (decide (b ≤ (90 : Int)))
      (k0 true)
      (cond (decide ((97 : Int) ≤ b))
        (k0 (decide (b ≤ (122 : Int))))
        (k0 false)))
    (cond (decide ((97 : Int) ≤ b))
      (k0 (decide (b ≤ (122 : Int))))
      (k0 false)))

noncomputable def porterref09_sign_g2 (N : Nat) (x : denS [(0, .v (.int .u8)), (0, .v .bool)]) (K : Ex → List A → Option Bool) : Option Bool :=
  porterref09_sign_p2 N x.1 x.2.1 (fun a2 => (K .normal (mkS [(0, .v (.int .u8)), (0, .v .bool), (20, .v .bool)] 10 (x.1, x.2.1, a2, ()))))

noncomputable def porterref09_sign_h2 (N : Nat) : Hd Bool := fun st K => (unS [(0, .v (.int .u8)), (0, .v .bool)] 31 (restr [0, 1] 0 st)).bind fun x => porterref09_sign_g2 N x K

noncomputable def porterref09_sign_t2 (N : Nat) : Tab Bool := []

theorem porterref09_sign_ok2 {N : Nat} {c : Ctx} (hb : Base Go.Proofs.Try.prog (porterref09_sign_E N) c) : CodeOk Go.Proofs.Try.prog c (nodeAt porterref09_sign_body [0, 0, 1]) (porterref09_sign_h2 N) :=
  piece_ok (s := [(0, .v (.int .u8)), (0, .v .bool)]) (m := 31) (g := porterref09_sign_g2 N) [0, 1] (evN_sound hb N (porterref09_sign_t2 N) porterref09_sign_L porterref09_sign_body TabOk.nil [0, 0, 1] _ rfl) (fun x K => by kernel_rfl)

noncomputable def porterref09_sign_p1 (N : Nat) (b : Int) (first : Bool) (k0 : Bool → Option Bool) (k1 : Option Bool) : Option Bool :=
  porterref09_sign_p2 N b first
  (fun x22 => cond x22
    (k0 true)
    (k1))

noncomputable def porterref09_sign_g1 (N : Nat) (x : denS [(0, .v (.int .u8)), (0, .v .bool)]) (K : Ex → List A → Option Bool) : Option Bool :=
  porterref09_sign_p1 N x.1 x.2.1 (fun a0 => (K .ret (mkS [(4, .v .bool)] 28 (a0, ())))) (K .normal (mkS [(0, .v (.int .u8)), (0, .v .bool)] 31 (x.1, x.2.1, ())))

noncomputable def porterref09_sign_h1 (N : Nat) : Hd Bool := fun st K => (unS [(0, .v (.int .u8)), (0, .v .bool)] 31 (restr [0, 1] 0 st)).bind fun x => porterref09_sign_g1 N x K

noncomputable def porterref09_sign_t1 (N : Nat) : Tab Bool := [([0, 0, 1], porterref09_sign_h2 N)]

theorem porterref09_sign_ok1 {N : Nat} {c : Ctx} (hb : Base Go.Proofs.Try.prog (porterref09_sign_E N) c) : CodeOk Go.Proofs.Try.prog c (nodeAt porterref09_sign_body [0, 1]) (porterref09_sign_h1 N) :=
  piece_ok (s := [(0, .v (.int .u8)), (0, .v .bool)]) (m := 31) (g := porterref09_sign_g1 N) [0, 1] (evN_sound hb N (porterref09_sign_t1 N) porterref09_sign_L porterref09_sign_body (TabOk.cons (porterref09_sign_ok2 hb) TabOk.nil) [0, 1] _ rfl) (fun x K => by kernel_rfl)

noncomputable def porterref09_sign (N : Nat) (b : Int) (first : Bool) : Option Bool :=
  porterref09_sign_p1 N b first
  (fun x4 => some x4)
  (cond (!first)
    (cond (decide ((48 : Int) ≤ b))
      (some (decide (b ≤ (57 : Int))))
      (some false))
    (some false))

noncomputable def porterref09_sign_t (N : Nat) : Tab Bool := [([0, 1], porterref09_sign_h1 N)]

theorem porterref09_sign_link (N : Nat) (x : denS [(0, .v (.int .u8)), (0, .v .bool)]) : evFX (porterref09_sign_E N) N (porterref09_sign_t N) porterref09_sign_L Go.Proofs.Try.f21 (mkS [(0, .v (.int .u8)), (0, .v .bool)] 0 x) (kRes (.v .bool) 2) = porterref09_sign N x.1 x.2.1 := by kernel_rfl

noncomputable def porterref09_sign_res (N : Nat) : List A → Res := resOf [(0, .v (.int .u8)), (0, .v .bool)] (fun x => porterref09_sign N x.1 x.2.1) (oRes (.v .bool) 2)

theorem porterref09_sign_ct (N : Nat) : Contract Go.Proofs.Try.prog noGlob 21 (porterref09_sign_res N) :=
  Contract.of (E := porterref09_sign_E N) (H := porterref09_sign_t N) (L := porterref09_sign_L) (N := N) (body := porterref09_sign_body) (K := (kRes (.v .bool) 2)) (porterref09_sign_Eok N) Go.Proofs.Try.func21 (by kernel_rfl) (by decide) (fun _ hb => (TabOk.cons (porterref09_sign_ok1 hb) TabOk.nil)) (fun x y h => by rw [porterref09_sign_link]; exact h) (kRes_ok (s := (.v .bool)) (m := 2))

abbrev porterref09_Label_R : Type := Bool

noncomputable def porterref09_Label_body : Code := (Go.Proofs.Try.f9.body).getD .skip

noncomputable def porterref09_Label_L : List (List Nat × List Nat) := [([0], [0]), ([0, 0, 1], [11, 0]), ([1, 0, 1], [0]), ([0, 0, 1, 0, 1], [2]), ([1, 0, 1, 0, 1], [2]), ([0, 0, 1, 1], [3, 0]), ([0, 1, 0, 1, 1], [3, 0]), ([0, 0, 0, 0, 1, 0, 1, 1], [15, 0, 3]), ([1, 0, 0, 0, 1, 0, 1, 1], [0, 3]), ([1, 1, 0, 0, 0, 1, 0, 1, 1], []), ([0, 0, 0, 1, 0, 0, 1, 0, 1, 1], [24, 3, 0]), ([1, 0, 0, 1, 0, 0, 1, 0, 1, 1], [3, 0]), ([0, 0, 1, 0, 0, 1, 0, 0, 1, 0, 1, 1], [2]), ([1, 0, 1, 0, 0, 1, 0, 0, 1, 0, 1, 1], [2]), ([0, 1, 0, 0, 1, 0, 1, 1], [3, 0]), ([1, 1, 0, 0, 1, 0, 1, 1], [3, 0]), ([1, 0, 1, 1], []), ([0, 1, 1, 1], [2]), ([1, 1, 1, 1], [2])]

noncomputable def porterref09_Label_E (N : Nat) : Env := mkEnv tys noGlob [(21, porterref09_sign_res N)] [] [] [] false

theorem porterref09_Label_Eok (N : Nat) : EnvOk Go.Proofs.Try.prog (porterref09_Label_E N) := mkEnv_ok mixed tys_ok (FnsOk.cons (porterref09_sign_ct N) (FnsOk.nil))

noncomputable def porterref09_Label_p2 (N : Nat) (s : (List UInt8)) (k0 : Bool → Option Bool) : Option Bool :=
  cond (decide ((((List.length s) : Nat) : Int) < (1 : Int)))
  (k0 true)
  (k0 (decide ((32 : Int) < (((List.length s) : Nat) : Int))))

noncomputable def porterref09_Label_g2 (N : Nat) (x : denS [(0, .v .str)]) (K : Ex → List A → Option Bool) : Option Bool :=
  porterref09_Label_p2 N x.1 (fun a1 => (K .normal (mkS [(0, .v .str), (10, .v .bool)] 13 (x.1, a1, ()))))

noncomputable def porterref09_Label_h2 (N : Nat) : Hd Bool := fun st K => (unS [(0, .v .str)] 24 (restr [0] 0 st)).bind fun x => porterref09_Label_g2 N x K

noncomputable def porterref09_Label_t2 (N : Nat) : Tab Bool := []

theorem porterref09_Label_ok2 {N : Nat} {c : Ctx} (hb : Base Go.Proofs.Try.prog (porterref09_Label_E N) c) : CodeOk Go.Proofs.Try.prog c (nodeAt porterref09_Label_body [0, 0, 1]) (porterref09_Label_h2 N) :=
  piece_ok (s := [(0, .v .str)]) (m := 24) (g := porterref09_Label_g2 N) [0] (evN_sound hb N (porterref09_Label_t2 N) porterref09_Label_L porterref09_Label_body TabOk.nil [0, 0, 1] _ rfl) (fun x K => by kernel_rfl)

noncomputable def porterref09_Label_p1 (N : Nat) (s : (List UInt8)) (k0 : Bool → Option Bool) (k1 : Option Bool) : Option Bool :=
  porterref09_Label_p2 N s
  (fun x11 => cond x11
    (k0 false)
    (k1))

noncomputable def porterref09_Label_g1 (N : Nat) (x : denS [(0, .v .str)]) (K : Ex → List A → Option Bool) : Option Bool :=
  porterref09_Label_p1 N x.1 (fun a0 => (K .ret (mkS [(2, .v .bool)] 22 (a0, ())))) (K .normal (mkS [(0, .v .str)] 24 (x.1, ())))

noncomputable def porterref09_Label_h1 (N : Nat) : Hd Bool := fun st K => (unS [(0, .v .str)] 24 (restr [0] 0 st)).bind fun x => porterref09_Label_g1 N x K

noncomputable def porterref09_Label_t1 (N : Nat) : Tab Bool := [([0, 0, 1], porterref09_Label_h2 N)]

theorem porterref09_Label_ok1 {N : Nat} {c : Ctx} (hb : Base Go.Proofs.Try.prog (porterref09_Label_E N) c) : CodeOk Go.Proofs.Try.prog c (nodeAt porterref09_Label_body [0, 1]) (porterref09_Label_h1 N) :=
  piece_ok (s := [(0, .v .str)]) (m := 24) (g := porterref09_Label_g1 N) [0] (evN_sound hb N (porterref09_Label_t1 N) porterref09_Label_L porterref09_Label_body (TabOk.cons (porterref09_Label_ok2 hb) TabOk.nil) [0, 1] _ rfl) (fun x K => by kernel_rfl)

noncomputable def porterref09_Label_s3 (N : Nat) (s : (List UInt8)) (i : Int) (rec : Int → Option Bool) (k0 : Bool → Option Bool) (k1 : Option Bool) : Option Bool :=
  cond (decide (i < (((List.length s) : Nat) : Int)))
  (cond (Go.Lift.inR i (List.length s))
    ((porterref09_sign N (((UInt8.toNat (List.getD s (Int.toNat i) (0 : UInt8))) : Nat) : Int) (i == (0 : Int))).bind fun y =>
      cond (!y)
      (k0 false)
      (rec (Go.IntKind.wrap Go.IntKind.i64 (i + (1 : Int)))))
    (none))
  (k1)

noncomputable def porterref09_Label_p3 (N : Nat) (s : (List UInt8)) (i : Int) (k0 : Bool → Option Bool) (k1 : Option Bool) : Option Bool :=
  iter (fun (v : Int) r => porterref09_Label_s3 N s v (fun i => (r i)) k0 k1) N i

noncomputable def porterref09_Label_g3 (N : Nat) (i : (List UInt8)) (v : Int) (r : Int → Option Bool) (K : Ex → List A → Option Bool) : Option Bool :=
  porterref09_Label_s3 N i v (fun i => (r i)) (fun a0 => (K .ret (mkS [(2, .v .bool)] 22 (a0, ())))) (K (.exit 0) (mkS [] 25 ()))

noncomputable def porterref09_Label_h3 (N : Nat) : Hd Bool := fun st K => (unS [(0, .v .str), (2, .v (.int .i64))] 21 (restr [3, 0] 0 st)).bind fun x => iter (fun v r => porterref09_Label_g3 N ((fun x => x.1) x) v r K) N ((fun x => x.2.1) x)

noncomputable def porterref09_Label_t3 (N : Nat) : Tab Bool := []

theorem porterref09_Label_ok3 {N : Nat} {c : Ctx} (hb : Base Go.Proofs.Try.prog (porterref09_Label_E N) c) : CodeOk Go.Proofs.Try.prog c (nodeAt porterref09_Label_body [0, 1, 0, 1, 1]) (porterref09_Label_h3 N) :=
  loop_ok (s := [(0, .v .str), (2, .v (.int .i64))]) (m := 21) (porterref09_Label_g3 N) [3, 0] N (fun x => x.1) (fun x => x.2.1) (fun i v => (i, v, ())) (fun _ => rfl) (evN_sound hb N (porterref09_Label_t3 N) porterref09_Label_L porterref09_Label_body TabOk.nil [0, 0, 1, 0, 1, 1] _ rfl) (fun i v r K => by kernel_rfl)

noncomputable def porterref09_Label (N : Nat) (s : (List UInt8)) : Option Bool :=
  porterref09_Label_p1 N s
  (fun x2 => some x2)
  (porterref09_Label_p3 N s (0 : Int)
    (fun x21 => some x21)
    (some true))

noncomputable def porterref09_Label_t (N : Nat) : Tab Bool := [([0, 1], porterref09_Label_h1 N), ([0, 1, 0, 1, 1], porterref09_Label_h3 N)]

theorem porterref09_Label_link (N : Nat) (x : denS [(0, .v .str)]) : evFX (porterref09_Label_E N) N (porterref09_Label_t N) porterref09_Label_L Go.Proofs.Try.f9 (mkS [(0, .v .str)] 0 x) (kRes (.v .bool) 1) = porterref09_Label N x.1 := by kernel_rfl

noncomputable def porterref09_Label_res (N : Nat) : List A → Res := resOf [(0, .v .str)] (fun x => porterref09_Label N x.1) (oRes (.v .bool) 1)

theorem porterref09_Label_ct (N : Nat) : Contract Go.Proofs.Try.prog noGlob 9 (porterref09_Label_res N) :=
  Contract.of (E := porterref09_Label_E N) (H := porterref09_Label_t N) (L := porterref09_Label_L) (N := N) (body := porterref09_Label_body) (K := (kRes (.v .bool) 1)) (porterref09_Label_Eok N) Go.Proofs.Try.func9 (by kernel_rfl) (by decide) (fun _ hb => (TabOk.cons (porterref09_Label_ok1 hb) (TabOk.cons (porterref09_Label_ok3 hb) TabOk.nil))) (fun x y h => by rw [porterref09_Label_link]; exact h) (kRes_ok (s := (.v .bool)) (m := 1))

abbrev porterref09_Word_R : Type := Bool

noncomputable def porterref09_Word_body : Code := (Go.Proofs.Try.f11.body).getD .skip

noncomputable def porterref09_Word_L : List (List Nat × List Nat) := [([0], [0]), ([0, 0, 1], [13, 0]), ([1, 0, 1], [0]), ([0, 0, 1, 0, 1], [2]), ([1, 0, 1, 0, 1], [2]), ([0, 0, 1, 1], [3, 0]), ([0, 1, 0, 1, 1], [3, 0]), ([0, 0, 0, 0, 1, 0, 1, 1], [17, 0, 3]), ([1, 0, 0, 0, 1, 0, 1, 1], [0, 3]), ([1, 1, 0, 0, 0, 1, 0, 1, 1], []), ([0, 0, 0, 1, 0, 0, 1, 0, 1, 1], [0, 3, 4]), ([0, 1, 0, 0, 1, 0, 0, 1, 0, 1, 1], [4, 3, 5, 0]), ([0, 1, 1, 0, 0, 1, 0, 0, 1, 0, 1, 1], [55, 3, 0]), ([1, 1, 1, 0, 0, 1, 0, 0, 1, 0, 1, 1], [3, 0]), ([0, 0, 1, 1, 1, 0, 0, 1, 0, 0, 1, 0, 1, 1], [2]), ([1, 0, 1, 1, 1, 0, 0, 1, 0, 0, 1, 0, 1, 1], [2]), ([0, 1, 0, 0, 1, 0, 1, 1], [3, 0]), ([1, 1, 0, 0, 1, 0, 1, 1], [3, 0]), ([1, 0, 1, 1], []), ([0, 1, 1, 1], [2]), ([1, 1, 1, 1], [2])]

noncomputable def porterref09_Word_E (N : Nat) : Env := mkEnv tys noGlob [] [] [] [] false

theorem porterref09_Word_Eok (N : Nat) : EnvOk Go.Proofs.Try.prog (porterref09_Word_E N) := mkEnv_ok mixed tys_ok (FnsOk.nil)

noncomputable def porterref09_Word_p2 (N : Nat) (s : (List UInt8)) (k0 : Bool → Option Bool) : Option Bool :=
  cond (decide ((((List.length s) : Nat) : Int) < (1 : Int)))
  (k0 true)
  (k0 (decide ((32 : Int) < (((List.length s) : Nat) : Int))))

noncomputable def porterref09_Word_g2 (N : Nat) (x : denS [(0, .v .str)]) (K : Ex → List A → Option Bool) : Option Bool :=
  porterref09_Word_p2 N x.1 (fun a1 => (K .normal (mkS [(0, .v .str), (12, .v .bool)] 42 (x.1, a1, ()))))

noncomputable def porterref09_Word_h2 (N : Nat) : Hd Bool := fun st K => (unS [(0, .v .str)] 55 (restr [0] 0 st)).bind fun x => porterref09_Word_g2 N x K

noncomputable def porterref09_Word_t2 (N : Nat) : Tab Bool := []

theorem porterref09_Word_ok2 {N : Nat} {c : Ctx} (hb : Base Go.Proofs.Try.prog (porterref09_Word_E N) c) : CodeOk Go.Proofs.Try.prog c (nodeAt porterref09_Word_body [0, 0, 1]) (porterref09_Word_h2 N) :=
  piece_ok (s := [(0, .v .str)]) (m := 55) (g := porterref09_Word_g2 N) [0] (evN_sound hb N (porterref09_Word_t2 N) porterref09_Word_L porterref09_Word_body TabOk.nil [0, 0, 1] _ rfl) (fun x K => by kernel_rfl)

noncomputable def porterref09_Word_p1 (N : Nat) (s : (List UInt8)) (k0 : Bool → Option Bool) (k1 : Option Bool) : Option Bool :=
  porterref09_Word_p2 N s
  (fun x13 => cond x13
    (k0 false)
    (k1))

noncomputable def porterref09_Word_g1 (N : Nat) (x : denS [(0, .v .str)]) (K : Ex → List A → Option Bool) : Option Bool :=
  porterref09_Word_p1 N x.1 (fun a0 => (K .ret (mkS [(2, .v .bool)] 53 (a0, ())))) (K .normal (mkS [(0, .v .str)] 55 (x.1, ())))

noncomputable def porterref09_Word_h1 (N : Nat) : Hd Bool := fun st K => (unS [(0, .v .str)] 55 (restr [0] 0 st)).bind fun x => porterref09_Word_g1 N x K

noncomputable def porterref09_Word_t1 (N : Nat) : Tab Bool := [([0, 0, 1], porterref09_Word_h2 N)]

theorem porterref09_Word_ok1 {N : Nat} {c : Ctx} (hb : Base Go.Proofs.Try.prog (porterref09_Word_E N) c) : CodeOk Go.Proofs.Try.prog c (nodeAt porterref09_Word_body [0, 1]) (porterref09_Word_h1 N) :=
  piece_ok (s := [(0, .v .str)]) (m := 55) (g := porterref09_Word_g1 N) [0] (evN_sound hb N (porterref09_Word_t1 N) porterref09_Word_L porterref09_Word_body (TabOk.cons (porterref09_Word_ok2 hb) TabOk.nil) [0, 1] _ rfl) (fun x K => by kernel_rfl)

noncomputable def porterref09_Word_p5 (N : Nat) (s : (List UInt8)) (i : Int) (k0 : Bool → Option Bool) : Option Bool :=
  cond (Go.Lift.inR i (List.length s))
  (cond (decide ((97 : Int) ≤ (((UInt8.toNat (List.getD s (Int.toNat i) (0 : UInt8))) : Nat) : Int)))
    (cond (Go.Lift.inR i (List.length s))
      (k0 (decide ((((UInt8.toNat (List.getD s (Int.toNat i) (0 : UInt8))) : Nat) : Int) ≤ (122 : Int))))
      (none))
    (k0 false))
  (none)

noncomputable def porterref09_Word_g5 (N : Nat) (x : denS [(0, .v .str), (2, .v (.int .i64))]) (K : Ex → List A → Option Bool) : Option Bool :=
  porterref09_Word_p5 N x.1 x.2.1 (fun a2 => (K .normal (mkS [(0, .v .str), (2, .v (.int .i64)), (0, .v .bool)] 51 (x.1, x.2.1, a2, ()))))

noncomputable def porterref09_Word_h5 (N : Nat) : Hd Bool := fun st K => (unS [(0, .v .str), (2, .v (.int .i64))] 52 (restr [0, 3] 0 st)).bind fun x => porterref09_Word_g5 N x K

noncomputable def porterref09_Word_t5 (N : Nat) : Tab Bool := []

theorem porterref09_Word_ok5 {N : Nat} {c : Ctx} (hb : Base Go.Proofs.Try.prog (porterref09_Word_E N) c) : CodeOk Go.Proofs.Try.prog c (nodeAt porterref09_Word_body [0, 0, 0, 1, 0, 0, 1, 0, 1, 1]) (porterref09_Word_h5 N) :=
  piece_ok (s := [(0, .v .str), (2, .v (.int .i64))]) (m := 52) (g := porterref09_Word_g5 N) [0, 3] (evN_sound hb N (porterref09_Word_t5 N) porterref09_Word_L porterref09_Word_body TabOk.nil [0, 0, 0, 1, 0, 0, 1, 0, 1, 1] _ rfl) (fun x K => by kernel_rfl)

noncomputable def porterref09_Word_p6 (N : Nat) (s : (List UInt8)) (i : Int) (small : Bool) (k0 : Bool → Option Bool) : Option Bool :=
  cond (Go.Lift.inR i (List.length s))
  (cond ((((UInt8.toNat (List.getD s (Int.toNat i) (0 : UInt8))) : Nat) : Int) == (45 : Int))
    (k0 true)
    (cond (Go.Lift.inR i (List.length s))
      (cond (decide ((48 : Int) ≤ (((UInt8.toNat (List.getD s (Int.toNat i) (0 : UInt8))) : Nat) : Int)))
        (cond (Go.Lift.inR i (List.length s))
          (k0 (decide ((((UInt8.toNat (List.getD s (Int.toNat i) (0 : UInt8))) : Nat) : Int) ≤ (57 : Int))))
          (none))
        (k0 false))
      (none)))
  (none)

noncomputable def porterref09_Word_g6 (N : Nat) (x : denS [(0, .v .str), (2, .v (.int .i64)), (0, .v .bool)]) (K : Ex → List A → Option Bool) : Option Bool :=
  porterref09_Word_p6 N x.1 x.2.1 x.2.2.1 (fun a3 => (K .normal (mkS [(0, .v .str), (2, .v (.int .i64)), (0, .v .bool), (0, .v .bool)] 50 (x.1, x.2.1, x.2.2.1, a3, ()))))

noncomputable def porterref09_Word_h6 (N : Nat) : Hd Bool := fun st K => (unS [(0, .v .str), (2, .v (.int .i64)), (0, .v .bool)] 51 (restr [0, 3, 4] 0 st)).bind fun x => porterref09_Word_g6 N x K

noncomputable def porterref09_Word_t6 (N : Nat) : Tab Bool := []

theorem porterref09_Word_ok6 {N : Nat} {c : Ctx} (hb : Base Go.Proofs.Try.prog (porterref09_Word_E N) c) : CodeOk Go.Proofs.Try.prog c (nodeAt porterref09_Word_body [0, 1, 0, 0, 1, 0, 0, 1, 0, 1, 1]) (porterref09_Word_h6 N) :=
  piece_ok (s := [(0, .v .str), (2, .v (.int .i64)), (0, .v .bool)]) (m := 51) (g := porterref09_Word_g6 N) [0, 3, 4] (evN_sound hb N (porterref09_Word_t6 N) porterref09_Word_L porterref09_Word_body TabOk.nil [0, 1, 0, 0, 1, 0, 0, 1, 0, 1, 1] _ rfl) (fun x K => by kernel_rfl)

noncomputable def porterref09_Word_p7 (N : Nat) (s : (List UInt8)) (i : Int) (small : Bool) (other : Bool) (k0 : Bool → Option Bool) : Option Bool :=
  cond (!small)
  (cond (i == (0 : Int))
    (k0 true)
    (k0 (!other)))
  (k0 false)

noncomputable def porterref09_Word_g7 (N : Nat) (x : denS [(0, .v .str), (2, .v (.int .i64)), (0, .v .bool), (0, .v .bool)]) (K : Ex → List A → Option Bool) : Option Bool :=
  porterref09_Word_p7 N x.1 x.2.1 x.2.2.1 x.2.2.2.1 (fun a2 => (K .normal (mkS [(0, .v .str), (2, .v (.int .i64)), (51, .v .bool)] 0 (x.1, x.2.1, a2, ()))))

noncomputable def porterref09_Word_h7 (N : Nat) : Hd Bool := fun st K => (unS [(0, .v .str), (2, .v (.int .i64)), (0, .v .bool), (0, .v .bool)] 50 (restr [4, 3, 5, 0] 0 st)).bind fun x => porterref09_Word_g7 N x K

noncomputable def porterref09_Word_t7 (N : Nat) : Tab Bool := []

theorem porterref09_Word_ok7 {N : Nat} {c : Ctx} (hb : Base Go.Proofs.Try.prog (porterref09_Word_E N) c) : CodeOk Go.Proofs.Try.prog c (nodeAt porterref09_Word_body [0, 1, 1, 0, 0, 1, 0, 0, 1, 0, 1, 1]) (porterref09_Word_h7 N) :=
  piece_ok (s := [(0, .v .str), (2, .v (.int .i64)), (0, .v .bool), (0, .v .bool)]) (m := 50) (g := porterref09_Word_g7 N) [4, 3, 5, 0] (evN_sound hb N (porterref09_Word_t7 N) porterref09_Word_L porterref09_Word_body TabOk.nil [0, 1, 1, 0, 0, 1, 0, 0, 1, 0, 1, 1] _ rfl) (fun x K => by kernel_rfl)

noncomputable def porterref09_Word_p4 (N : Nat) (s : (List UInt8)) (i : Int) (k0 : Bool → Option Bool) (k1 : Option Bool) : Option Bool :=
  porterref09_Word_p5 N s i
  (fun small => porterref09_Word_p6 N s i small
    (fun other => porterref09_Word_p7 N s i small other
      (fun x55 => cond x55
        (k0 false)
        (k1))))

noncomputable def porterref09_Word_g4 (N : Nat) (x : denS [(0, .v .str), (2, .v (.int .i64))]) (K : Ex → List A → Option Bool) : Option Bool :=
  porterref09_Word_p4 N x.1 x.2.1 (fun a0 => (K .ret (mkS [(2, .v .bool)] 53 (a0, ())))) (K .normal (mkS [(0, .v .str), (2, .v (.int .i64))] 52 (x.1, x.2.1, ())))

noncomputable def porterref09_Word_h4 (N : Nat) : Hd Bool := fun st K => (unS [(0, .v .str), (2, .v (.int .i64))] 52 (restr [0, 3] 0 st)).bind fun x => porterref09_Word_g4 N x K

noncomputable def porterref09_Word_t4 (N : Nat) : Tab Bool := [([0, 0, 0, 1, 0, 0, 1, 0, 1, 1], porterref09_Word_h5 N), ([0, 1, 0, 0, 1, 0, 0, 1, 0, 1, 1], porterref09_Word_h6 N), ([0, 1, 1, 0, 0, 1, 0, 0, 1, 0, 1, 1], porterref09_Word_h7 N)]

theorem porterref09_Word_ok4 {N : Nat} {c : Ctx} (hb : Base Go.Proofs.Try.prog (porterref09_Word_E N) c) : CodeOk Go.Proofs.Try.prog c (nodeAt porterref09_Word_body [0, 1, 0, 0, 1, 0, 1, 1]) (porterref09_Word_h4 N) :=
  piece_ok (s := [(0, .v .str), (2, .v (.int .i64))]) (m := 52) (g := porterref09_Word_g4 N) [0, 3] (evN_sound hb N (porterref09_Word_t4 N) porterref09_Word_L porterref09_Word_body (TabOk.cons (porterref09_Word_ok5 hb) (TabOk.cons (porterref09_Word_ok6 hb) (TabOk.cons (porterref09_Word_ok7 hb) TabOk.nil))) [0, 1, 0, 0, 1, 0, 1, 1] _ rfl) (fun x K => by kernel_rfl)

noncomputable def porterref09_Word_s3 (N : Nat) (s : (List UInt8)) (i : Int) (rec : Int → Option Bool) (k0 : Bool → Option Bool) (k1 : Option Bool) : Option Bool :=
  cond (decide (i < (((List.length s) : Nat) : Int)))
  (porterref09_Word_p4 N s i
    (fun x2 => k0 x2)
    (rec (Go.IntKind.wrap Go.IntKind.i64 (i + (1 : Int)))))
  (k1)

noncomputable def porterref09_Word_p3 (N : Nat) (s : (List UInt8)) (i : Int) (k0 : Bool → Option Bool) (k1 : Option Bool) : Option Bool :=
  iter (fun (v : Int) r => porterref09_Word_s3 N s v (fun i => (r i)) k0 k1) N i

noncomputable def porterref09_Word_g3 (N : Nat) (i : (List UInt8)) (v : Int) (r : Int → Option Bool) (K : Ex → List A → Option Bool) : Option Bool :=
  porterref09_Word_s3 N i v (fun i => (r i)) (fun a0 => (K .ret (mkS [(2, .v .bool)] 53 (a0, ())))) (K (.exit 0) (mkS [] 56 ()))

noncomputable def porterref09_Word_h3 (N : Nat) : Hd Bool := fun st K => (unS [(0, .v .str), (2, .v (.int .i64))] 52 (restr [3, 0] 0 st)).bind fun x => iter (fun v r => porterref09_Word_g3 N ((fun x => x.1) x) v r K) N ((fun x => x.2.1) x)

noncomputable def porterref09_Word_t3 (N : Nat) : Tab Bool := [([0, 1, 0, 0, 1, 0, 1, 1], porterref09_Word_h4 N)]

theorem porterref09_Word_ok3 {N : Nat} {c : Ctx} (hb : Base Go.Proofs.Try.prog (porterref09_Word_E N) c) : CodeOk Go.Proofs.Try.prog c (nodeAt porterref09_Word_body [0, 1, 0, 1, 1]) (porterref09_Word_h3 N) :=
  loop_ok (s := [(0, .v .str), (2, .v (.int .i64))]) (m := 52) (porterref09_Word_g3 N) [3, 0] N (fun x => x.1) (fun x => x.2.1) (fun i v => (i, v, ())) (fun _ => rfl) (evN_sound hb N (porterref09_Word_t3 N) porterref09_Word_L porterref09_Word_body (TabOk.cons (porterref09_Word_ok4 hb) TabOk.nil) [0, 0, 1, 0, 1, 1] _ rfl) (fun i v r K => by kernel_rfl)

noncomputable def porterref09_Word (N : Nat) (s : (List UInt8)) : Option Bool :=
  porterref09_Word_p1 N s
  (fun x2 => some x2)
  (porterref09_Word_p3 N s (0 : Int)
    (fun x21 => some x21)
    (some true))

noncomputable def porterref09_Word_t (N : Nat) : Tab Bool := [([0, 1], porterref09_Word_h1 N), ([0, 1, 0, 1, 1], porterref09_Word_h3 N)]

theorem porterref09_Word_link (N : Nat) (x : denS [(0, .v .str)]) : evFX (porterref09_Word_E N) N (porterref09_Word_t N) porterref09_Word_L Go.Proofs.Try.f11 (mkS [(0, .v .str)] 0 x) (kRes (.v .bool) 1) = porterref09_Word N x.1 := by kernel_rfl

noncomputable def porterref09_Word_res (N : Nat) : List A → Res := resOf [(0, .v .str)] (fun x => porterref09_Word N x.1) (oRes (.v .bool) 1)

theorem porterref09_Word_ct (N : Nat) : Contract Go.Proofs.Try.prog noGlob 11 (porterref09_Word_res N) :=
  Contract.of (E := porterref09_Word_E N) (H := porterref09_Word_t N) (L := porterref09_Word_L) (N := N) (body := porterref09_Word_body) (K := (kRes (.v .bool) 1)) (porterref09_Word_Eok N) Go.Proofs.Try.func11 (by kernel_rfl) (by decide) (fun _ hb => (TabOk.cons (porterref09_Word_ok1 hb) (TabOk.cons (porterref09_Word_ok3 hb) TabOk.nil))) (fun x y h => by rw [porterref09_Word_link]; exact h) (kRes_ok (s := (.v .bool)) (m := 1))

abbrev porterref09_Signs_R : Type := Int

noncomputable def porterref09_Signs_body : Code := (Go.Proofs.Try.f12.body).getD .skip

noncomputable def porterref09_Signs_L : List (List Nat × List Nat) := [([0], [1, 0]), ([0, 1], [1, 5, 0]), ([0, 0, 1, 1], [1, 5, 0]), ([0, 0, 0, 0, 0, 1, 1], [21, 5, 1, 0]), ([1, 0, 0, 0, 0, 1, 1], [5, 1, 0]), ([1, 1, 0, 0, 0, 0, 1, 1], [5]), ([0, 1, 0, 0, 0, 1, 1], [1, 5, 0]), ([1, 0, 0, 0, 1, 1], [1, 5, 0]), ([0, 1, 1], [5]), ([0, 1, 1, 1], [4]), ([1, 1, 1, 1], [4])]

noncomputable def porterref09_Signs_E (N : Nat) : Env := mkEnv tys noGlob [(21, porterref09_sign_res N)] [] [] [] false

theorem porterref09_Signs_Eok (N : Nat) : EnvOk Go.Proofs.Try.prog (porterref09_Signs_E N) := mkEnv_ok mixed tys_ok (FnsOk.cons (porterref09_sign_ct N) (FnsOk.nil))

noncomputable def porterref09_Signs_p2 (N : Nat) (s : (List UInt8)) (at_ : Int) (n : Int) (k0 : Option Int) (k1 : Option Int) : Option Int :=
  cond (decide ((Go.IntKind.wrap Go.IntKind.i64 (at_ + n)) < (((List.length s) : Nat) : Int)))
  (cond (Go.Lift.inR (Go.IntKind.wrap Go.IntKind.i64 (at_ + n)) (List.length s))
    ((porterref09_sign N (((UInt8.toNat (List.getD s (Int.toNat (Go.IntKind.wrap Go.IntKind.i64 (at_ + n))) (0 : UInt8))) : Nat) : Int) (n == (0 : Int))).bind fun y =>
      cond y
      (k0)
      (k1))
    (none))
  (k1)

noncomputable def porterref09_Signs_g2 (N : Nat) (x : denS [(0, .v .str), (0, .v (.int .i64)), (3, .v (.int .i64))]) (K : Ex → List A → Option Int) : Option Int :=
  porterref09_Signs_p2 N x.1 x.2.1 x.2.2.1 (K .normal (mkS [(0, .v .str), (0, .v (.int .i64)), (3, .v (.int .i64))] 19 (x.1, x.2.1, x.2.2.1, ()))) (K (.exit 0) (mkS [(5, .v (.int .i64))] 19 (x.2.2.1, ())))

noncomputable def porterref09_Signs_h2 (N : Nat) : Hd Int := fun st K => (unS [(0, .v .str), (0, .v (.int .i64)), (3, .v (.int .i64))] 19 (restr [1, 5, 0] 0 st)).bind fun x => porterref09_Signs_g2 N x K

noncomputable def porterref09_Signs_t2 (N : Nat) : Tab Int := []

theorem porterref09_Signs_ok2 {N : Nat} {c : Ctx} (hb : Base Go.Proofs.Try.prog (porterref09_Signs_E N) c) : CodeOk Go.Proofs.Try.prog c (nodeAt porterref09_Signs_body [0, 0, 0, 0, 1, 1]) (porterref09_Signs_h2 N) :=
  piece_ok (s := [(0, .v .str), (0, .v (.int .i64)), (3, .v (.int .i64))]) (m := 19) (g := porterref09_Signs_g2 N) [1, 5, 0] (evN_sound hb N (porterref09_Signs_t2 N) porterref09_Signs_L porterref09_Signs_body TabOk.nil [0, 0, 0, 0, 1, 1] _ rfl) (fun x K => by kernel_rfl)

noncomputable def porterref09_Signs_s1 (N : Nat) (s : (List UInt8)) (at_ : Int) (n : Int) (rec : Int → Option Int) (k0 : Int → Option Int) : Option Int :=
  porterref09_Signs_p2 N s at_ n
  (rec (Go.IntKind.wrap Go.IntKind.i64 (n + (1 : Int))))
  (k0 n)

noncomputable def porterref09_Signs_p1 (N : Nat) (s : (List UInt8)) (at_ : Int) (n : Int) (k0 : Int → Option Int) : Option Int :=
  iter (fun (v : Int) r => porterref09_Signs_s1 N s at_ v (fun n => (r n)) k0) N n

noncomputable def porterref09_Signs_g1 (N : Nat) (i : ((List UInt8) × Int)) (v : Int) (r : Int → Option Int) (K : Ex → List A → Option Int) : Option Int :=
  porterref09_Signs_s1 N i.1 i.2 v (fun n => (r n)) (fun a0 => (K (.exit 0) (mkS [(5, .v (.int .i64))] 19 (a0, ()))))

noncomputable def porterref09_Signs_h1 (N : Nat) : Hd Int := fun st K => (unS [(0, .v .str), (0, .v (.int .i64)), (3, .v (.int .i64))] 19 (restr [1, 5, 0] 0 st)).bind fun x => iter (fun v r => porterref09_Signs_g1 N ((fun x => (x.1, x.2.1)) x) v r K) N ((fun x => x.2.2.1) x)

noncomputable def porterref09_Signs_t1 (N : Nat) : Tab Int := [([0, 0, 0, 0, 1, 1], porterref09_Signs_h2 N)]

theorem porterref09_Signs_ok1 {N : Nat} {c : Ctx} (hb : Base Go.Proofs.Try.prog (porterref09_Signs_E N) c) : CodeOk Go.Proofs.Try.prog c (nodeAt porterref09_Signs_body [0, 0, 1, 1]) (porterref09_Signs_h1 N) :=
  loop_ok (s := [(0, .v .str), (0, .v (.int .i64)), (3, .v (.int .i64))]) (m := 19) (porterref09_Signs_g1 N) [1, 5, 0] N (fun x => (x.1, x.2.1)) (fun x => x.2.2.1) (fun i v => (i.1, i.2, v, ())) (fun _ => rfl) (evN_sound hb N (porterref09_Signs_t1 N) porterref09_Signs_L porterref09_Signs_body (TabOk.cons (porterref09_Signs_ok2 hb) TabOk.nil) [0, 0, 0, 1, 1] _ rfl) (fun i v r K => by kernel_rfl)

noncomputable def porterref09_Signs (N : Nat) (s : (List UInt8)) (at_ : Int) : Option Int :=
  porterref09_Signs_p1 N s at_ (0 : Int)
  (fun n => some n)

noncomputable def porterref09_Signs_t (N : Nat) : Tab Int := [([0, 0, 1, 1], porterref09_Signs_h1 N)]

theorem porterref09_Signs_link (N : Nat) (x : denS [(0, .v .str), (0, .v (.int .i64))]) : evFX (porterref09_Signs_E N) N (porterref09_Signs_t N) porterref09_Signs_L Go.Proofs.Try.f12 (mkS [(0, .v .str), (0, .v (.int .i64))] 0 x) (kRes (.v (.int .i64)) 2) = porterref09_Signs N x.1 x.2.1 := by kernel_rfl

noncomputable def porterref09_Signs_res (N : Nat) : List A → Res := resOf [(0, .v .str), (0, .v (.int .i64))] (fun x => porterref09_Signs N x.1 x.2.1) (oRes (.v (.int .i64)) 2)

theorem porterref09_Signs_ct (N : Nat) : Contract Go.Proofs.Try.prog noGlob 12 (porterref09_Signs_res N) :=
  Contract.of (E := porterref09_Signs_E N) (H := porterref09_Signs_t N) (L := porterref09_Signs_L) (N := N) (body := porterref09_Signs_body) (K := (kRes (.v (.int .i64)) 2)) (porterref09_Signs_Eok N) Go.Proofs.Try.func12 (by kernel_rfl) (by decide) (fun _ hb => (TabOk.cons (porterref09_Signs_ok1 hb) TabOk.nil)) (fun x y h => by rw [porterref09_Signs_link]; exact h) (kRes_ok (s := (.v (.int .i64))) (m := 2))

abbrev porterlaw09_NameTells_R : Type := Bool

noncomputable def porterlaw09_NameTells_body : Code := (Go.Proofs.Try.f3.body).getD .skip

noncomputable def porterlaw09_NameTells_L : List (List Nat × List Nat) := [([0], [0, 1]), ([0, 0, 1], [10, 0, 1]), ([1, 0, 1], [0, 1]), ([0, 0, 1, 0, 1], [4]), ([1, 0, 1, 0, 1], [4]), ([0, 1, 1], [0, 1, 5, 6]), ([0, 0, 1, 1, 1], [29, 1, 0, 5, 6]), ([1, 0, 1, 1, 1], [1, 0, 5, 6]), ([0, 0, 1, 0, 1, 1, 1], [4]), ([1, 0, 1, 0, 1, 1, 1], [4]), ([0, 0, 1, 1, 1, 1], [37, 5, 6, 0, 1]), ([1, 0, 1, 1, 1, 1], [0, 1, 5, 6]), ([0, 0, 1, 0, 1, 1, 1, 1], [4]), ([1, 0, 1, 0, 1, 1, 1, 1], [4]), ([0, 1, 1, 1, 1, 1], [5, 0, 1, 7, 6]), ([0, 1, 1, 1, 1, 1, 1], [4]), ([1, 1, 1, 1, 1, 1, 1], [4])]

noncomputable def porterlaw09_NameTells_E (N : Nat) : Env := mkEnv tys noGlob [(12, porterref09_Signs_res N), (11, porterref09_Word_res N), (9, porterref09_Label_res N), (6, porterlaw09_works_res N), (8, name_Label_res N), (7, name_Cut_res N), (10, name_Word_res N)] [] [] [] false

theorem porterlaw09_NameTells_Eok (N : Nat) : EnvOk Go.Proofs.Try.prog (porterlaw09_NameTells_E N) := mkEnv_ok mixed tys_ok (FnsOk.cons (porterref09_Signs_ct N) (FnsOk.cons (porterref09_Word_ct N) (FnsOk.cons (porterref09_Label_ct N) (FnsOk.cons (porterlaw09_works_ct N) (FnsOk.cons (name_Label_ct N) (FnsOk.cons (name_Cut_ct N) (FnsOk.cons (name_Word_ct N) (FnsOk.nil))))))))

noncomputable def porterlaw09_NameTells_p2 (N : Nat) (s : (List UInt8)) (at_ : Int) (c : (List UInt8)) (end_ : Int) (k0 : Bool → Option Bool) : Option Bool :=
  (name_Label N s).bind fun y =>
  (porterref09_Label N s).bind fun y1 =>
  cond (!(y == y1))
  (k0 true)
  ((name_Word N s).bind fun y2 =>
    (porterref09_Word N s).bind fun y3 =>
    k0 (!(y2 == y3)))

noncomputable def porterlaw09_NameTells_g2 (N : Nat) (x : denS [(0, .v .str), (0, .v (.int .i64)), (3, .v .str), (0, .v (.int .i64))]) (K : Ex → List A → Option Bool) : Option Bool :=
  porterlaw09_NameTells_p2 N x.1 x.2.1 x.2.2.1 x.2.2.2.1 (fun a4 => (K .normal (mkS [(0, .v .str), (0, .v (.int .i64)), (3, .v .str), (0, .v (.int .i64)), (22, .v .bool)] 38 (x.1, x.2.1, x.2.2.1, x.2.2.2.1, a4, ()))))

noncomputable def porterlaw09_NameTells_h2 (N : Nat) : Hd Bool := fun st K => (unS [(0, .v .str), (0, .v (.int .i64)), (3, .v .str), (0, .v (.int .i64))] 61 (restr [0, 1, 5, 6] 0 st)).bind fun x => porterlaw09_NameTells_g2 N x K

noncomputable def porterlaw09_NameTells_t2 (N : Nat) : Tab Bool := []

theorem porterlaw09_NameTells_ok2 {N : Nat} {c : Ctx} (hb : Base Go.Proofs.Try.prog (porterlaw09_NameTells_E N) c) : CodeOk Go.Proofs.Try.prog c (nodeAt porterlaw09_NameTells_body [0, 0, 1, 1, 1]) (porterlaw09_NameTells_h2 N) :=
  piece_ok (s := [(0, .v .str), (0, .v (.int .i64)), (3, .v .str), (0, .v (.int .i64))]) (m := 61) (g := porterlaw09_NameTells_g2 N) [0, 1, 5, 6] (evN_sound hb N (porterlaw09_NameTells_t2 N) porterlaw09_NameTells_L porterlaw09_NameTells_body TabOk.nil [0, 0, 1, 1, 1] _ rfl) (fun x K => by kernel_rfl)

noncomputable def porterlaw09_NameTells_p1 (N : Nat) (s : (List UInt8)) (at_ : Int) (c : (List UInt8)) (end_ : Int) (k0 : Bool → Option Bool) (k1 : Option Bool) : Option Bool :=
  porterlaw09_NameTells_p2 N s at_ c end_
  (fun x29 => cond x29
    (k0 false)
    (k1))

noncomputable def porterlaw09_NameTells_g1 (N : Nat) (x : denS [(0, .v .str), (0, .v (.int .i64)), (3, .v .str), (0, .v (.int .i64))]) (K : Ex → List A → Option Bool) : Option Bool :=
  porterlaw09_NameTells_p1 N x.1 x.2.1 x.2.2.1 x.2.2.2.1 (fun a0 => (K .ret (mkS [(4, .v .bool)] 63 (a0, ())))) (K .normal (mkS [(0, .v .str), (0, .v (.int .i64)), (3, .v .str), (0, .v (.int .i64))] 61 (x.1, x.2.1, x.2.2.1, x.2.2.2.1, ())))

noncomputable def porterlaw09_NameTells_h1 (N : Nat) : Hd Bool := fun st K => (unS [(0, .v .str), (0, .v (.int .i64)), (3, .v .str), (0, .v (.int .i64))] 61 (restr [0, 1, 5, 6] 0 st)).bind fun x => porterlaw09_NameTells_g1 N x K

noncomputable def porterlaw09_NameTells_t1 (N : Nat) : Tab Bool := [([0, 0, 1, 1, 1], porterlaw09_NameTells_h2 N)]

theorem porterlaw09_NameTells_ok1 {N : Nat} {c : Ctx} (hb : Base Go.Proofs.Try.prog (porterlaw09_NameTells_E N) c) : CodeOk Go.Proofs.Try.prog c (nodeAt porterlaw09_NameTells_body [0, 1, 1, 1]) (porterlaw09_NameTells_h1 N) :=
  piece_ok (s := [(0, .v .str), (0, .v (.int .i64)), (3, .v .str), (0, .v (.int .i64))]) (m := 61) (g := porterlaw09_NameTells_g1 N) [0, 1, 5, 6] (evN_sound hb N (porterlaw09_NameTells_t1 N) porterlaw09_NameTells_L porterlaw09_NameTells_body (TabOk.cons (porterlaw09_NameTells_ok2 hb) TabOk.nil) [0, 1, 1, 1] _ rfl) (fun x K => by kernel_rfl)

noncomputable def porterlaw09_NameTells_p4 (N : Nat) (s : (List UInt8)) (at_ : Int) (c : (List UInt8)) (end_ : Int) (k0 : Bool → Option Bool) : Option Bool :=
  cond (decide (at_ < (0 : Int)))
  (k0 true)
  (k0 (decide ((((List.length s) : Nat) : Int) < at_)))

noncomputable def porterlaw09_NameTells_g4 (N : Nat) (x : denS [(0, .v .str), (0, .v (.int .i64)), (3, .v .str), (0, .v (.int .i64))]) (K : Ex → List A → Option Bool) : Option Bool :=
  porterlaw09_NameTells_p4 N x.1 x.2.1 x.2.2.1 x.2.2.2.1 (fun a4 => (K .normal (mkS [(0, .v .str), (0, .v (.int .i64)), (3, .v .str), (0, .v (.int .i64)), (30, .v .bool)] 30 (x.1, x.2.1, x.2.2.1, x.2.2.2.1, a4, ()))))

noncomputable def porterlaw09_NameTells_h4 (N : Nat) : Hd Bool := fun st K => (unS [(0, .v .str), (0, .v (.int .i64)), (3, .v .str), (0, .v (.int .i64))] 61 (restr [1, 0, 5, 6] 0 st)).bind fun x => porterlaw09_NameTells_g4 N x K

noncomputable def porterlaw09_NameTells_t4 (N : Nat) : Tab Bool := []

theorem porterlaw09_NameTells_ok4 {N : Nat} {c : Ctx} (hb : Base Go.Proofs.Try.prog (porterlaw09_NameTells_E N) c) : CodeOk Go.Proofs.Try.prog c (nodeAt porterlaw09_NameTells_body [0, 0, 1, 1, 1, 1]) (porterlaw09_NameTells_h4 N) :=
  piece_ok (s := [(0, .v .str), (0, .v (.int .i64)), (3, .v .str), (0, .v (.int .i64))]) (m := 61) (g := porterlaw09_NameTells_g4 N) [1, 0, 5, 6] (evN_sound hb N (porterlaw09_NameTells_t4 N) porterlaw09_NameTells_L porterlaw09_NameTells_body TabOk.nil [0, 0, 1, 1, 1, 1] _ rfl) (fun x K => by kernel_rfl)

noncomputable def porterlaw09_NameTells_p3 (N : Nat) (s : (List UInt8)) (at_ : Int) (c : (List UInt8)) (end_ : Int) (k0 : Bool → Option Bool) (k1 : Option Bool) : Option Bool :=
  porterlaw09_NameTells_p4 N s at_ c end_
  (fun x37 => cond x37
    (cond (c == ([] : List UInt8))
      (cond (end_ == (0 : Int))
        ((porterlaw09_works N).bind fun y =>
          k0 y)
        (k0 false))
      (k0 false))
    (k1))

noncomputable def porterlaw09_NameTells_g3 (N : Nat) (x : denS [(0, .v .str), (0, .v (.int .i64)), (3, .v .str), (0, .v (.int .i64))]) (K : Ex → List A → Option Bool) : Option Bool :=
  porterlaw09_NameTells_p3 N x.1 x.2.1 x.2.2.1 x.2.2.2.1 (fun a0 => (K .ret (mkS [(4, .v .bool)] 63 (a0, ())))) (K .normal (mkS [(0, .v .str), (0, .v (.int .i64)), (3, .v .str), (0, .v (.int .i64))] 61 (x.1, x.2.1, x.2.2.1, x.2.2.2.1, ())))

noncomputable def porterlaw09_NameTells_h3 (N : Nat) : Hd Bool := fun st K => (unS [(0, .v .str), (0, .v (.int .i64)), (3, .v .str), (0, .v (.int .i64))] 61 (restr [1, 0, 5, 6] 0 st)).bind fun x => porterlaw09_NameTells_g3 N x K

noncomputable def porterlaw09_NameTells_t3 (N : Nat) : Tab Bool := [([0, 0, 1, 1, 1, 1], porterlaw09_NameTells_h4 N)]

theorem porterlaw09_NameTells_ok3 {N : Nat} {c : Ctx} (hb : Base Go.Proofs.Try.prog (porterlaw09_NameTells_E N) c) : CodeOk Go.Proofs.Try.prog c (nodeAt porterlaw09_NameTells_body [0, 1, 1, 1, 1]) (porterlaw09_NameTells_h3 N) :=
  piece_ok (s := [(0, .v .str), (0, .v (.int .i64)), (3, .v .str), (0, .v (.int .i64))]) (m := 61) (g := porterlaw09_NameTells_g3 N) [1, 0, 5, 6] (evN_sound hb N (porterlaw09_NameTells_t3 N) porterlaw09_NameTells_L porterlaw09_NameTells_body (TabOk.cons (porterlaw09_NameTells_ok4 hb) TabOk.nil) [0, 1, 1, 1, 1] _ rfl) (fun x K => by kernel_rfl)

noncomputable def porterlaw09_NameTells (N : Nat) (s : (List UInt8)) (at_ : Int) : Option Bool :=
  cond (decide ((200 : Int) < (((List.length s) : Nat) : Int)))
  ((porterlaw09_works N).bind fun y =>
    some y)
  ((name_Cut N s at_).bind fun y1 =>
    porterlaw09_NameTells_p1 N s at_ y1.1 y1.2.1
    (fun x4 => some x4)
    (porterlaw09_NameTells_p3 N s at_ y1.1 y1.2.1
      (fun x41 => some x41)
      ((porterref09_Signs N s at_).bind fun y2 =>
        cond (decide (((0 : Int) ≤ (Go.IntKind.wrap Go.IntKind.i64 (at_ + y2))) ∧ ((Go.IntKind.wrap Go.IntKind.i64 (at_ + y2)) ≤ (((List.length s) : Nat) : Int))))
        (cond (decide (((0 : Int) ≤ at_) ∧ (at_ ≤ (Go.IntKind.wrap Go.IntKind.i64 (at_ + y2)))))
          (cond (y1.1 == (Go.Lift.cut s (Int.toNat at_) (Int.toNat (Go.IntKind.wrap Go.IntKind.i64 (at_ + y2)))))
            (cond (y1.2.1 == (Go.IntKind.wrap Go.IntKind.i64 (at_ + y2)))
              ((porterlaw09_works N).bind fun y3 =>
                some y3)
              (some false))
            (some false))
          (none))
        (none))))

noncomputable def porterlaw09_NameTells_t (N : Nat) : Tab Bool := [([0, 1, 1, 1], porterlaw09_NameTells_h1 N), ([0, 1, 1, 1, 1], porterlaw09_NameTells_h3 N)]

theorem porterlaw09_NameTells_link (N : Nat) (x : denS [(0, .v .str), (0, .v (.int .i64))]) : evFX (porterlaw09_NameTells_E N) N (porterlaw09_NameTells_t N) porterlaw09_NameTells_L Go.Proofs.Try.f3 (mkS [(0, .v .str), (0, .v (.int .i64))] 0 x) (kRes (.v .bool) 2) = porterlaw09_NameTells N x.1 x.2.1 := by kernel_rfl

noncomputable def porterlaw09_NameTells_res (N : Nat) : List A → Res := resOf [(0, .v .str), (0, .v (.int .i64))] (fun x => porterlaw09_NameTells N x.1 x.2.1) (oRes (.v .bool) 2)

theorem porterlaw09_NameTells_ct (N : Nat) : Contract Go.Proofs.Try.prog noGlob 3 (porterlaw09_NameTells_res N) :=
  Contract.of (E := porterlaw09_NameTells_E N) (H := porterlaw09_NameTells_t N) (L := porterlaw09_NameTells_L) (N := N) (body := porterlaw09_NameTells_body) (K := (kRes (.v .bool) 2)) (porterlaw09_NameTells_Eok N) Go.Proofs.Try.func3 (by kernel_rfl) (by decide) (fun _ hb => (TabOk.cons (porterlaw09_NameTells_ok1 hb) (TabOk.cons (porterlaw09_NameTells_ok3 hb) TabOk.nil))) (fun x y h => by rw [porterlaw09_NameTells_link]; exact h) (kRes_ok (s := (.v .bool)) (m := 2))

abbrev porterbase_Short_R : Type := Bool

noncomputable def porterbase_Short_body : Code := (Go.Proofs.Try.f13.body).getD .skip

noncomputable def porterbase_Short_L : List (List Nat × List Nat) := [([0], [0, 1, 2]), ([0, 0, 1], [12, 2, 0]), ([1, 0, 1], [2, 0]), ([0, 0, 1, 0, 1], [6]), ([1, 0, 1, 0, 1], [6]), ([0, 1, 1], [0, 7]), ([0, 0, 1, 1, 1], [8, 0, 7]), ([0, 1, 0, 1, 1, 1], [8, 0, 7]), ([0, 0, 0, 0, 1, 0, 1, 1, 1], [17, 0, 8, 7]), ([1, 0, 0, 0, 1, 0, 1, 1, 1], [0, 8, 7]), ([1, 1, 0, 0, 0, 1, 0, 1, 1, 1], []), ([0, 0, 0, 0, 1, 0, 0, 1, 0, 1, 1, 1], [26, 7, 0, 8]), ([1, 0, 0, 0, 1, 0, 0, 1, 0, 1, 1, 1], [7, 0, 8]), ([0, 0, 1, 0, 0, 0, 1, 0, 0, 1, 0, 1, 1, 1], [6]), ([1, 0, 1, 0, 0, 0, 1, 0, 0, 1, 0, 1, 1, 1], [6]), ([1, 0, 0, 1, 0, 0, 1, 0, 1, 1, 1], [8, 0, 7]), ([0, 1, 0, 0, 1, 0, 1, 1, 1], [8, 0, 7]), ([1, 1, 0, 0, 1, 0, 1, 1, 1], [8, 0, 7]), ([1, 0, 1, 1, 1], []), ([0, 1, 1, 1, 1], [6]), ([1, 1, 1, 1, 1], [6])]

noncomputable def porterbase_Short_E (N : Nat) : Env := mkEnv tys noGlob [] [] [] [] false

theorem porterbase_Short_Eok (N : Nat) : EnvOk Go.Proofs.Try.prog (porterbase_Short_E N) := mkEnv_ok mixed tys_ok (FnsOk.nil)

noncomputable def porterbase_Short_s1 (N : Nat) (l : (List (List UInt8))) (left : Int) (i : Int) (rec : Int → Int → Option Bool) (k0 : Bool → Option Bool) (k1 : Option Bool) : Option Bool :=
  cond (decide (i < (((List.length l) : Nat) : Int)))
  (cond (Go.Lift.inR i (List.length l))
    (cond (decide (left < (((List.length (List.getD l (Int.toNat i) ([] : List UInt8))) : Nat) : Int)))
      (k0 false)
      (cond (Go.Lift.inR i (List.length l))
        (rec (Go.IntKind.wrap Go.IntKind.i64 (left - (((List.length (List.getD l (Int.toNat i) ([] : List UInt8))) : Nat) : Int))) (Go.IntKind.wrap Go.IntKind.i64 (i + (1 : Int))))
        (none)))
    (none))
  (k1)

noncomputable def porterbase_Short_p1 (N : Nat) (l : (List (List UInt8))) (left : Int) (i : Int) (k0 : Bool → Option Bool) (k1 : Option Bool) : Option Bool :=
  iter (fun (v : (Int × Int)) r => porterbase_Short_s1 N l v.1 v.2 (fun left i => (r (left, i))) k0 k1) N (left, i)

noncomputable def porterbase_Short_g1 (N : Nat) (i : (List (List UInt8))) (v : (Int × Int)) (r : (Int × Int) → Option Bool) (K : Ex → List A → Option Bool) : Option Bool :=
  porterbase_Short_s1 N i v.1 v.2 (fun left i => (r (left, i))) (fun a0 => (K .ret (mkS [(6, .v .bool)] 27 (a0, ())))) (K (.exit 0) (mkS [] 34 ()))

noncomputable def porterbase_Short_h1 (N : Nat) : Hd Bool := fun st K => (unS [(0, .v (.sl .str)), (6, .v (.int .i64)), (0, .v (.int .i64))] 25 (restr [8, 0, 7] 0 st)).bind fun x => iter (fun v r => porterbase_Short_g1 N ((fun x => x.1) x) v r K) N ((fun x => (x.2.1, x.2.2.1)) x)

noncomputable def porterbase_Short_t1 (N : Nat) : Tab Bool := []

theorem porterbase_Short_ok1 {N : Nat} {c : Ctx} (hb : Base Go.Proofs.Try.prog (porterbase_Short_E N) c) : CodeOk Go.Proofs.Try.prog c (nodeAt porterbase_Short_body [0, 1, 0, 1, 1, 1]) (porterbase_Short_h1 N) :=
  loop_ok (s := [(0, .v (.sl .str)), (6, .v (.int .i64)), (0, .v (.int .i64))]) (m := 25) (porterbase_Short_g1 N) [8, 0, 7] N (fun x => x.1) (fun x => (x.2.1, x.2.2.1)) (fun i v => (i, v.1, v.2, ())) (fun _ => rfl) (evN_sound hb N (porterbase_Short_t1 N) porterbase_Short_L porterbase_Short_body TabOk.nil [0, 0, 1, 0, 1, 1, 1] _ rfl) (fun i v r K => by kernel_rfl)

noncomputable def porterbase_Short (N : Nat) (l : (List (List UInt8))) (many : Int) (most : Int) : Option Bool :=
  cond (decide (many < (((List.length l) : Nat) : Int)))
  (some false)
  (porterbase_Short_p1 N l most (0 : Int)
    (fun x6 => some x6)
    (some true))

noncomputable def porterbase_Short_t (N : Nat) : Tab Bool := [([0, 1, 0, 1, 1, 1], porterbase_Short_h1 N)]

theorem porterbase_Short_link (N : Nat) (x : denS [(0, .v (.sl .str)), (0, .v (.int .i64)), (0, .v (.int .i64))]) : evFX (porterbase_Short_E N) N (porterbase_Short_t N) porterbase_Short_L Go.Proofs.Try.f13 (mkS [(0, .v (.sl .str)), (0, .v (.int .i64)), (0, .v (.int .i64))] 0 x) (kRes (.v .bool) 3) = porterbase_Short N x.1 x.2.1 x.2.2.1 := by kernel_rfl

noncomputable def porterbase_Short_res (N : Nat) : List A → Res := resOf [(0, .v (.sl .str)), (0, .v (.int .i64)), (0, .v (.int .i64))] (fun x => porterbase_Short N x.1 x.2.1 x.2.2.1) (oRes (.v .bool) 3)

theorem porterbase_Short_ct (N : Nat) : Contract Go.Proofs.Try.prog noGlob 13 (porterbase_Short_res N) :=
  Contract.of (E := porterbase_Short_E N) (H := porterbase_Short_t N) (L := porterbase_Short_L) (N := N) (body := porterbase_Short_body) (K := (kRes (.v .bool) 3)) (porterbase_Short_Eok N) Go.Proofs.Try.func13 (by kernel_rfl) (by decide) (fun _ hb => (TabOk.cons (porterbase_Short_ok1 hb) TabOk.nil)) (fun x y h => by rw [porterbase_Short_link]; exact h) (kRes_ok (s := (.v .bool)) (m := 3))

abbrev porterref09_Pieces_R : Type := (List (List UInt8))

noncomputable def porterref09_Pieces_body : Code := (Go.Proofs.Try.f23.body).getD .skip

noncomputable def porterref09_Pieces_L : List (List Nat × List Nat) := [([0], [0]), ([0, 1], [0, 3]), ([0, 1, 1], [0, 3, 4]), ([0, 0, 1, 1, 1], [5, 0, 3, 4]), ([0, 1, 0, 1, 1, 1], [5, 0, 3, 4]), ([0, 0, 0, 0, 1, 0, 1, 1, 1], [9, 5, 0, 3, 4]), ([1, 0, 0, 0, 1, 0, 1, 1, 1], [5, 0, 3, 4]), ([1, 1, 0, 0, 0, 1, 0, 1, 1, 1], [3]), ([0, 0, 0, 1, 0, 0, 1, 0, 1, 1, 1], [21, 3, 0, 4, 5]), ([1, 0, 0, 1, 0, 0, 1, 0, 1, 1, 1], [5, 0, 3, 4]), ([0, 0, 1, 0, 0, 1, 0, 0, 1, 0, 1, 1, 1], [5, 0, 3]), ([1, 0, 1, 0, 0, 1, 0, 0, 1, 0, 1, 1, 1], [5, 0, 3, 4]), ([0, 1, 0, 0, 1, 0, 1, 1, 1], [5, 0, 3, 4]), ([1, 1, 0, 0, 1, 0, 1, 1, 1], [5, 0, 3, 4]), ([1, 0, 1, 1, 1], [3]), ([0, 1, 1, 1, 1], [2]), ([1, 1, 1, 1, 1], [2])]

noncomputable def porterref09_Pieces_E (N : Nat) : Env := mkEnv tys noGlob [] [(3, .str), (2, .str)] [] [] false

theorem porterref09_Pieces_Eok (N : Nat) : EnvOk Go.Proofs.Try.prog (porterref09_Pieces_E N) := mkEnv_ok mixed tys_ok (FnsOk.nil)

noncomputable def porterref09_Pieces_p3 (N : Nat) (s : (List UInt8)) (out : (List (List UInt8))) (from_ : Int) (i : Int) (k0 : Bool → Option (List (List UInt8))) : Option (List (List UInt8)) :=
  cond (i == (((List.length s) : Nat) : Int))
  (k0 true)
  (cond (Go.Lift.inR i (List.length s))
    (k0 ((((UInt8.toNat (List.getD s (Int.toNat i) (0 : UInt8))) : Nat) : Int) == (32 : Int)))
    (none))

noncomputable def porterref09_Pieces_g3 (N : Nat) (x : denS [(0, .v .str), (2, .row .str), (0, .v (.int .i64)), (0, .v (.int .i64))]) (K : Ex → List A → Option (List (List UInt8))) : Option (List (List UInt8)) :=
  porterref09_Pieces_p3 N x.1 x.2.1 x.2.2.1 x.2.2.2.1 (fun a4 => (K .normal (mkS [(0, .v .str), (2, .row .str), (0, .v (.int .i64)), (0, .v (.int .i64)), (15, .v .bool)] 10 (x.1, x.2.1, x.2.2.1, x.2.2.2.1, a4, ()))))

noncomputable def porterref09_Pieces_h3 (N : Nat) : Hd (List (List UInt8)) := fun st K => (unS [(0, .v .str), (2, .row .str), (0, .v (.int .i64)), (0, .v (.int .i64))] 26 (restr [5, 0, 3, 4] 0 st)).bind fun x => porterref09_Pieces_g3 N x K

noncomputable def porterref09_Pieces_t3 (N : Nat) : Tab (List (List UInt8)) := []

theorem porterref09_Pieces_ok3 {N : Nat} {c : Ctx} (hb : Base Go.Proofs.Try.prog (porterref09_Pieces_E N) c) : CodeOk Go.Proofs.Try.prog c (nodeAt porterref09_Pieces_body [0, 0, 0, 1, 0, 0, 1, 0, 1, 1, 1]) (porterref09_Pieces_h3 N) :=
  piece_ok (s := [(0, .v .str), (2, .row .str), (0, .v (.int .i64)), (0, .v (.int .i64))]) (m := 26) (g := porterref09_Pieces_g3 N) [5, 0, 3, 4] (evN_sound hb N (porterref09_Pieces_t3 N) porterref09_Pieces_L porterref09_Pieces_body TabOk.nil [0, 0, 0, 1, 0, 0, 1, 0, 1, 1, 1] _ rfl) (fun x K => by kernel_rfl)

noncomputable def porterref09_Pieces_p2 (N : Nat) (s : (List UInt8)) (out : (List (List UInt8))) (from_ : Int) (i : Int) (k0 : (List (List UInt8)) → Int → Option (List (List UInt8))) : Option (List (List UInt8)) :=
  porterref09_Pieces_p3 N s out from_ i
  (fun x21 => cond x21
    (cond (decide (((0 : Int) ≤ i) ∧ (i ≤ (((List.length s) : Nat) : Int))))
      (cond (decide (((0 : Int) ≤ from_) ∧ (from_ ≤ i)))
        (cond (decide ((((List.length out) + 1) * 16) ≤ 70368744177664))
          (k0 (out ++ ([(Go.Lift.cut s (Int.toNat from_) (Int.toNat i))] : List (List UInt8))) (Go.IntKind.wrap Go.IntKind.i64 (i + (1 : Int))))
          (none))
        (none))
      (none))
    (k0 out from_))

noncomputable def porterref09_Pieces_g2 (N : Nat) (x : denS [(0, .v .str), (2, .row .str), (0, .v (.int .i64)), (0, .v (.int .i64))]) (K : Ex → List A → Option (List (List UInt8))) : Option (List (List UInt8)) :=
  porterref09_Pieces_p2 N x.1 x.2.1 x.2.2.1 x.2.2.2.1 (fun a1 a2 => (K .normal (mkS [(0, .v .str), (2, .row .str), (0, .v (.int .i64)), (0, .v (.int .i64))] 26 (x.1, a1, a2, x.2.2.2.1, ()))))

noncomputable def porterref09_Pieces_h2 (N : Nat) : Hd (List (List UInt8)) := fun st K => (unS [(0, .v .str), (2, .row .str), (0, .v (.int .i64)), (0, .v (.int .i64))] 26 (restr [5, 0, 3, 4] 0 st)).bind fun x => porterref09_Pieces_g2 N x K

noncomputable def porterref09_Pieces_t2 (N : Nat) : Tab (List (List UInt8)) := [([0, 0, 0, 1, 0, 0, 1, 0, 1, 1, 1], porterref09_Pieces_h3 N)]

theorem porterref09_Pieces_ok2 {N : Nat} {c : Ctx} (hb : Base Go.Proofs.Try.prog (porterref09_Pieces_E N) c) : CodeOk Go.Proofs.Try.prog c (nodeAt porterref09_Pieces_body [0, 1, 0, 0, 1, 0, 1, 1, 1]) (porterref09_Pieces_h2 N) :=
  piece_ok (s := [(0, .v .str), (2, .row .str), (0, .v (.int .i64)), (0, .v (.int .i64))]) (m := 26) (g := porterref09_Pieces_g2 N) [5, 0, 3, 4] (evN_sound hb N (porterref09_Pieces_t2 N) porterref09_Pieces_L porterref09_Pieces_body (TabOk.cons (porterref09_Pieces_ok3 hb) TabOk.nil) [0, 1, 0, 0, 1, 0, 1, 1, 1] _ rfl) (fun x K => by kernel_rfl)

noncomputable def porterref09_Pieces_s1 (N : Nat) (s : (List UInt8)) (out : (List (List UInt8))) (from_ : Int) (i : Int) (rec : (List (List UInt8)) → Int → Int → Option (List (List UInt8))) (k0 : (List (List UInt8)) → Option (List (List UInt8))) : Option (List (List UInt8)) :=
  cond (decide (i ≤ (((List.length s) : Nat) : Int)))
  (porterref09_Pieces_p2 N s out from_ i
    (fun out1 from_1 => rec out1 from_1 (Go.IntKind.wrap Go.IntKind.i64 (i + (1 : Int)))))
  (k0 out)

noncomputable def porterref09_Pieces_p1 (N : Nat) (s : (List UInt8)) (out : (List (List UInt8))) (from_ : Int) (i : Int) (k0 : (List (List UInt8)) → Option (List (List UInt8))) : Option (List (List UInt8)) :=
  iter (fun (v : ((List (List UInt8)) × Int × Int)) r => porterref09_Pieces_s1 N s v.1 v.2.1 v.2.2 (fun out from_ i => (r (out, from_, i))) k0) N (out, from_, i)

noncomputable def porterref09_Pieces_g1 (N : Nat) (i : (List UInt8)) (v : ((List (List UInt8)) × Int × Int)) (r : ((List (List UInt8)) × Int × Int) → Option (List (List UInt8))) (K : Ex → List A → Option (List (List UInt8))) : Option (List (List UInt8)) :=
  porterref09_Pieces_s1 N i v.1 v.2.1 v.2.2 (fun out from_ i => (r (out, from_, i))) (fun a0 => (K (.exit 0) (mkS [(3, .row .str)] 28 (a0, ()))))

noncomputable def porterref09_Pieces_h1 (N : Nat) : Hd (List (List UInt8)) := fun st K => (unS [(0, .v .str), (2, .row .str), (0, .v (.int .i64)), (0, .v (.int .i64))] 26 (restr [5, 0, 3, 4] 0 st)).bind fun x => iter (fun v r => porterref09_Pieces_g1 N ((fun x => x.1) x) v r K) N ((fun x => (x.2.1, x.2.2.1, x.2.2.2.1)) x)

noncomputable def porterref09_Pieces_t1 (N : Nat) : Tab (List (List UInt8)) := [([0, 1, 0, 0, 1, 0, 1, 1, 1], porterref09_Pieces_h2 N)]

theorem porterref09_Pieces_ok1 {N : Nat} {c : Ctx} (hb : Base Go.Proofs.Try.prog (porterref09_Pieces_E N) c) : CodeOk Go.Proofs.Try.prog c (nodeAt porterref09_Pieces_body [0, 1, 0, 1, 1, 1]) (porterref09_Pieces_h1 N) :=
  loop_ok (s := [(0, .v .str), (2, .row .str), (0, .v (.int .i64)), (0, .v (.int .i64))]) (m := 26) (porterref09_Pieces_g1 N) [5, 0, 3, 4] N (fun x => x.1) (fun x => (x.2.1, x.2.2.1, x.2.2.2.1)) (fun i v => (i, v.1, v.2.1, v.2.2, ())) (fun _ => rfl) (evN_sound hb N (porterref09_Pieces_t1 N) porterref09_Pieces_L porterref09_Pieces_body (TabOk.cons (porterref09_Pieces_ok2 hb) TabOk.nil) [0, 0, 1, 0, 1, 1, 1] _ rfl) (fun i v r K => by kernel_rfl)

noncomputable def porterref09_Pieces (N : Nat) (s : (List UInt8)) : Option (List (List UInt8)) :=
  porterref09_Pieces_p1 N s ([] : List (List UInt8)) (0 : Int) (0 : Int)
  (fun out => some out)

noncomputable def porterref09_Pieces_t (N : Nat) : Tab (List (List UInt8)) := [([0, 1, 0, 1, 1, 1], porterref09_Pieces_h1 N)]

theorem porterref09_Pieces_link (N : Nat) (x : denS [(0, .v .str)]) : evFX (porterref09_Pieces_E N) N (porterref09_Pieces_t N) porterref09_Pieces_L Go.Proofs.Try.f23 (mkS [(0, .v .str)] 0 x) (kRes (.v (.sl .str)) 1) = porterref09_Pieces N x.1 := by kernel_rfl

noncomputable def porterref09_Pieces_res (N : Nat) : List A → Res := resOf [(0, .v .str)] (fun x => porterref09_Pieces N x.1) (oRes (.v (.sl .str)) 1)

theorem porterref09_Pieces_ct (N : Nat) : Contract Go.Proofs.Try.prog noGlob 23 (porterref09_Pieces_res N) :=
  Contract.of (E := porterref09_Pieces_E N) (H := porterref09_Pieces_t N) (L := porterref09_Pieces_L) (N := N) (body := porterref09_Pieces_body) (K := (kRes (.v (.sl .str)) 1)) (porterref09_Pieces_Eok N) Go.Proofs.Try.func23 (by kernel_rfl) (by decide) (fun _ hb => (TabOk.cons (porterref09_Pieces_ok1 hb) TabOk.nil)) (fun x y h => by rw [porterref09_Pieces_link]; exact h) (kRes_ok (s := (.v (.sl .str))) (m := 1))

abbrev porterref09_Words_R : Type := ((List (List UInt8)) × Bool × Unit)

noncomputable def porterref09_Words_body : Code := (Go.Proofs.Try.f15.body).getD .skip

noncomputable def porterref09_Words_L : List (List Nat × List Nat) := [([0], [0]), ([0, 1], [4]), ([0, 0, 1, 1], [5, 4]), ([0, 1, 0, 1, 1], [5, 4]), ([0, 0, 0, 0, 1, 0, 1, 1], [11, 4, 5]), ([1, 0, 0, 0, 1, 0, 1, 1], [4, 5]), ([1, 1, 0, 0, 0, 1, 0, 1, 1], [4]), ([0, 0, 0, 1, 0, 0, 1, 0, 1, 1], [19, 5, 4]), ([1, 0, 0, 1, 0, 0, 1, 0, 1, 1], [5, 4]), ([0, 0, 1, 0, 0, 1, 0, 0, 1, 0, 1, 1], [2, 3]), ([1, 0, 1, 0, 0, 1, 0, 0, 1, 0, 1, 1], [2, 3]), ([0, 1, 0, 0, 1, 0, 1, 1], [5, 4]), ([1, 1, 0, 0, 1, 0, 1, 1], [5, 4]), ([1, 0, 1, 1], [4]), ([0, 1, 1, 1], [2, 3]), ([1, 1, 1, 1], [2, 3])]

noncomputable def porterref09_Words_E (N : Nat) : Env := mkEnv tys noGlob [(23, porterref09_Pieces_res N), (11, porterref09_Word_res N)] [] [] [] false

theorem porterref09_Words_Eok (N : Nat) : EnvOk Go.Proofs.Try.prog (porterref09_Words_E N) := mkEnv_ok mixed tys_ok (FnsOk.cons (porterref09_Pieces_ct N) (FnsOk.cons (porterref09_Word_ct N) (FnsOk.nil)))

noncomputable def porterref09_Words_s1 (N : Nat) (l : (List (List UInt8))) (i : Int) (rec : Int → Option ((List (List UInt8)) × Bool × Unit)) (k0 : Bool → Option ((List (List UInt8)) × Bool × Unit)) (k1 : Option ((List (List UInt8)) × Bool × Unit)) : Option ((List (List UInt8)) × Bool × Unit) :=
  cond (decide (i < (((List.length l) : Nat) : Int)))
  (cond (Go.Lift.inR i (List.length l))
    ((porterref09_Word N (List.getD l (Int.toNat i) ([] : List UInt8))).bind fun y =>
      cond (!y)
      (k0 false)
      (rec (Go.IntKind.wrap Go.IntKind.i64 (i + (1 : Int)))))
    (none))
  (k1)

noncomputable def porterref09_Words_p1 (N : Nat) (l : (List (List UInt8))) (i : Int) (k0 : Bool → Option ((List (List UInt8)) × Bool × Unit)) (k1 : Option ((List (List UInt8)) × Bool × Unit)) : Option ((List (List UInt8)) × Bool × Unit) :=
  iter (fun (v : Int) r => porterref09_Words_s1 N l v (fun i => (r i)) k0 k1) N i

noncomputable def porterref09_Words_g1 (N : Nat) (i : (List (List UInt8))) (v : Int) (r : Int → Option ((List (List UInt8)) × Bool × Unit)) (K : Ex → List A → Option ((List (List UInt8)) × Bool × Unit)) : Option ((List (List UInt8)) × Bool × Unit) :=
  porterref09_Words_s1 N i v (fun i => (r i)) (fun a0 => (K .ret (mkS [(2, .nilsl), (0, .v .bool)] 17 ((), a0, ())))) (K (.exit 0) (mkS [(4, .v (.sl .str))] 16 (i, ())))

noncomputable def porterref09_Words_h1 (N : Nat) : Hd ((List (List UInt8)) × Bool × Unit) := fun st K => (unS [(4, .v (.sl .str)), (0, .v (.int .i64))] 15 (restr [5, 4] 0 st)).bind fun x => iter (fun v r => porterref09_Words_g1 N ((fun x => x.1) x) v r K) N ((fun x => x.2.1) x)

noncomputable def porterref09_Words_t1 (N : Nat) : Tab ((List (List UInt8)) × Bool × Unit) := []

theorem porterref09_Words_ok1 {N : Nat} {c : Ctx} (hb : Base Go.Proofs.Try.prog (porterref09_Words_E N) c) : CodeOk Go.Proofs.Try.prog c (nodeAt porterref09_Words_body [0, 1, 0, 1, 1]) (porterref09_Words_h1 N) :=
  loop_ok (s := [(4, .v (.sl .str)), (0, .v (.int .i64))]) (m := 15) (porterref09_Words_g1 N) [5, 4] N (fun x => x.1) (fun x => x.2.1) (fun i v => (i, v, ())) (fun _ => rfl) (evN_sound hb N (porterref09_Words_t1 N) porterref09_Words_L porterref09_Words_body TabOk.nil [0, 0, 1, 0, 1, 1] _ rfl) (fun i v r K => by kernel_rfl)

noncomputable def porterref09_Words (N : Nat) (s : (List UInt8)) : Option ((List (List UInt8)) × Bool × Unit) :=
  (porterref09_Pieces N s).bind fun y =>
  porterref09_Words_p1 N y (0 : Int)
  (fun x3 => some (([] : List (List UInt8)), (x3, ())))
  (some (y, (true, ())))

noncomputable def porterref09_Words_t (N : Nat) : Tab ((List (List UInt8)) × Bool × Unit) := [([0, 1, 0, 1, 1], porterref09_Words_h1 N)]

theorem porterref09_Words_link (N : Nat) (x : denS [(0, .v .str)]) : evFX (porterref09_Words_E N) N (porterref09_Words_t N) porterref09_Words_L Go.Proofs.Try.f15 (mkS [(0, .v .str)] 0 x) (kRes (.tup [(.sl .str), .bool]) 1) = porterref09_Words N x.1 := by kernel_rfl

noncomputable def porterref09_Words_res (N : Nat) : List A → Res := resOf [(0, .v .str)] (fun x => porterref09_Words N x.1) (oRes (.tup [(.sl .str), .bool]) 1)

theorem porterref09_Words_ct (N : Nat) : Contract Go.Proofs.Try.prog noGlob 15 (porterref09_Words_res N) :=
  Contract.of (E := porterref09_Words_E N) (H := porterref09_Words_t N) (L := porterref09_Words_L) (N := N) (body := porterref09_Words_body) (K := (kRes (.tup [(.sl .str), .bool]) 1)) (porterref09_Words_Eok N) Go.Proofs.Try.func15 (by kernel_rfl) (by decide) (fun _ hb => (TabOk.cons (porterref09_Words_ok1 hb) TabOk.nil)) (fun x y h => by rw [porterref09_Words_link]; exact h) (kRes_ok (s := (.tup [(.sl .str), .bool])) (m := 1))

abbrev porterbase_SameTexts_R : Type := Bool

noncomputable def porterbase_SameTexts_body : Code := (Go.Proofs.Try.f16.body).getD .skip

noncomputable def porterbase_SameTexts_L : List (List Nat × List Nat) := [([0], [0, 1]), ([0, 0, 1], [10, 0, 1]), ([1, 0, 1], [0, 1]), ([0, 0, 1, 0, 1], [4]), ([1, 0, 1, 0, 1], [4]), ([0, 0, 1, 1], [5, 0, 1]), ([0, 1, 0, 1, 1], [5, 0, 1]), ([0, 0, 0, 0, 1, 0, 1, 1], [14, 0, 5, 1]), ([1, 0, 0, 0, 1, 0, 1, 1], [0, 5, 1]), ([1, 1, 0, 0, 0, 1, 0, 1, 1], []), ([0, 0, 0, 1, 0, 0, 1, 0, 1, 1], [25, 5, 0, 1]), ([1, 0, 0, 1, 0, 0, 1, 0, 1, 1], [5, 0, 1]), ([0, 0, 1, 0, 0, 1, 0, 0, 1, 0, 1, 1], [4]), ([1, 0, 1, 0, 0, 1, 0, 0, 1, 0, 1, 1], [4]), ([0, 1, 0, 0, 1, 0, 1, 1], [5, 0, 1]), ([1, 1, 0, 0, 1, 0, 1, 1], [5, 0, 1]), ([1, 0, 1, 1], []), ([0, 1, 1, 1], [4]), ([1, 1, 1, 1], [4])]

noncomputable def porterbase_SameTexts_E (N : Nat) : Env := mkEnv tys noGlob [] [] [] [] false

theorem porterbase_SameTexts_Eok (N : Nat) : EnvOk Go.Proofs.Try.prog (porterbase_SameTexts_E N) := mkEnv_ok mixed tys_ok (FnsOk.nil)

noncomputable def porterbase_SameTexts_s1 (N : Nat) (a : (List (List UInt8))) (b : (List (List UInt8))) (i : Int) (rec : Int → Option Bool) (k0 : Bool → Option Bool) (k1 : Option Bool) : Option Bool :=
  cond (decide (i < (((List.length a) : Nat) : Int)))
  (cond (Go.Lift.inR i (List.length a))
    (cond (Go.Lift.inR i (List.length b))
      (cond (!((List.getD a (Int.toNat i) ([] : List UInt8)) == (List.getD b (Int.toNat i) ([] : List UInt8))))
        (k0 false)
        (rec (Go.IntKind.wrap Go.IntKind.i64 (i + (1 : Int)))))
      (none))
    (none))
  (k1)

noncomputable def porterbase_SameTexts_p1 (N : Nat) (a : (List (List UInt8))) (b : (List (List UInt8))) (i : Int) (k0 : Bool → Option Bool) (k1 : Option Bool) : Option Bool :=
  iter (fun (v : Int) r => porterbase_SameTexts_s1 N a b v (fun i => (r i)) k0 k1) N i

noncomputable def porterbase_SameTexts_g1 (N : Nat) (i : ((List (List UInt8)) × (List (List UInt8)))) (v : Int) (r : Int → Option Bool) (K : Ex → List A → Option Bool) : Option Bool :=
  porterbase_SameTexts_s1 N i.1 i.2 v (fun i => (r i)) (fun a0 => (K .ret (mkS [(4, .v .bool)] 21 (a0, ())))) (K (.exit 0) (mkS [] 26 ()))

noncomputable def porterbase_SameTexts_h1 (N : Nat) : Hd Bool := fun st K => (unS [(0, .v (.sl .str)), (0, .v (.sl .str)), (3, .v (.int .i64))] 20 (restr [5, 0, 1] 0 st)).bind fun x => iter (fun v r => porterbase_SameTexts_g1 N ((fun x => (x.1, x.2.1)) x) v r K) N ((fun x => x.2.2.1) x)

noncomputable def porterbase_SameTexts_t1 (N : Nat) : Tab Bool := []

theorem porterbase_SameTexts_ok1 {N : Nat} {c : Ctx} (hb : Base Go.Proofs.Try.prog (porterbase_SameTexts_E N) c) : CodeOk Go.Proofs.Try.prog c (nodeAt porterbase_SameTexts_body [0, 1, 0, 1, 1]) (porterbase_SameTexts_h1 N) :=
  loop_ok (s := [(0, .v (.sl .str)), (0, .v (.sl .str)), (3, .v (.int .i64))]) (m := 20) (porterbase_SameTexts_g1 N) [5, 0, 1] N (fun x => (x.1, x.2.1)) (fun x => x.2.2.1) (fun i v => (i.1, i.2, v, ())) (fun _ => rfl) (evN_sound hb N (porterbase_SameTexts_t1 N) porterbase_SameTexts_L porterbase_SameTexts_body TabOk.nil [0, 0, 1, 0, 1, 1] _ rfl) (fun i v r K => by kernel_rfl)

noncomputable def porterbase_SameTexts (N : Nat) (a : (List (List UInt8))) (b : (List (List UInt8))) : Option Bool :=
  cond ((((List.length a) : Nat) : Int) != (((List.length b) : Nat) : Int))
  (some false)
  (porterbase_SameTexts_p1 N a b (0 : Int)
    (fun x4 => some x4)
    (some true))

noncomputable def porterbase_SameTexts_t (N : Nat) : Tab Bool := [([0, 1, 0, 1, 1], porterbase_SameTexts_h1 N)]

theorem porterbase_SameTexts_link (N : Nat) (x : denS [(0, .v (.sl .str)), (0, .v (.sl .str))]) : evFX (porterbase_SameTexts_E N) N (porterbase_SameTexts_t N) porterbase_SameTexts_L Go.Proofs.Try.f16 (mkS [(0, .v (.sl .str)), (0, .v (.sl .str))] 0 x) (kRes (.v .bool) 2) = porterbase_SameTexts N x.1 x.2.1 := by kernel_rfl

noncomputable def porterbase_SameTexts_res (N : Nat) : List A → Res := resOf [(0, .v (.sl .str)), (0, .v (.sl .str))] (fun x => porterbase_SameTexts N x.1 x.2.1) (oRes (.v .bool) 2)

theorem porterbase_SameTexts_ct (N : Nat) : Contract Go.Proofs.Try.prog noGlob 16 (porterbase_SameTexts_res N) :=
  Contract.of (E := porterbase_SameTexts_E N) (H := porterbase_SameTexts_t N) (L := porterbase_SameTexts_L) (N := N) (body := porterbase_SameTexts_body) (K := (kRes (.v .bool) 2)) (porterbase_SameTexts_Eok N) Go.Proofs.Try.func16 (by kernel_rfl) (by decide) (fun _ hb => (TabOk.cons (porterbase_SameTexts_ok1 hb) TabOk.nil)) (fun x y h => by rw [porterbase_SameTexts_link]; exact h) (kRes_ok (s := (.v .bool)) (m := 2))

abbrev porterref09_Join_R : Type := (List UInt8)

noncomputable def porterref09_Join_body : Code := (Go.Proofs.Try.f18.body).getD .skip

noncomputable def porterref09_Join_L : List (List Nat × List Nat) := [([0], [0]), ([0, 1], [0, 3]), ([0, 0, 1, 1], [4, 0, 3]), ([0, 1, 0, 1, 1], [4, 0, 3]), ([0, 0, 0, 0, 1, 0, 1, 1], [8, 4, 3, 0]), ([1, 0, 0, 0, 1, 0, 1, 1], [4, 3, 0]), ([1, 1, 0, 0, 0, 1, 0, 1, 1], [3]), ([0, 0, 0, 0, 1, 0, 0, 1, 0, 1, 1], [12, 3, 0, 4]), ([1, 0, 0, 0, 1, 0, 0, 1, 0, 1, 1], [3, 0, 4]), ([0, 1, 0, 0, 0, 1, 0, 0, 1, 0, 1, 1], [3, 0, 4]), ([1, 0, 0, 1, 0, 0, 1, 0, 1, 1], [4, 0, 3]), ([0, 1, 0, 0, 1, 0, 1, 1], [4, 0, 3]), ([1, 1, 0, 0, 1, 0, 1, 1], [4, 0, 3]), ([1, 0, 1, 1], [3]), ([0, 1, 1, 1], [2]), ([1, 1, 1, 1], [2])]

noncomputable def porterref09_Join_E (N : Nat) : Env := mkEnv tys noGlob [] [] [] [] false

theorem porterref09_Join_Eok (N : Nat) : EnvOk Go.Proofs.Try.prog (porterref09_Join_E N) := mkEnv_ok mixed tys_ok (FnsOk.nil)

noncomputable def porterref09_Join_p3 (N : Nat) (l : (List (List UInt8))) (s : (List UInt8)) (i : Int) (k0 : (List UInt8) → Option (List UInt8)) : Option (List UInt8) :=
  cond (decide ((0 : Int) < i))
  (cond (decide (((List.length s) + 1) ≤ 9223372036854775807))
    (k0 (s ++ ([(32 : UInt8)] : List UInt8)))
    (none))
  (k0 s)

noncomputable def porterref09_Join_g3 (N : Nat) (x : denS [(0, .v (.sl .str)), (2, .v .str), (0, .v (.int .i64))]) (K : Ex → List A → Option (List UInt8)) : Option (List UInt8) :=
  porterref09_Join_p3 N x.1 x.2.1 x.2.2.1 (fun a1 => (K .normal (mkS [(0, .v (.sl .str)), (2, .v .str), (0, .v (.int .i64))] 17 (x.1, a1, x.2.2.1, ()))))

noncomputable def porterref09_Join_h3 (N : Nat) : Hd (List UInt8) := fun st K => (unS [(0, .v (.sl .str)), (2, .v .str), (0, .v (.int .i64))] 17 (restr [4, 3, 0] 0 st)).bind fun x => porterref09_Join_g3 N x K

noncomputable def porterref09_Join_t3 (N : Nat) : Tab (List UInt8) := []

theorem porterref09_Join_ok3 {N : Nat} {c : Ctx} (hb : Base Go.Proofs.Try.prog (porterref09_Join_E N) c) : CodeOk Go.Proofs.Try.prog c (nodeAt porterref09_Join_body [0, 0, 0, 1, 0, 0, 1, 0, 1, 1]) (porterref09_Join_h3 N) :=
  piece_ok (s := [(0, .v (.sl .str)), (2, .v .str), (0, .v (.int .i64))]) (m := 17) (g := porterref09_Join_g3 N) [4, 3, 0] (evN_sound hb N (porterref09_Join_t3 N) porterref09_Join_L porterref09_Join_body TabOk.nil [0, 0, 0, 1, 0, 0, 1, 0, 1, 1] _ rfl) (fun x K => by kernel_rfl)

noncomputable def porterref09_Join_p2 (N : Nat) (l : (List (List UInt8))) (s : (List UInt8)) (i : Int) (k0 : (List UInt8) → Option (List UInt8)) : Option (List UInt8) :=
  porterref09_Join_p3 N l s i
  (fun s1 => cond (Go.Lift.inR i (List.length l))
    (cond (decide (((List.length s1) + (List.length (List.getD l (Int.toNat i) ([] : List UInt8)))) ≤ 9223372036854775807))
      (k0 (s1 ++ (List.getD l (Int.toNat i) ([] : List UInt8))))
      (none))
    (none))

noncomputable def porterref09_Join_g2 (N : Nat) (x : denS [(0, .v (.sl .str)), (2, .v .str), (0, .v (.int .i64))]) (K : Ex → List A → Option (List UInt8)) : Option (List UInt8) :=
  porterref09_Join_p2 N x.1 x.2.1 x.2.2.1 (fun a1 => (K .normal (mkS [(0, .v (.sl .str)), (2, .v .str), (0, .v (.int .i64))] 17 (x.1, a1, x.2.2.1, ()))))

noncomputable def porterref09_Join_h2 (N : Nat) : Hd (List UInt8) := fun st K => (unS [(0, .v (.sl .str)), (2, .v .str), (0, .v (.int .i64))] 17 (restr [4, 3, 0] 0 st)).bind fun x => porterref09_Join_g2 N x K

noncomputable def porterref09_Join_t2 (N : Nat) : Tab (List UInt8) := [([0, 0, 0, 1, 0, 0, 1, 0, 1, 1], porterref09_Join_h3 N)]

theorem porterref09_Join_ok2 {N : Nat} {c : Ctx} (hb : Base Go.Proofs.Try.prog (porterref09_Join_E N) c) : CodeOk Go.Proofs.Try.prog c (nodeAt porterref09_Join_body [0, 1, 0, 0, 1, 0, 1, 1]) (porterref09_Join_h2 N) :=
  piece_ok (s := [(0, .v (.sl .str)), (2, .v .str), (0, .v (.int .i64))]) (m := 17) (g := porterref09_Join_g2 N) [4, 3, 0] (evN_sound hb N (porterref09_Join_t2 N) porterref09_Join_L porterref09_Join_body (TabOk.cons (porterref09_Join_ok3 hb) TabOk.nil) [0, 1, 0, 0, 1, 0, 1, 1] _ rfl) (fun x K => by kernel_rfl)

noncomputable def porterref09_Join_s1 (N : Nat) (l : (List (List UInt8))) (s : (List UInt8)) (i : Int) (rec : (List UInt8) → Int → Option (List UInt8)) (k0 : (List UInt8) → Option (List UInt8)) : Option (List UInt8) :=
  cond (decide (i < (((List.length l) : Nat) : Int)))
  (porterref09_Join_p2 N l s i
    (fun s1 => rec s1 (Go.IntKind.wrap Go.IntKind.i64 (i + (1 : Int)))))
  (k0 s)

noncomputable def porterref09_Join_p1 (N : Nat) (l : (List (List UInt8))) (s : (List UInt8)) (i : Int) (k0 : (List UInt8) → Option (List UInt8)) : Option (List UInt8) :=
  iter (fun (v : ((List UInt8) × Int)) r => porterref09_Join_s1 N l v.1 v.2 (fun s i => (r (s, i))) k0) N (s, i)

noncomputable def porterref09_Join_g1 (N : Nat) (i : (List (List UInt8))) (v : ((List UInt8) × Int)) (r : ((List UInt8) × Int) → Option (List UInt8)) (K : Ex → List A → Option (List UInt8)) : Option (List UInt8) :=
  porterref09_Join_s1 N i v.1 v.2 (fun s i => (r (s, i))) (fun a0 => (K (.exit 0) (mkS [(3, .v .str)] 18 (a0, ()))))

noncomputable def porterref09_Join_h1 (N : Nat) : Hd (List UInt8) := fun st K => (unS [(0, .v (.sl .str)), (2, .v .str), (0, .v (.int .i64))] 17 (restr [4, 0, 3] 0 st)).bind fun x => iter (fun v r => porterref09_Join_g1 N ((fun x => x.1) x) v r K) N ((fun x => (x.2.1, x.2.2.1)) x)

noncomputable def porterref09_Join_t1 (N : Nat) : Tab (List UInt8) := [([0, 1, 0, 0, 1, 0, 1, 1], porterref09_Join_h2 N)]

theorem porterref09_Join_ok1 {N : Nat} {c : Ctx} (hb : Base Go.Proofs.Try.prog (porterref09_Join_E N) c) : CodeOk Go.Proofs.Try.prog c (nodeAt porterref09_Join_body [0, 1, 0, 1, 1]) (porterref09_Join_h1 N) :=
  loop_ok (s := [(0, .v (.sl .str)), (2, .v .str), (0, .v (.int .i64))]) (m := 17) (porterref09_Join_g1 N) [4, 0, 3] N (fun x => x.1) (fun x => (x.2.1, x.2.2.1)) (fun i v => (i, v.1, v.2, ())) (fun _ => rfl) (evN_sound hb N (porterref09_Join_t1 N) porterref09_Join_L porterref09_Join_body (TabOk.cons (porterref09_Join_ok2 hb) TabOk.nil) [0, 0, 1, 0, 1, 1] _ rfl) (fun i v r K => by kernel_rfl)

noncomputable def porterref09_Join (N : Nat) (l : (List (List UInt8))) : Option (List UInt8) :=
  porterref09_Join_p1 N l ([] : List UInt8) (0 : Int)
  (fun s => some s)

noncomputable def porterref09_Join_t (N : Nat) : Tab (List UInt8) := [([0, 1, 0, 1, 1], porterref09_Join_h1 N)]

theorem porterref09_Join_link (N : Nat) (x : denS [(0, .v (.sl .str))]) : evFX (porterref09_Join_E N) N (porterref09_Join_t N) porterref09_Join_L Go.Proofs.Try.f18 (mkS [(0, .v (.sl .str))] 0 x) (kRes (.v .str) 1) = porterref09_Join N x.1 := by kernel_rfl

noncomputable def porterref09_Join_res (N : Nat) : List A → Res := resOf [(0, .v (.sl .str))] (fun x => porterref09_Join N x.1) (oRes (.v .str) 1)

theorem porterref09_Join_ct (N : Nat) : Contract Go.Proofs.Try.prog noGlob 18 (porterref09_Join_res N) :=
  Contract.of (E := porterref09_Join_E N) (H := porterref09_Join_t N) (L := porterref09_Join_L) (N := N) (body := porterref09_Join_body) (K := (kRes (.v .str) 1)) (porterref09_Join_Eok N) Go.Proofs.Try.func18 (by kernel_rfl) (by decide) (fun _ hb => (TabOk.cons (porterref09_Join_ok1 hb) TabOk.nil)) (fun x y h => by rw [porterref09_Join_link]; exact h) (kRes_ok (s := (.v .str)) (m := 1))

abbrev porterlaw09_NameWords_R : Type := Bool

noncomputable def porterlaw09_NameWords_body : Code := (Go.Proofs.Try.f4.body).getD .skip

noncomputable def porterlaw09_NameWords_L : List (List Nat × List Nat) := [([0], [0, 1]), ([0, 0, 1], [20, 0, 1]), ([1, 0, 1], [0, 1]), ([0, 0, 1, 0, 1], [4]), ([1, 0, 1, 0, 1], [4]), ([0, 1, 1], [0, 6, 5, 1]), ([0, 1, 1, 1], [6, 8, 5, 7, 1, 0]), ([0, 0, 1, 1, 1, 1], [56, 1]), ([1, 0, 1, 1, 1, 1], [1]), ([0, 0, 1, 0, 1, 1, 1, 1], [4]), ([1, 0, 1, 0, 1, 1, 1, 1], [4]), ([0, 1, 1, 1, 1, 1], [1, 9]), ([0, 0, 1, 1, 1, 1, 1, 1], [10, 1, 9]), ([0, 1, 0, 1, 1, 1, 1, 1, 1], [10, 1, 9]), ([0, 0, 0, 0, 1, 0, 1, 1, 1, 1, 1, 1], [63, 9, 1, 10]), ([1, 0, 0, 0, 1, 0, 1, 1, 1, 1, 1, 1], [9, 1, 10]), ([1, 1, 0, 0, 0, 1, 0, 1, 1, 1, 1, 1, 1], [1, 9]), ([0, 0, 1, 0, 0, 1, 0, 1, 1, 1, 1, 1, 1], [10, 1, 9]), ([0, 1, 0, 0, 1, 0, 1, 1, 1, 1, 1, 1], [10, 1, 9]), ([1, 1, 0, 0, 1, 0, 1, 1, 1, 1, 1, 1], [10, 1, 9]), ([1, 0, 1, 1, 1, 1, 1, 1], [1, 9]), ([0, 1, 1, 1, 1, 1, 1, 1], [9, 12, 11, 1]), ([0, 1, 1, 1, 1, 1, 1, 1, 1], [4]), ([1, 1, 1, 1, 1, 1, 1, 1, 1], [4])]

noncomputable def porterlaw09_NameWords_E (N : Nat) : Env := mkEnv tys noGlob [(18, porterref09_Join_res N), (16, porterbase_SameTexts_res N), (15, porterref09_Words_res N), (13, porterbase_Short_res N), (11, porterref09_Word_res N), (6, porterlaw09_works_res N), (17, name_Join_res N), (14, name_Words_res N)] [] [] [] false

theorem porterlaw09_NameWords_Eok (N : Nat) : EnvOk Go.Proofs.Try.prog (porterlaw09_NameWords_E N) := mkEnv_ok mixed tys_ok (FnsOk.cons (porterref09_Join_ct N) (FnsOk.cons (porterbase_SameTexts_ct N) (FnsOk.cons (porterref09_Words_ct N) (FnsOk.cons (porterbase_Short_ct N) (FnsOk.cons (porterref09_Word_ct N) (FnsOk.cons (porterlaw09_works_ct N) (FnsOk.cons (name_Join_ct N) (FnsOk.cons (name_Words_ct N) (FnsOk.nil)))))))))

noncomputable def porterlaw09_NameWords_p2 (N : Nat) (s : (List UInt8)) (l : (List (List UInt8))) (k0 : Bool → Option Bool) : Option Bool :=
  cond (decide ((400 : Int) < (((List.length s) : Nat) : Int)))
  (k0 true)
  ((porterbase_Short N l (20 : Int) (400 : Int)).bind fun y =>
    k0 (!y))

noncomputable def porterlaw09_NameWords_g2 (N : Nat) (x : denS [(0, .v .str), (0, .v (.sl .str))]) (K : Ex → List A → Option Bool) : Option Bool :=
  porterlaw09_NameWords_p2 N x.1 x.2.1 (fun a2 => (K .normal (mkS [(0, .v .str), (0, .v (.sl .str)), (18, .v .bool)] 72 (x.1, x.2.1, a2, ()))))

noncomputable def porterlaw09_NameWords_h2 (N : Nat) : Hd Bool := fun st K => (unS [(0, .v .str), (0, .v (.sl .str))] 91 (restr [0, 1] 0 st)).bind fun x => porterlaw09_NameWords_g2 N x K

noncomputable def porterlaw09_NameWords_t2 (N : Nat) : Tab Bool := []

theorem porterlaw09_NameWords_ok2 {N : Nat} {c : Ctx} (hb : Base Go.Proofs.Try.prog (porterlaw09_NameWords_E N) c) : CodeOk Go.Proofs.Try.prog c (nodeAt porterlaw09_NameWords_body [0, 0, 1]) (porterlaw09_NameWords_h2 N) :=
  piece_ok (s := [(0, .v .str), (0, .v (.sl .str))]) (m := 91) (g := porterlaw09_NameWords_g2 N) [0, 1] (evN_sound hb N (porterlaw09_NameWords_t2 N) porterlaw09_NameWords_L porterlaw09_NameWords_body TabOk.nil [0, 0, 1] _ rfl) (fun x K => by kernel_rfl)

noncomputable def porterlaw09_NameWords_p1 (N : Nat) (s : (List UInt8)) (l : (List (List UInt8))) (k0 : Bool → Option Bool) (k1 : Option Bool) : Option Bool :=
  porterlaw09_NameWords_p2 N s l
  (fun x20 => cond x20
    ((porterlaw09_works N).bind fun y =>
      k0 y)
    (k1))

noncomputable def porterlaw09_NameWords_g1 (N : Nat) (x : denS [(0, .v .str), (0, .v (.sl .str))]) (K : Ex → List A → Option Bool) : Option Bool :=
  porterlaw09_NameWords_p1 N x.1 x.2.1 (fun a0 => (K .ret (mkS [(4, .v .bool)] 88 (a0, ())))) (K .normal (mkS [(0, .v .str), (0, .v (.sl .str))] 91 (x.1, x.2.1, ())))

noncomputable def porterlaw09_NameWords_h1 (N : Nat) : Hd Bool := fun st K => (unS [(0, .v .str), (0, .v (.sl .str))] 91 (restr [0, 1] 0 st)).bind fun x => porterlaw09_NameWords_g1 N x K

noncomputable def porterlaw09_NameWords_t1 (N : Nat) : Tab Bool := [([0, 0, 1], porterlaw09_NameWords_h2 N)]

theorem porterlaw09_NameWords_ok1 {N : Nat} {c : Ctx} (hb : Base Go.Proofs.Try.prog (porterlaw09_NameWords_E N) c) : CodeOk Go.Proofs.Try.prog c (nodeAt porterlaw09_NameWords_body [0, 1]) (porterlaw09_NameWords_h1 N) :=
  piece_ok (s := [(0, .v .str), (0, .v (.sl .str))]) (m := 91) (g := porterlaw09_NameWords_g1 N) [0, 1] (evN_sound hb N (porterlaw09_NameWords_t1 N) porterlaw09_NameWords_L porterlaw09_NameWords_body (TabOk.cons (porterlaw09_NameWords_ok2 hb) TabOk.nil) [0, 1] _ rfl) (fun x K => by kernel_rfl)

noncomputable def porterlaw09_NameWords_p4 (N : Nat) (s : (List UInt8)) (l : (List (List UInt8))) (a : (List (List UInt8))) (is_ : Bool) (b : (List (List UInt8))) (has : Bool) (k0 : Bool → Option Bool) : Option Bool :=
  cond (!(is_ == has))
  (k0 true)
  ((porterbase_SameTexts N a b).bind fun y =>
    cond (!y)
    (k0 true)
    ((name_Join N l).bind fun y1 =>
      (porterref09_Join N l).bind fun y2 =>
      cond (!(y1 == y2))
      (k0 true)
      (cond is_
        ((name_Join N a).bind fun y3 =>
          k0 (!(y3 == s)))
        (k0 false))))

noncomputable def porterlaw09_NameWords_g4 (N : Nat) (x : denS [(0, .v .str), (0, .v (.sl .str)), (3, .v (.sl .str)), (0, .v .bool), (0, .v (.sl .str)), (0, .v .bool)]) (K : Ex → List A → Option Bool) : Option Bool :=
  porterlaw09_NameWords_p4 N x.1 x.2.1 x.2.2.1 x.2.2.2.1 x.2.2.2.2.1 x.2.2.2.2.2.1 (fun a1 => (K .normal (mkS [(1, .v (.sl .str)), (54, .v .bool)] 36 (x.2.1, a1, ()))))

noncomputable def porterlaw09_NameWords_h4 (N : Nat) : Hd Bool := fun st K => (unS [(0, .v .str), (0, .v (.sl .str)), (3, .v (.sl .str)), (0, .v .bool), (0, .v (.sl .str)), (0, .v .bool)] 84 (restr [6, 8, 5, 7, 1, 0] 0 st)).bind fun x => porterlaw09_NameWords_g4 N x K

noncomputable def porterlaw09_NameWords_t4 (N : Nat) : Tab Bool := []

theorem porterlaw09_NameWords_ok4 {N : Nat} {c : Ctx} (hb : Base Go.Proofs.Try.prog (porterlaw09_NameWords_E N) c) : CodeOk Go.Proofs.Try.prog c (nodeAt porterlaw09_NameWords_body [0, 0, 1, 1, 1, 1]) (porterlaw09_NameWords_h4 N) :=
  piece_ok (s := [(0, .v .str), (0, .v (.sl .str)), (3, .v (.sl .str)), (0, .v .bool), (0, .v (.sl .str)), (0, .v .bool)]) (m := 84) (g := porterlaw09_NameWords_g4 N) [6, 8, 5, 7, 1, 0] (evN_sound hb N (porterlaw09_NameWords_t4 N) porterlaw09_NameWords_L porterlaw09_NameWords_body TabOk.nil [0, 0, 1, 1, 1, 1] _ rfl) (fun x K => by kernel_rfl)

noncomputable def porterlaw09_NameWords_p3 (N : Nat) (s : (List UInt8)) (l : (List (List UInt8))) (a : (List (List UInt8))) (is_ : Bool) (b : (List (List UInt8))) (has : Bool) (k0 : Bool → Option Bool) (k1 : Option Bool) : Option Bool :=
  porterlaw09_NameWords_p4 N s l a is_ b has
  (fun x56 => cond x56
    (k0 false)
    (k1))

noncomputable def porterlaw09_NameWords_g3 (N : Nat) (x : denS [(0, .v .str), (0, .v (.sl .str)), (3, .v (.sl .str)), (0, .v .bool), (0, .v (.sl .str)), (0, .v .bool)]) (K : Ex → List A → Option Bool) : Option Bool :=
  porterlaw09_NameWords_p3 N x.1 x.2.1 x.2.2.1 x.2.2.2.1 x.2.2.2.2.1 x.2.2.2.2.2.1 (fun a0 => (K .ret (mkS [(4, .v .bool)] 88 (a0, ())))) (K .normal (mkS [(1, .v (.sl .str))] 91 (x.2.1, ())))

noncomputable def porterlaw09_NameWords_h3 (N : Nat) : Hd Bool := fun st K => (unS [(0, .v .str), (0, .v (.sl .str)), (3, .v (.sl .str)), (0, .v .bool), (0, .v (.sl .str)), (0, .v .bool)] 84 (restr [6, 8, 5, 7, 1, 0] 0 st)).bind fun x => porterlaw09_NameWords_g3 N x K

noncomputable def porterlaw09_NameWords_t3 (N : Nat) : Tab Bool := [([0, 0, 1, 1, 1, 1], porterlaw09_NameWords_h4 N)]

theorem porterlaw09_NameWords_ok3 {N : Nat} {c : Ctx} (hb : Base Go.Proofs.Try.prog (porterlaw09_NameWords_E N) c) : CodeOk Go.Proofs.Try.prog c (nodeAt porterlaw09_NameWords_body [0, 1, 1, 1, 1]) (porterlaw09_NameWords_h3 N) :=
  piece_ok (s := [(0, .v .str), (0, .v (.sl .str)), (3, .v (.sl .str)), (0, .v .bool), (0, .v (.sl .str)), (0, .v .bool)]) (m := 84) (g := porterlaw09_NameWords_g3 N) [6, 8, 5, 7, 1, 0] (evN_sound hb N (porterlaw09_NameWords_t3 N) porterlaw09_NameWords_L porterlaw09_NameWords_body (TabOk.cons (porterlaw09_NameWords_ok4 hb) TabOk.nil) [0, 1, 1, 1, 1] _ rfl) (fun x K => by kernel_rfl)

noncomputable def porterlaw09_NameWords_p6 (N : Nat) (l : (List (List UInt8))) (all : Bool) (i : Int) (k0 : Bool → Option Bool) : Option Bool :=
  cond all
  (cond (Go.Lift.inR i (List.length l))
    ((porterref09_Word N (List.getD l (Int.toNat i) ([] : List UInt8))).bind fun y =>
      k0 y)
    (none))
  (k0 false)

noncomputable def porterlaw09_NameWords_g6 (N : Nat) (x : denS [(1, .v (.sl .str)), (7, .v .bool), (0, .v (.int .i64))]) (K : Ex → List A → Option Bool) : Option Bool :=
  porterlaw09_NameWords_p6 N x.1 x.2.1 x.2.2.1 (fun a1 => (K .normal (mkS [(1, .v (.sl .str)), (7, .v .bool), (0, .v (.int .i64))] 82 (x.1, a1, x.2.2.1, ()))))

noncomputable def porterlaw09_NameWords_h6 (N : Nat) : Hd Bool := fun st K => (unS [(1, .v (.sl .str)), (7, .v .bool), (0, .v (.int .i64))] 82 (restr [9, 1, 10] 0 st)).bind fun x => porterlaw09_NameWords_g6 N x K

noncomputable def porterlaw09_NameWords_t6 (N : Nat) : Tab Bool := []

theorem porterlaw09_NameWords_ok6 {N : Nat} {c : Ctx} (hb : Base Go.Proofs.Try.prog (porterlaw09_NameWords_E N) c) : CodeOk Go.Proofs.Try.prog c (nodeAt porterlaw09_NameWords_body [0, 1, 0, 0, 1, 0, 1, 1, 1, 1, 1, 1]) (porterlaw09_NameWords_h6 N) :=
  piece_ok (s := [(1, .v (.sl .str)), (7, .v .bool), (0, .v (.int .i64))]) (m := 82) (g := porterlaw09_NameWords_g6 N) [9, 1, 10] (evN_sound hb N (porterlaw09_NameWords_t6 N) porterlaw09_NameWords_L porterlaw09_NameWords_body TabOk.nil [0, 1, 0, 0, 1, 0, 1, 1, 1, 1, 1, 1] _ rfl) (fun x K => by kernel_rfl)

noncomputable def porterlaw09_NameWords_s5 (N : Nat) (l : (List (List UInt8))) (all : Bool) (i : Int) (rec : Bool → Int → Option Bool) (k0 : Bool → Option Bool) : Option Bool :=
  cond (decide (i < (((List.length l) : Nat) : Int)))
  (porterlaw09_NameWords_p6 N l all i
    (fun all1 => rec all1 (Go.IntKind.wrap Go.IntKind.i64 (i + (1 : Int)))))
  (k0 all)

noncomputable def porterlaw09_NameWords_p5 (N : Nat) (l : (List (List UInt8))) (all : Bool) (i : Int) (k0 : Bool → Option Bool) : Option Bool :=
  iter (fun (v : (Bool × Int)) r => porterlaw09_NameWords_s5 N l v.1 v.2 (fun all i => (r (all, i))) k0) N (all, i)

noncomputable def porterlaw09_NameWords_g5 (N : Nat) (i : (List (List UInt8))) (v : (Bool × Int)) (r : (Bool × Int) → Option Bool) (K : Ex → List A → Option Bool) : Option Bool :=
  porterlaw09_NameWords_s5 N i v.1 v.2 (fun all i => (r (all, i))) (fun a1 => (K (.exit 0) (mkS [(1, .v (.sl .str)), (7, .v .bool)] 83 (i, a1, ()))))

noncomputable def porterlaw09_NameWords_h5 (N : Nat) : Hd Bool := fun st K => (unS [(1, .v (.sl .str)), (7, .v .bool), (0, .v (.int .i64))] 82 (restr [10, 1, 9] 0 st)).bind fun x => iter (fun v r => porterlaw09_NameWords_g5 N ((fun x => x.1) x) v r K) N ((fun x => (x.2.1, x.2.2.1)) x)

noncomputable def porterlaw09_NameWords_t5 (N : Nat) : Tab Bool := [([0, 1, 0, 0, 1, 0, 1, 1, 1, 1, 1, 1], porterlaw09_NameWords_h6 N)]

theorem porterlaw09_NameWords_ok5 {N : Nat} {c : Ctx} (hb : Base Go.Proofs.Try.prog (porterlaw09_NameWords_E N) c) : CodeOk Go.Proofs.Try.prog c (nodeAt porterlaw09_NameWords_body [0, 1, 0, 1, 1, 1, 1, 1, 1]) (porterlaw09_NameWords_h5 N) :=
  loop_ok (s := [(1, .v (.sl .str)), (7, .v .bool), (0, .v (.int .i64))]) (m := 82) (porterlaw09_NameWords_g5 N) [10, 1, 9] N (fun x => x.1) (fun x => (x.2.1, x.2.2.1)) (fun i v => (i, v.1, v.2, ())) (fun _ => rfl) (evN_sound hb N (porterlaw09_NameWords_t5 N) porterlaw09_NameWords_L porterlaw09_NameWords_body (TabOk.cons (porterlaw09_NameWords_ok6 hb) TabOk.nil) [0, 0, 1, 0, 1, 1, 1, 1, 1, 1] _ rfl) (fun i v r K => by kernel_rfl)

noncomputable def porterlaw09_NameWords (N : Nat) (s : (List UInt8)) (l : (List (List UInt8))) : Option Bool :=
  porterlaw09_NameWords_p1 N s l
  (fun x4 => some x4)
  ((name_Words N s).bind fun y =>
    (porterref09_Words N s).bind fun y1 =>
    porterlaw09_NameWords_p3 N s l y.1 y.2.1 y1.1 y1.2.1
    (fun x41 => some x41)
    (porterlaw09_NameWords_p5 N l (decide ((0 : Int) < (((List.length l) : Nat) : Int))) (0 : Int)
      (fun all => (name_Join N l).bind fun y2 =>
        (name_Words N y2).bind fun y3 =>
        cond (!all)
        ((porterlaw09_works N).bind fun y4 =>
          some y4)
        (cond y3.2.1
          ((porterbase_SameTexts N y3.1 l).bind fun y5 =>
            cond y5
            ((porterlaw09_works N).bind fun y6 =>
              some y6)
            (some false))
          (some false)))))

noncomputable def porterlaw09_NameWords_t (N : Nat) : Tab Bool := [([0, 1], porterlaw09_NameWords_h1 N), ([0, 1, 1, 1, 1], porterlaw09_NameWords_h3 N), ([0, 1, 0, 1, 1, 1, 1, 1, 1], porterlaw09_NameWords_h5 N)]

theorem porterlaw09_NameWords_link (N : Nat) (x : denS [(0, .v .str), (0, .v (.sl .str))]) : evFX (porterlaw09_NameWords_E N) N (porterlaw09_NameWords_t N) porterlaw09_NameWords_L Go.Proofs.Try.f4 (mkS [(0, .v .str), (0, .v (.sl .str))] 0 x) (kRes (.v .bool) 2) = porterlaw09_NameWords N x.1 x.2.1 := by kernel_rfl

noncomputable def porterlaw09_NameWords_res (N : Nat) : List A → Res := resOf [(0, .v .str), (0, .v (.sl .str))] (fun x => porterlaw09_NameWords N x.1 x.2.1) (oRes (.v .bool) 2)

theorem porterlaw09_NameWords_ct (N : Nat) : Contract Go.Proofs.Try.prog noGlob 4 (porterlaw09_NameWords_res N) :=
  Contract.of (E := porterlaw09_NameWords_E N) (H := porterlaw09_NameWords_t N) (L := porterlaw09_NameWords_L) (N := N) (body := porterlaw09_NameWords_body) (K := (kRes (.v .bool) 2)) (porterlaw09_NameWords_Eok N) Go.Proofs.Try.func4 (by kernel_rfl) (by decide) (fun _ hb => (TabOk.cons (porterlaw09_NameWords_ok1 hb) (TabOk.cons (porterlaw09_NameWords_ok3 hb) (TabOk.cons (porterlaw09_NameWords_ok5 hb) TabOk.nil)))) (fun x y h => by rw [porterlaw09_NameWords_link]; exact h) (kRes_ok (s := (.v .bool)) (m := 2))

abbrev porterlaw09_NameWhole_R : Type := Bool

noncomputable def porterlaw09_NameWhole_body : Code := (Go.Proofs.Try.f5.body).getD .skip

noncomputable def porterlaw09_NameWhole_L : List (List Nat × List Nat) := [([0], [0, 1, 2]), ([0, 0, 1], [28, 0, 1, 2]), ([1, 0, 1], [0, 1, 2]), ([0, 0, 1, 0, 1], [6]), ([1, 0, 1, 0, 1], [6]), ([0, 1, 1], [0, 1, 7, 8]), ([0, 1, 1, 1], [7, 1, 8, 0, 9, 10]), ([0, 1, 1, 1, 1], [6]), ([1, 1, 1, 1, 1], [6])]

noncomputable def porterlaw09_NameWhole_E (N : Nat) : Env := mkEnv tys noGlob [(6, porterlaw09_works_res N), (8, name_Label_res N), (7, name_Cut_res N)] [] [] [] false

theorem porterlaw09_NameWhole_Eok (N : Nat) : EnvOk Go.Proofs.Try.prog (porterlaw09_NameWhole_E N) := mkEnv_ok mixed tys_ok (FnsOk.cons (porterlaw09_works_ct N) (FnsOk.cons (name_Label_ct N) (FnsOk.cons (name_Cut_ct N) (FnsOk.nil))))

noncomputable def porterlaw09_NameWhole_p2 (N : Nat) (a : (List UInt8)) (b : (List UInt8)) (s : (List UInt8)) (k0 : Bool → Option Bool) : Option Bool :=
  cond (decide ((100 : Int) < (((List.length a) : Nat) : Int)))
  (k0 true)
  (cond (decide ((100 : Int) < (((List.length b) : Nat) : Int)))
    (k0 true)
    (cond (decide ((100 : Int) < (((List.length s) : Nat) : Int)))
      (k0 true)
      ((name_Label N b).bind fun y =>
        k0 (!y))))

noncomputable def porterlaw09_NameWhole_g2 (N : Nat) (x : denS [(0, .v .str), (0, .v .str), (0, .v .str)]) (K : Ex → List A → Option Bool) : Option Bool :=
  porterlaw09_NameWhole_p2 N x.1 x.2.1 x.2.2.1 (fun a3 => (K .normal (mkS [(0, .v .str), (0, .v .str), (0, .v .str), (25, .v .bool)] 47 (x.1, x.2.1, x.2.2.1, a3, ()))))

noncomputable def porterlaw09_NameWhole_h2 (N : Nat) : Hd Bool := fun st K => (unS [(0, .v .str), (0, .v .str), (0, .v .str)] 73 (restr [0, 1, 2] 0 st)).bind fun x => porterlaw09_NameWhole_g2 N x K

noncomputable def porterlaw09_NameWhole_t2 (N : Nat) : Tab Bool := []

theorem porterlaw09_NameWhole_ok2 {N : Nat} {c : Ctx} (hb : Base Go.Proofs.Try.prog (porterlaw09_NameWhole_E N) c) : CodeOk Go.Proofs.Try.prog c (nodeAt porterlaw09_NameWhole_body [0, 0, 1]) (porterlaw09_NameWhole_h2 N) :=
  piece_ok (s := [(0, .v .str), (0, .v .str), (0, .v .str)]) (m := 73) (g := porterlaw09_NameWhole_g2 N) [0, 1, 2] (evN_sound hb N (porterlaw09_NameWhole_t2 N) porterlaw09_NameWhole_L porterlaw09_NameWhole_body TabOk.nil [0, 0, 1] _ rfl) (fun x K => by kernel_rfl)

noncomputable def porterlaw09_NameWhole_p1 (N : Nat) (a : (List UInt8)) (b : (List UInt8)) (s : (List UInt8)) (k0 : Bool → Option Bool) (k1 : Option Bool) : Option Bool :=
  porterlaw09_NameWhole_p2 N a b s
  (fun x28 => cond x28
    ((porterlaw09_works N).bind fun y =>
      k0 y)
    (k1))

noncomputable def porterlaw09_NameWhole_g1 (N : Nat) (x : denS [(0, .v .str), (0, .v .str), (0, .v .str)]) (K : Ex → List A → Option Bool) : Option Bool :=
  porterlaw09_NameWhole_p1 N x.1 x.2.1 x.2.2.1 (fun a0 => (K .ret (mkS [(6, .v .bool)] 69 (a0, ())))) (K .normal (mkS [(0, .v .str), (0, .v .str), (0, .v .str)] 73 (x.1, x.2.1, x.2.2.1, ())))

noncomputable def porterlaw09_NameWhole_h1 (N : Nat) : Hd Bool := fun st K => (unS [(0, .v .str), (0, .v .str), (0, .v .str)] 73 (restr [0, 1, 2] 0 st)).bind fun x => porterlaw09_NameWhole_g1 N x K

noncomputable def porterlaw09_NameWhole_t1 (N : Nat) : Tab Bool := [([0, 0, 1], porterlaw09_NameWhole_h2 N)]

theorem porterlaw09_NameWhole_ok1 {N : Nat} {c : Ctx} (hb : Base Go.Proofs.Try.prog (porterlaw09_NameWhole_E N) c) : CodeOk Go.Proofs.Try.prog c (nodeAt porterlaw09_NameWhole_body [0, 1]) (porterlaw09_NameWhole_h1 N) :=
  piece_ok (s := [(0, .v .str), (0, .v .str), (0, .v .str)]) (m := 73) (g := porterlaw09_NameWhole_g1 N) [0, 1, 2] (evN_sound hb N (porterlaw09_NameWhole_t1 N) porterlaw09_NameWhole_L porterlaw09_NameWhole_body (TabOk.cons (porterlaw09_NameWhole_ok2 hb) TabOk.nil) [0, 1] _ rfl) (fun x K => by kernel_rfl)

noncomputable def porterlaw09_NameWhole (N : Nat) (a : (List UInt8)) (b : (List UInt8)) (s : (List UInt8)) : Option Bool :=
  porterlaw09_NameWhole_p1 N a b s
  (fun x6 => some x6)
  (cond (decide (((List.length a) + (List.length b)) ≤ 9223372036854775807))
    (cond (decide (((List.length (a ++ b)) + 1) ≤ 9223372036854775807))
      (cond (decide (((List.length ((a ++ b) ++ ([(61 : UInt8)] : List UInt8))) + (List.length s)) ≤ 9223372036854775807))
        ((name_Cut N (((a ++ b) ++ ([(61 : UInt8)] : List UInt8)) ++ s) (((List.length a) : Nat) : Int)).bind fun y =>
          cond (decide (((List.length a) + (List.length b)) ≤ 9223372036854775807))
          ((name_Cut N (a ++ b) (((List.length a) : Nat) : Int)).bind fun y1 =>
            cond (y.1 == b)
            (cond (y.2.1 == (Go.IntKind.wrap Go.IntKind.i64 ((((List.length a) : Nat) : Int) + (((List.length b) : Nat) : Int))))
              (cond (y1.1 == b)
                (cond (y1.2.1 == y.2.1)
                  ((porterlaw09_works N).bind fun y2 =>
                    some y2)
                  (some false))
                (some false))
              (some false))
            (some false))
          (none))
        (none))
      (none))
    (none))

noncomputable def porterlaw09_NameWhole_t (N : Nat) : Tab Bool := [([0, 1], porterlaw09_NameWhole_h1 N)]

theorem porterlaw09_NameWhole_link (N : Nat) (x : denS [(0, .v .str), (0, .v .str), (0, .v .str)]) : evFX (porterlaw09_NameWhole_E N) N (porterlaw09_NameWhole_t N) porterlaw09_NameWhole_L Go.Proofs.Try.f5 (mkS [(0, .v .str), (0, .v .str), (0, .v .str)] 0 x) (kRes (.v .bool) 3) = porterlaw09_NameWhole N x.1 x.2.1 x.2.2.1 := by kernel_rfl

noncomputable def porterlaw09_NameWhole_res (N : Nat) : List A → Res := resOf [(0, .v .str), (0, .v .str), (0, .v .str)] (fun x => porterlaw09_NameWhole N x.1 x.2.1 x.2.2.1) (oRes (.v .bool) 3)

theorem porterlaw09_NameWhole_ct (N : Nat) : Contract Go.Proofs.Try.prog noGlob 5 (porterlaw09_NameWhole_res N) :=
  Contract.of (E := porterlaw09_NameWhole_E N) (H := porterlaw09_NameWhole_t N) (L := porterlaw09_NameWhole_L) (N := N) (body := porterlaw09_NameWhole_body) (K := (kRes (.v .bool) 3)) (porterlaw09_NameWhole_Eok N) Go.Proofs.Try.func5 (by kernel_rfl) (by decide) (fun _ hb => (TabOk.cons (porterlaw09_NameWhole_ok1 hb) TabOk.nil)) (fun x y h => by rw [porterlaw09_NameWhole_link]; exact h) (kRes_ok (s := (.v .bool)) (m := 3))

end Go.Proofs.YtpnjnnhedadjgaaLf
