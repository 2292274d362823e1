/- The plain functions that the law reaches, what their calls do, and what they give (own work, in one text). -/
import Derived.Test.YtofhmgagieigoaaLgPrPra2
import Derived.WalkKit
import Derived.Tactics
import Derived.Tactics2
import Derived.Defers
import Derived.Lib.Hide
import Derived.Below
import Derived.Recover
import Derived.Orders
import Derived.WalkSmall
import Derived.LoopN
import Derived.Deep.RegionHeld3
import Derived.Laws.IdiomStrings
import Derived.Test.YtofhmgagieigoaaLgW
import Derived.Test.YtofhmgagieigoaaChecked
import Derived.KernelRfl
/- The functions of the seat, as plain functions, and what their calls do. Printed by a program of mine; checked here. -/
set_option linter.all false
set_option maxRecDepth 100000
namespace Go.Proofs.YtofhmgagieigoaaLg
open Go Go.Lift

noncomputable def ty3 : TyI := ⟨(Go.TypeDesc.int Go.IntKind.i64), 1, 8, (.int .i64), (0 : Int), false⟩

theorem ty3_ok : TyOk Go.Proofs.Try.prog 3 ty3 := TyOk.of (by kernel_rfl) (by kernel_rfl) (by kernel_rfl) (by kernel_rfl)

noncomputable def ty4 : TyI := ⟨Go.TypeDesc.bool, 1, 1, .bool, false, false⟩

theorem ty4_ok : TyOk Go.Proofs.Try.prog 4 ty4 := TyOk.of (by kernel_rfl) (by kernel_rfl) (by kernel_rfl) (by kernel_rfl)

noncomputable def ty5 : TyI := ⟨(Go.TypeDesc.int Go.IntKind.u8), 1, 1, (.int .u8), (0 : Int), false⟩

theorem ty5_ok : TyOk Go.Proofs.Try.prog 5 ty5 := TyOk.of (by kernel_rfl) (by kernel_rfl) (by kernel_rfl) (by kernel_rfl)

noncomputable def ty9 : TyI := ⟨Go.TypeDesc.string, 1, 16, .str, ([] : List UInt8), false⟩

theorem ty9_ok : TyOk Go.Proofs.Try.prog 9 ty9 := TyOk.of (by kernel_rfl) (by kernel_rfl) (by kernel_rfl) (by kernel_rfl)

noncomputable def ty21 : TyI := ⟨(Go.TypeDesc.int Go.IntKind.i32), 1, 4, (.int .i32), (0 : Int), false⟩

theorem ty21_ok : TyOk Go.Proofs.Try.prog 21 ty21 := TyOk.of (by kernel_rfl) (by kernel_rfl) (by kernel_rfl) (by kernel_rfl)

noncomputable def ty23 : TyI := ⟨(Go.TypeDesc.struct (List.toArray ([(Go.Field.mk "Name" 9 0 false "" "" 0), (Go.Field.mk "Cap" 3 1 false "" "" 16), (Go.Field.mk "Fill" 3 2 false "" "" 24)] : List Go.Field))), 3, 32, (.pair .str (.pair (.int .i64) (.pair (.int .i64) .unit))), (([] : List UInt8), (0 : Int), (0 : Int), ()), true⟩

theorem ty23_ok : TyOk Go.Proofs.Try.prog 23 ty23 := TyOk.of (by kernel_rfl) (by kernel_rfl) (by kernel_rfl) (by kernel_rfl)

noncomputable def ty24 : TyI := ⟨(Go.TypeDesc.slice 36), 1, 24, (.sl (.pair .str (.pair (.int .i64) (.pair (.int .i64) (.pair (.sl (.pair (.int .i64) (.pair .str .unit))) .unit))))), ([] : List ((List UInt8) × (Int × (Int × ((List (Int × ((List UInt8) × Unit))) × Unit))))), false⟩

theorem ty24_ok : TyOk Go.Proofs.Try.prog 24 ty24 := TyOk.of (by kernel_rfl) (by kernel_rfl) (by kernel_rfl) (by kernel_rfl)

noncomputable def ty26 : TyI := ⟨(Go.TypeDesc.struct (List.toArray ([(Go.Field.mk "Tenants" 24 0 false "" "" 0), (Go.Field.mk "Serial" 3 1 false "" "" 24)] : List Go.Field))), 2, 32, (.pair (.sl (.pair .str (.pair (.int .i64) (.pair (.int .i64) (.pair (.sl (.pair (.int .i64) (.pair .str .unit))) .unit))))) (.pair (.int .i64) .unit)), (([] : List ((List UInt8) × (Int × (Int × ((List (Int × ((List UInt8) × Unit))) × Unit))))), (0 : Int), ()), true⟩

theorem ty26_ok : TyOk Go.Proofs.Try.prog 26 ty26 := TyOk.of (by kernel_rfl) (by kernel_rfl) (by kernel_rfl) (by kernel_rfl)

noncomputable def ty34 : TyI := ⟨(Go.TypeDesc.slice 48), 1, 24, (.sl (.pair (.int .i64) (.pair .str .unit))), ([] : List (Int × ((List UInt8) × Unit))), false⟩

theorem ty34_ok : TyOk Go.Proofs.Try.prog 34 ty34 := TyOk.of (by kernel_rfl) (by kernel_rfl) (by kernel_rfl) (by kernel_rfl)

noncomputable def ty36 : TyI := ⟨(Go.TypeDesc.struct (List.toArray ([(Go.Field.mk "Name" 9 0 false "" "" 0), (Go.Field.mk "Epoch" 3 1 false "" "" 16), (Go.Field.mk "Next" 3 2 false "" "" 24), (Go.Field.mk "Keys" 34 3 false "" "" 32)] : List Go.Field))), 4, 56, (.pair .str (.pair (.int .i64) (.pair (.int .i64) (.pair (.sl (.pair (.int .i64) (.pair .str .unit))) .unit)))), (([] : List UInt8), (0 : Int), (0 : Int), ([] : List (Int × ((List UInt8) × Unit))), ()), true⟩

theorem ty36_ok : TyOk Go.Proofs.Try.prog 36 ty36 := TyOk.of (by kernel_rfl) (by kernel_rfl) (by kernel_rfl) (by kernel_rfl)

noncomputable def ty37 : TyI := ⟨(Go.TypeDesc.slice 45), 1, 24, (.sl (.pair (.int .i64) (.pair .str (.pair (.int .i64) (.pair (.int .i64) (.pair .str .unit)))))), ([] : List (Int × ((List UInt8) × (Int × (Int × ((List UInt8) × Unit)))))), false⟩

theorem ty37_ok : TyOk Go.Proofs.Try.prog 37 ty37 := TyOk.of (by kernel_rfl) (by kernel_rfl) (by kernel_rfl) (by kernel_rfl)

noncomputable def ty39 : TyI := ⟨(Go.TypeDesc.int Go.IntKind.i64), 1, 8, (.int .i64), (0 : Int), false⟩

theorem ty39_ok : TyOk Go.Proofs.Try.prog 39 ty39 := TyOk.of (by kernel_rfl) (by kernel_rfl) (by kernel_rfl) (by kernel_rfl)

noncomputable def ty45 : TyI := ⟨(Go.TypeDesc.struct (List.toArray ([(Go.Field.mk "Kind" 3 0 false "" "" 0), (Go.Field.mk "Tenant" 9 1 false "" "" 8), (Go.Field.mk "Num" 3 2 false "" "" 24), (Go.Field.mk "Epoch" 3 3 false "" "" 32), (Go.Field.mk "Text" 9 4 false "" "" 40)] : List Go.Field))), 5, 56, (.pair (.int .i64) (.pair .str (.pair (.int .i64) (.pair (.int .i64) (.pair .str .unit))))), ((0 : Int), ([] : List UInt8), (0 : Int), (0 : Int), ([] : List UInt8), ()), true⟩

theorem ty45_ok : TyOk Go.Proofs.Try.prog 45 ty45 := TyOk.of (by kernel_rfl) (by kernel_rfl) (by kernel_rfl) (by kernel_rfl)

noncomputable def ty48 : TyI := ⟨(Go.TypeDesc.struct (List.toArray ([(Go.Field.mk "Num" 3 0 false "" "" 0), (Go.Field.mk "Text" 9 1 false "" "" 8)] : List Go.Field))), 2, 24, (.pair (.int .i64) (.pair .str .unit)), ((0 : Int), ([] : List UInt8), ()), true⟩

theorem ty48_ok : TyOk Go.Proofs.Try.prog 48 ty48 := TyOk.of (by kernel_rfl) (by kernel_rfl) (by kernel_rfl) (by kernel_rfl)

noncomputable def ty50 : TyI := ⟨(Go.TypeDesc.pointer 53), 1, 8, .opq, (Go.Value.pointer none), false⟩

theorem ty50_ok : TyOk Go.Proofs.Try.prog 50 ty50 := TyOk.of (by kernel_rfl) (by kernel_rfl) (by kernel_rfl) (by kernel_rfl)

noncomputable def ty51 : TyI := ⟨(Go.TypeDesc.slice 5), 1, 24, (.sl (.int .u8)), ([] : List Int), false⟩

theorem ty51_ok : TyOk Go.Proofs.Try.prog 51 ty51 := TyOk.of (by kernel_rfl) (by kernel_rfl) (by kernel_rfl) (by kernel_rfl)

noncomputable def ty53 : TyI := ⟨(Go.TypeDesc.struct (List.toArray ([(Go.Field.mk "addr" 50 0 false "" "strings" 0), (Go.Field.mk "buf" 51 1 false "" "strings" 8)] : List Go.Field))), 2, 32, (.pair .opq (.pair (.sl (.int .u8)) .unit)), ((Go.Value.pointer none), ([] : List Int), ()), true⟩

theorem ty53_ok : TyOk Go.Proofs.Try.prog 53 ty53 := TyOk.of (by kernel_rfl) (by kernel_rfl) (by kernel_rfl) (by kernel_rfl)

noncomputable def ty55 : TyI := ⟨(Go.TypeDesc.interface (List.toArray ([("Error", 62)] : List (String × Nat)))), 1, 16, .opq, Go.Value.nilIface, false⟩

theorem ty55_ok : TyOk Go.Proofs.Try.prog 55 ty55 := TyOk.of (by kernel_rfl) (by kernel_rfl) (by kernel_rfl) (by kernel_rfl)

noncomputable def ty59 : TyI := ⟨(Go.TypeDesc.int Go.IntKind.u64), 1, 8, (.int .u64), (0 : Int), false⟩

theorem ty59_ok : TyOk Go.Proofs.Try.prog 59 ty59 := TyOk.of (by kernel_rfl) (by kernel_rfl) (by kernel_rfl) (by kernel_rfl)

noncomputable def ty65 : TyI := ⟨(Go.TypeDesc.pointer 3), 1, 8, .opq, (Go.Value.pointer none), false⟩

theorem ty65_ok : TyOk Go.Proofs.Try.prog 65 ty65 := TyOk.of (by kernel_rfl) (by kernel_rfl) (by kernel_rfl) (by kernel_rfl)

noncomputable def ty66 : TyI := ⟨(Go.TypeDesc.array 2 65), 2, 16, (.arr 2 .opq), ([(Go.Value.pointer none), (Go.Value.pointer none)] : List Go.Value), true⟩

theorem ty66_ok : TyOk Go.Proofs.Try.prog 66 ty66 := TyOk.of (by kernel_rfl) (by kernel_rfl) (by kernel_rfl) (by kernel_rfl)

noncomputable def ty68 : TyI := ⟨(Go.TypeDesc.pointer 45), 1, 8, .opq, (Go.Value.pointer none), false⟩

theorem ty68_ok : TyOk Go.Proofs.Try.prog 68 ty68 := TyOk.of (by kernel_rfl) (by kernel_rfl) (by kernel_rfl) (by kernel_rfl)

noncomputable def ty70 : TyI := ⟨(Go.TypeDesc.slice 65), 1, 24, (.sl .opq), ([] : List Go.Value), false⟩

theorem ty70_ok : TyOk Go.Proofs.Try.prog 70 ty70 := TyOk.of (by kernel_rfl) (by kernel_rfl) (by kernel_rfl) (by kernel_rfl)

noncomputable def ty79 : TyI := ⟨(Go.TypeDesc.int Go.IntKind.u64), 1, 8, (.int .u64), (0 : Int), false⟩

theorem ty79_ok : TyOk Go.Proofs.Try.prog 79 ty79 := TyOk.of (by kernel_rfl) (by kernel_rfl) (by kernel_rfl) (by kernel_rfl)

noncomputable def ty81 : TyI := ⟨(Go.TypeDesc.func (List.toArray ([21, 4] : List Nat)) (List.toArray ([4] : List Nat)) false), 1, 8, .opq, Go.Value.nilFunc, false⟩

theorem ty81_ok : TyOk Go.Proofs.Try.prog 81 ty81 := TyOk.of (by kernel_rfl) (by kernel_rfl) (by kernel_rfl) (by kernel_rfl)

noncomputable def tys : List (Nat × TyI) := [(3, ty3), (4, ty4), (5, ty5), (9, ty9), (21, ty21), (23, ty23), (24, ty24), (26, ty26), (34, ty34), (36, ty36), (37, ty37), (39, ty39), (45, ty45), (48, ty48), (50, ty50), (51, ty51), (53, ty53), (55, ty55), (59, ty59), (65, ty65), (66, ty66), (68, ty68), (70, ty70), (79, ty79), (81, ty81)]

theorem tys_ok : TysOk Go.Proofs.Try.prog tys := TysOk.cons ty3_ok (TysOk.cons ty4_ok (TysOk.cons ty5_ok (TysOk.cons ty9_ok (TysOk.cons ty21_ok (TysOk.cons ty23_ok (TysOk.cons ty24_ok (TysOk.cons ty26_ok (TysOk.cons ty34_ok (TysOk.cons ty36_ok (TysOk.cons ty37_ok (TysOk.cons ty39_ok (TysOk.cons ty45_ok (TysOk.cons ty48_ok (TysOk.cons ty50_ok (TysOk.cons ty51_ok (TysOk.cons ty53_ok (TysOk.cons ty55_ok (TysOk.cons ty59_ok (TysOk.cons ty65_ok (TysOk.cons ty66_ok (TysOk.cons ty68_ok (TysOk.cons ty70_ok (TysOk.cons ty79_ok (TysOk.cons ty81_ok (TysOk.nil)))))))))))))))))))))))))

theorem mixed : Go.Proofs.Try.prog.follows .mixedOrders = true := by kernel_rfl

noncomputable def porterref38_Great_body : Code := (Go.Proofs.Try.f4.body).getD .skip

noncomputable def porterref38_Great_L : List (List Nat × List Nat) := [([0], [1]), ([0, 0, 1], [7, 1]), ([1, 0, 1], [1]), ([0, 0, 1, 0, 1], [2]), ([1, 0, 1, 0, 1], [2]), ([0, 0, 1, 1], [3, 1]), ([0, 1, 0, 1, 1], [3, 1]), ([0, 0, 0, 0, 1, 0, 1, 1], [12, 1, 3]), ([1, 0, 0, 0, 1, 0, 1, 1], [1, 3]), ([1, 1, 0, 0, 0, 1, 0, 1, 1], []), ([0, 0, 0, 1, 0, 0, 1, 0, 1, 1], [32, 3, 1]), ([1, 0, 0, 1, 0, 0, 1, 0, 1, 1], [3, 1]), ([0, 0, 1, 0, 0, 1, 0, 0, 1, 0, 1, 1], [2]), ([1, 0, 1, 0, 0, 1, 0, 0, 1, 0, 1, 1], [2]), ([0, 1, 0, 0, 1, 0, 1, 1], [3, 1]), ([1, 1, 0, 0, 1, 0, 1, 1], [3, 1]), ([1, 0, 1, 1], []), ([0, 1, 1, 1], [2]), ([1, 1, 1, 1], [2])]

noncomputable def porterref38_Great_E (N : Nat) : Env := mkEnv tys noGlob [] [] [] [] false [] []

theorem porterref38_Great_Eok (N : Nat) : EnvOk Go.Proofs.Try.prog (porterref38_Great_E N) := mkEnv_ok mixed tys_ok (FnsOk.nil) (ItsOk.nil)

noncomputable def porterref38_Great_p3 (N : Nat) (s : ((List ((List UInt8) × (Int × (Int × ((List (Int × ((List UInt8) × Unit))) × Unit))))) × (Int × Unit))) (i : Int) (k0 : Bool → Option Bool) : Option Bool :=
  cond (Go.Lift.inR i (List.length s.1))
  (cond (decide ((12 : Int) < (((List.length (List.getD s.1 (Int.toNat i) (([] : List UInt8), ((0 : Int), ((0 : Int), (([] : List (Int × ((List UInt8) × Unit))), ()))))).2.2.2.1) : Nat) : Int)))
    (k0 true)
    (cond (Go.Lift.inR i (List.length s.1))
      (k0 (decide ((100 : Int) < (((List.length (List.getD s.1 (Int.toNat i) (([] : List UInt8), ((0 : Int), ((0 : Int), (([] : List (Int × ((List UInt8) × Unit))), ()))))).1) : Nat) : Int))))
      (none)))
  (none)

noncomputable def porterref38_Great_g3 (N : Nat) (x : denS [(1, .box (.pair (.sl (.pair .str (.pair (.int .i64) (.pair (.int .i64) (.pair (.sl (.pair (.int .i64) (.pair .str .unit))) .unit))))) (.pair (.int .i64) .unit))), (1, .v (.int .i64))]) (K : Ex → List A → Option Bool) : Option Bool :=
  porterref38_Great_p3 N x.1 x.2.1 (fun a2 => (K .normal (mkS [(1, .box (.pair (.sl (.pair .str (.pair (.int .i64) (.pair (.int .i64) (.pair (.sl (.pair (.int .i64) (.pair .str .unit))) .unit))))) (.pair (.int .i64) .unit))), (1, .v (.int .i64)), (28, .v .bool)] 0 (x.1, x.2.1, a2, ()))))

noncomputable def porterref38_Great_h3 (N : Nat) : Hd Bool := fun st K => (unS [(1, .box (.pair (.sl (.pair .str (.pair (.int .i64) (.pair (.int .i64) (.pair (.sl (.pair (.int .i64) (.pair .str .unit))) .unit))))) (.pair (.int .i64) .unit))), (1, .v (.int .i64))] 29 (restr [1, 3] 0 st)).bind fun x => porterref38_Great_g3 N x K

noncomputable def porterref38_Great_t3 (N : Nat) : Tab Bool := []

theorem porterref38_Great_ok3 {N : Nat} {c : Ctx} (hb : Base Go.Proofs.Try.prog (porterref38_Great_E N) c) : CodeOk Go.Proofs.Try.prog c (nodeAt porterref38_Great_body [0, 0, 0, 1, 0, 0, 1, 0, 1, 1]) (porterref38_Great_h3 N) :=
  piece_ok (s := [(1, .box (.pair (.sl (.pair .str (.pair (.int .i64) (.pair (.int .i64) (.pair (.sl (.pair (.int .i64) (.pair .str .unit))) .unit))))) (.pair (.int .i64) .unit))), (1, .v (.int .i64))]) (m := 29) (g := porterref38_Great_g3 N) [1, 3] (evN_sound hb N (porterref38_Great_t3 N) porterref38_Great_L porterref38_Great_body TabOk.nil [0, 0, 0, 1, 0, 0, 1, 0, 1, 1] _ rfl) (fun x K => by kernel_rfl)

noncomputable def porterref38_Great_p2 (N : Nat) (s : ((List ((List UInt8) × (Int × (Int × ((List (Int × ((List UInt8) × Unit))) × Unit))))) × (Int × Unit))) (i : Int) (k0 : Bool → Option Bool) (k1 : Option Bool) : Option Bool :=
  porterref38_Great_p3 N s i
  (fun x32 => cond x32
    (k0 true)
    (k1))

noncomputable def porterref38_Great_g2 (N : Nat) (x : denS [(1, .box (.pair (.sl (.pair .str (.pair (.int .i64) (.pair (.int .i64) (.pair (.sl (.pair (.int .i64) (.pair .str .unit))) .unit))))) (.pair (.int .i64) .unit))), (1, .v (.int .i64))]) (K : Ex → List A → Option Bool) : Option Bool :=
  porterref38_Great_p2 N x.1 x.2.1 (fun a0 => (K .ret (mkS [(2, .v .bool)] 30 (a0, ())))) (K .normal (mkS [(1, .box (.pair (.sl (.pair .str (.pair (.int .i64) (.pair (.int .i64) (.pair (.sl (.pair (.int .i64) (.pair .str .unit))) .unit))))) (.pair (.int .i64) .unit))), (1, .v (.int .i64))] 29 (x.1, x.2.1, ())))

noncomputable def porterref38_Great_h2 (N : Nat) : Hd Bool := fun st K => (unS [(1, .box (.pair (.sl (.pair .str (.pair (.int .i64) (.pair (.int .i64) (.pair (.sl (.pair (.int .i64) (.pair .str .unit))) .unit))))) (.pair (.int .i64) .unit))), (1, .v (.int .i64))] 29 (restr [1, 3] 0 st)).bind fun x => porterref38_Great_g2 N x K

noncomputable def porterref38_Great_t2 (N : Nat) : Tab Bool := [([0, 0, 0, 1, 0, 0, 1, 0, 1, 1], porterref38_Great_h3 N)]

theorem porterref38_Great_ok2 {N : Nat} {c : Ctx} (hb : Base Go.Proofs.Try.prog (porterref38_Great_E N) c) : CodeOk Go.Proofs.Try.prog c (nodeAt porterref38_Great_body [0, 1, 0, 0, 1, 0, 1, 1]) (porterref38_Great_h2 N) :=
  piece_ok (s := [(1, .box (.pair (.sl (.pair .str (.pair (.int .i64) (.pair (.int .i64) (.pair (.sl (.pair (.int .i64) (.pair .str .unit))) .unit))))) (.pair (.int .i64) .unit))), (1, .v (.int .i64))]) (m := 29) (g := porterref38_Great_g2 N) [1, 3] (evN_sound hb N (porterref38_Great_t2 N) porterref38_Great_L porterref38_Great_body (TabOk.cons (porterref38_Great_ok3 hb) TabOk.nil) [0, 1, 0, 0, 1, 0, 1, 1] _ rfl) (fun x K => by kernel_rfl)

noncomputable def porterref38_Great_s1 (N : Nat) (s : ((List ((List UInt8) × (Int × (Int × ((List (Int × ((List UInt8) × Unit))) × Unit))))) × (Int × Unit))) (i : Int) (rec : Int → Option Bool) (k0 : Bool → Option Bool) (k1 : Option Bool) : Option Bool :=
  cond (decide (i < (((List.length s.1) : Nat) : Int)))
  (porterref38_Great_p2 N s i
    (fun x2 => k0 x2)
    (rec (Go.IntKind.wrap Go.IntKind.i64 (i + (1 : Int)))))
  (k1)

noncomputable def porterref38_Great_p1 (N : Nat) (s : ((List ((List UInt8) × (Int × (Int × ((List (Int × ((List UInt8) × Unit))) × Unit))))) × (Int × Unit))) (i : Int) (k0 : Bool → Option Bool) (k1 : Option Bool) : Option Bool :=
  iter (fun (v : Int) r => porterref38_Great_s1 N s v (fun i => (r i)) k0 k1) N i

noncomputable def porterref38_Great_g1 (N : Nat) (i : ((List ((List UInt8) × (Int × (Int × ((List (Int × ((List UInt8) × Unit))) × Unit))))) × (Int × Unit))) (v : Int) (r : Int → Option Bool) (K : Ex → List A → Option Bool) : Option Bool :=
  porterref38_Great_s1 N i v (fun i => (r i)) (fun a0 => (K .ret (mkS [(2, .v .bool)] 30 (a0, ())))) (K (.exit 0) (mkS [] 33 ()))

noncomputable def porterref38_Great_h1 (N : Nat) : Hd Bool := fun st K => (unS [(1, .box (.pair (.sl (.pair .str (.pair (.int .i64) (.pair (.int .i64) (.pair (.sl (.pair (.int .i64) (.pair .str .unit))) .unit))))) (.pair (.int .i64) .unit))), (1, .v (.int .i64))] 29 (restr [3, 1] 0 st)).bind fun x => iter (fun v r => porterref38_Great_g1 N ((fun x => x.1) x) v r K) N ((fun x => x.2.1) x)

noncomputable def porterref38_Great_t1 (N : Nat) : Tab Bool := [([0, 1, 0, 0, 1, 0, 1, 1], porterref38_Great_h2 N)]

theorem porterref38_Great_ok1 {N : Nat} {c : Ctx} (hb : Base Go.Proofs.Try.prog (porterref38_Great_E N) c) : CodeOk Go.Proofs.Try.prog c (nodeAt porterref38_Great_body [0, 1, 0, 1, 1]) (porterref38_Great_h1 N) :=
  loop_ok (s := [(1, .box (.pair (.sl (.pair .str (.pair (.int .i64) (.pair (.int .i64) (.pair (.sl (.pair (.int .i64) (.pair .str .unit))) .unit))))) (.pair (.int .i64) .unit))), (1, .v (.int .i64))]) (m := 29) (porterref38_Great_g1 N) [3, 1] N (fun x => x.1) (fun x => x.2.1) (fun i v => (i, v, ())) (fun _ => rfl) (evN_sound hb N (porterref38_Great_t1 N) porterref38_Great_L porterref38_Great_body (TabOk.cons (porterref38_Great_ok2 hb) TabOk.nil) [0, 0, 1, 0, 1, 1] _ rfl) (fun i v r K => by kernel_rfl)

noncomputable def porterref38_Great (N : Nat) (s : ((List ((List UInt8) × (Int × (Int × ((List (Int × ((List UInt8) × Unit))) × Unit))))) × (Int × Unit))) : Option Bool :=
  cond (decide ((20 : Int) < (((List.length s.1) : Nat) : Int)))
  (some true)
  (porterref38_Great_p1 N s (0 : Int)
    (fun x2 => some x2)
    (some false))

noncomputable def porterref38_Great_t (N : Nat) : Tab Bool := [([0, 1, 0, 1, 1], porterref38_Great_h1 N)]

theorem porterref38_Great_link (N : Nat) (x : denS [(0, .v (.pair (.sl (.pair .str (.pair (.int .i64) (.pair (.int .i64) (.pair (.sl (.pair (.int .i64) (.pair .str .unit))) .unit))))) (.pair (.int .i64) .unit)))]) : evFX (porterref38_Great_E N) N (porterref38_Great_t N) porterref38_Great_L Go.Proofs.Try.f4 (mkS [(0, .v (.pair (.sl (.pair .str (.pair (.int .i64) (.pair (.int .i64) (.pair (.sl (.pair (.int .i64) (.pair .str .unit))) .unit))))) (.pair (.int .i64) .unit)))] 0 x) (kRes (.v .bool) 1) = porterref38_Great N x.1 := by kernel_rfl

noncomputable def porterref38_Great_res (N : Nat) : List A → Res := resOf [(0, .v (.pair (.sl (.pair .str (.pair (.int .i64) (.pair (.int .i64) (.pair (.sl (.pair (.int .i64) (.pair .str .unit))) .unit))))) (.pair (.int .i64) .unit)))] (fun x => porterref38_Great N x.1) (oRes (.v .bool) 1)

theorem porterref38_Great_ct (N : Nat) : Contract Go.Proofs.Try.prog noGlob 4 (porterref38_Great_res N) :=
  Contract.of (E := porterref38_Great_E N) (H := porterref38_Great_t N) (L := porterref38_Great_L) (N := N) (body := porterref38_Great_body) (K := (kRes (.v .bool) 1)) (porterref38_Great_Eok N) Go.Proofs.Try.func4 (by kernel_rfl) (by decide) (fun _ hb => (TabOk.cons (porterref38_Great_ok1 hb) TabOk.nil)) (fun x y h => by rw [porterref38_Great_link]; exact h) (kRes_ok (s := (.v .bool)) (m := 1))

noncomputable def sat_Div_body : Code := (Go.Proofs.Try.f15.body).getD .skip

noncomputable def sat_Div_L : List (List Nat × List Nat) := [([0], [1, 0]), ([0, 0, 1], [7, 0, 1]), ([1, 0, 1], [0, 1]), ([0, 0, 1, 0, 1], [4]), ([1, 0, 1, 0, 1], [4]), ([0, 1, 1], [0, 1, 5]), ([0, 0, 1, 1, 1], [14, 5]), ([1, 0, 1, 1, 1], [5]), ([0, 0, 1, 0, 1, 1, 1], [4]), ([1, 0, 1, 0, 1, 1, 1], [4]), ([0, 1, 1, 1, 1], [4]), ([1, 1, 1, 1, 1], [4])]

noncomputable def sat_Div_E (N : Nat) : Env := mkEnv tys noGlob [] [] [] [] false [] []

theorem sat_Div_Eok (N : Nat) : EnvOk Go.Proofs.Try.prog (sat_Div_E N) := mkEnv_ok mixed tys_ok (FnsOk.nil) (ItsOk.nil)

noncomputable def sat_Div (N : Nat) (a : Int) (b : Int) : Option Int :=
  cond (decide (b < (1 : Int)))
  (some (0 : Int))
  (cond (b == (0 : Int))
    (none)
    (cond (b == (0 : Int))
      (none)
      (cond (decide ((Int.tmod a b) < (0 : Int)))
        (some (Go.IntKind.wrap Go.IntKind.i64 ((Go.IntKind.wrap Go.IntKind.i64 (Int.tdiv a b)) - (1 : Int))))
        (some (Go.IntKind.wrap Go.IntKind.i64 (Int.tdiv a b))))))

noncomputable def sat_Div_t (N : Nat) : Tab Int := []

theorem sat_Div_link (N : Nat) (x : denS [(0, .v (.int .i64)), (0, .v (.int .i64))]) : evFX (sat_Div_E N) N (sat_Div_t N) sat_Div_L Go.Proofs.Try.f15 (mkS [(0, .v (.int .i64)), (0, .v (.int .i64))] 0 x) (kRes (.v (.int .i64)) 2) = sat_Div N x.1 x.2.1 := by kernel_rfl

noncomputable def sat_Div_res (N : Nat) : List A → Res := resOf [(0, .v (.int .i64)), (0, .v (.int .i64))] (fun x => sat_Div N x.1 x.2.1) (oRes (.v (.int .i64)) 2)

theorem sat_Div_ct (N : Nat) : Contract Go.Proofs.Try.prog noGlob 15 (sat_Div_res N) :=
  Contract.of (E := sat_Div_E N) (H := sat_Div_t N) (L := sat_Div_L) (N := N) (body := sat_Div_body) (K := (kRes (.v (.int .i64)) 2)) (sat_Div_Eok N) Go.Proofs.Try.func15 (by kernel_rfl) (by decide) (fun _ hb => TabOk.nil) (fun x y h => by rw [sat_Div_link]; exact h) (kRes_ok (s := (.v (.int .i64))) (m := 2))

noncomputable def bound_Tags_body : Code := (Go.Proofs.Try.f6.body).getD .skip

noncomputable def bound_Tags_L : List (List Nat × List Nat) := [([0], [0]), ([0, 1], [2]), ([1, 1], [2])]

noncomputable def bound_Tags_E (N : Nat) : Env := mkEnv tys noGlob [(15, sat_Div_res N)] [] [] [] false [] []

theorem bound_Tags_Eok (N : Nat) : EnvOk Go.Proofs.Try.prog (bound_Tags_E N) := mkEnv_ok mixed tys_ok (FnsOk.cons (sat_Div_ct N) (FnsOk.nil)) (ItsOk.nil)

noncomputable def bound_Tags (N : Nat) (bytes : Int) : Option Int :=
  (sat_Div N (if ((0 : Int) > bytes) then (0 : Int) else bytes) (2 : Int)).bind fun y =>
  some y

noncomputable def bound_Tags_t (N : Nat) : Tab Int := []

theorem bound_Tags_link (N : Nat) (x : denS [(0, .v (.int .i64))]) : evFX (bound_Tags_E N) N (bound_Tags_t N) bound_Tags_L Go.Proofs.Try.f6 (mkS [(0, .v (.int .i64))] 0 x) (kRes (.v (.int .i64)) 1) = bound_Tags N x.1 := by kernel_rfl

noncomputable def bound_Tags_res (N : Nat) : List A → Res := resOf [(0, .v (.int .i64))] (fun x => bound_Tags N x.1) (oRes (.v (.int .i64)) 1)

theorem bound_Tags_ct (N : Nat) : Contract Go.Proofs.Try.prog noGlob 6 (bound_Tags_res N) :=
  Contract.of (E := bound_Tags_E N) (H := bound_Tags_t N) (L := bound_Tags_L) (N := N) (body := bound_Tags_body) (K := (kRes (.v (.int .i64)) 1)) (bound_Tags_Eok N) Go.Proofs.Try.func6 (by kernel_rfl) (by decide) (fun _ hb => TabOk.nil) (fun x y h => by rw [bound_Tags_link]; exact h) (kRes_ok (s := (.v (.int .i64))) (m := 1))

noncomputable def sat_Add_body : Code := (Go.Proofs.Try.f17.body).getD .skip

noncomputable def sat_Add_L : List (List Nat × List Nat) := [([0], [1, 0]), ([0, 0, 1], [12, 1, 0]), ([1, 0, 1], [1, 0]), ([0, 0, 1, 0, 1], [4]), ([1, 0, 1, 0, 1], [4]), ([0, 0, 1, 1], [20, 0, 1]), ([1, 0, 1, 1], [0, 1]), ([0, 0, 1, 0, 1, 1], [4]), ([1, 0, 1, 0, 1, 1], [4]), ([0, 1, 1, 1], [4]), ([1, 1, 1, 1], [4])]

noncomputable def sat_Add_E (N : Nat) : Env := mkEnv tys noGlob [] [] [] [] false [] []

theorem sat_Add_Eok (N : Nat) : EnvOk Go.Proofs.Try.prog (sat_Add_E N) := mkEnv_ok mixed tys_ok (FnsOk.nil) (ItsOk.nil)

noncomputable def sat_Add_p2 (N : Nat) (a : Int) (b : Int) (k0 : Bool → Option Int) : Option Int :=
  cond (decide ((0 : Int) < b))
  (k0 (decide ((Go.IntKind.wrap Go.IntKind.i64 ((9223372036854775807 : Int) - b)) < a)))
  (k0 false)

noncomputable def sat_Add_g2 (N : Nat) (x : denS [(0, .v (.int .i64)), (0, .v (.int .i64))]) (K : Ex → List A → Option Int) : Option Int :=
  sat_Add_p2 N x.1 x.2.1 (fun a2 => (K .normal (mkS [(0, .v (.int .i64)), (0, .v (.int .i64)), (10, .v .bool)] 11 (x.1, x.2.1, a2, ()))))

noncomputable def sat_Add_h2 (N : Nat) : Hd Int := fun st K => (unS [(0, .v (.int .i64)), (0, .v (.int .i64))] 22 (restr [1, 0] 0 st)).bind fun x => sat_Add_g2 N x K

noncomputable def sat_Add_t2 (N : Nat) : Tab Int := []

theorem sat_Add_ok2 {N : Nat} {c : Ctx} (hb : Base Go.Proofs.Try.prog (sat_Add_E N) c) : CodeOk Go.Proofs.Try.prog c (nodeAt sat_Add_body [0, 0, 1]) (sat_Add_h2 N) :=
  piece_ok (s := [(0, .v (.int .i64)), (0, .v (.int .i64))]) (m := 22) (g := sat_Add_g2 N) [1, 0] (evN_sound hb N (sat_Add_t2 N) sat_Add_L sat_Add_body TabOk.nil [0, 0, 1] _ rfl) (fun x K => by kernel_rfl)

noncomputable def sat_Add_p1 (N : Nat) (a : Int) (b : Int) (k0 : Int → Option Int) (k1 : Option Int) : Option Int :=
  sat_Add_p2 N a b
  (fun x12 => cond x12
    (k0 (9223372036854775807 : Int))
    (k1))

noncomputable def sat_Add_g1 (N : Nat) (x : denS [(0, .v (.int .i64)), (0, .v (.int .i64))]) (K : Ex → List A → Option Int) : Option Int :=
  sat_Add_p1 N x.1 x.2.1 (fun a0 => (K .ret (mkS [(4, .v (.int .i64))] 19 (a0, ())))) (K .normal (mkS [(0, .v (.int .i64)), (0, .v (.int .i64))] 22 (x.1, x.2.1, ())))

noncomputable def sat_Add_h1 (N : Nat) : Hd Int := fun st K => (unS [(0, .v (.int .i64)), (0, .v (.int .i64))] 22 (restr [1, 0] 0 st)).bind fun x => sat_Add_g1 N x K

noncomputable def sat_Add_t1 (N : Nat) : Tab Int := [([0, 0, 1], sat_Add_h2 N)]

theorem sat_Add_ok1 {N : Nat} {c : Ctx} (hb : Base Go.Proofs.Try.prog (sat_Add_E N) c) : CodeOk Go.Proofs.Try.prog c (nodeAt sat_Add_body [0, 1]) (sat_Add_h1 N) :=
  piece_ok (s := [(0, .v (.int .i64)), (0, .v (.int .i64))]) (m := 22) (g := sat_Add_g1 N) [1, 0] (evN_sound hb N (sat_Add_t1 N) sat_Add_L sat_Add_body (TabOk.cons (sat_Add_ok2 hb) TabOk.nil) [0, 1] _ rfl) (fun x K => by kernel_rfl)

noncomputable def sat_Add_p4 (N : Nat) (a : Int) (b : Int) (k0 : Bool → Option Int) : Option Int :=
  cond (decide (b < (0 : Int)))
  (k0 (decide (a < (Go.IntKind.wrap Go.IntKind.i64 ((-(9223372036854775808 : Int)) - b)))))
  (k0 false)

noncomputable def sat_Add_g4 (N : Nat) (x : denS [(0, .v (.int .i64)), (0, .v (.int .i64))]) (K : Ex → List A → Option Int) : Option Int :=
  sat_Add_p4 N x.1 x.2.1 (fun a2 => (K .normal (mkS [(0, .v (.int .i64)), (0, .v (.int .i64)), (18, .v .bool)] 3 (x.1, x.2.1, a2, ()))))

noncomputable def sat_Add_h4 (N : Nat) : Hd Int := fun st K => (unS [(0, .v (.int .i64)), (0, .v (.int .i64))] 22 (restr [1, 0] 0 st)).bind fun x => sat_Add_g4 N x K

noncomputable def sat_Add_t4 (N : Nat) : Tab Int := []

theorem sat_Add_ok4 {N : Nat} {c : Ctx} (hb : Base Go.Proofs.Try.prog (sat_Add_E N) c) : CodeOk Go.Proofs.Try.prog c (nodeAt sat_Add_body [0, 0, 1, 1]) (sat_Add_h4 N) :=
  piece_ok (s := [(0, .v (.int .i64)), (0, .v (.int .i64))]) (m := 22) (g := sat_Add_g4 N) [1, 0] (evN_sound hb N (sat_Add_t4 N) sat_Add_L sat_Add_body TabOk.nil [0, 0, 1, 1] _ rfl) (fun x K => by kernel_rfl)

noncomputable def sat_Add_p3 (N : Nat) (a : Int) (b : Int) (k0 : Int → Option Int) (k1 : Option Int) : Option Int :=
  sat_Add_p4 N a b
  (fun x20 => cond x20
    (k0 (-(9223372036854775808 : Int)))
    (k1))

noncomputable def sat_Add_g3 (N : Nat) (x : denS [(0, .v (.int .i64)), (0, .v (.int .i64))]) (K : Ex → List A → Option Int) : Option Int :=
  sat_Add_p3 N x.1 x.2.1 (fun a0 => (K .ret (mkS [(4, .v (.int .i64))] 19 (a0, ())))) (K .normal (mkS [(0, .v (.int .i64)), (0, .v (.int .i64))] 22 (x.1, x.2.1, ())))

noncomputable def sat_Add_h3 (N : Nat) : Hd Int := fun st K => (unS [(0, .v (.int .i64)), (0, .v (.int .i64))] 22 (restr [1, 0] 0 st)).bind fun x => sat_Add_g3 N x K

noncomputable def sat_Add_t3 (N : Nat) : Tab Int := [([0, 0, 1, 1], sat_Add_h4 N)]

theorem sat_Add_ok3 {N : Nat} {c : Ctx} (hb : Base Go.Proofs.Try.prog (sat_Add_E N) c) : CodeOk Go.Proofs.Try.prog c (nodeAt sat_Add_body [0, 1, 1]) (sat_Add_h3 N) :=
  piece_ok (s := [(0, .v (.int .i64)), (0, .v (.int .i64))]) (m := 22) (g := sat_Add_g3 N) [1, 0] (evN_sound hb N (sat_Add_t3 N) sat_Add_L sat_Add_body (TabOk.cons (sat_Add_ok4 hb) TabOk.nil) [0, 1, 1] _ rfl) (fun x K => by kernel_rfl)

noncomputable def sat_Add (N : Nat) (a : Int) (b : Int) : Option Int :=
  sat_Add_p1 N a b
  (fun x4 => some x4)
  (sat_Add_p3 N a b
    (fun x41 => some x41)
    (some (Go.IntKind.wrap Go.IntKind.i64 (a + b))))

noncomputable def sat_Add_t (N : Nat) : Tab Int := [([0, 1], sat_Add_h1 N), ([0, 1, 1], sat_Add_h3 N)]

theorem sat_Add_link (N : Nat) (x : denS [(0, .v (.int .i64)), (0, .v (.int .i64))]) : evFX (sat_Add_E N) N (sat_Add_t N) sat_Add_L Go.Proofs.Try.f17 (mkS [(0, .v (.int .i64)), (0, .v (.int .i64))] 0 x) (kRes (.v (.int .i64)) 2) = sat_Add N x.1 x.2.1 := by kernel_rfl

noncomputable def sat_Add_res (N : Nat) : List A → Res := resOf [(0, .v (.int .i64)), (0, .v (.int .i64))] (fun x => sat_Add N x.1 x.2.1) (oRes (.v (.int .i64)) 2)

theorem sat_Add_ct (N : Nat) : Contract Go.Proofs.Try.prog noGlob 17 (sat_Add_res N) :=
  Contract.of (E := sat_Add_E N) (H := sat_Add_t N) (L := sat_Add_L) (N := N) (body := sat_Add_body) (K := (kRes (.v (.int .i64)) 2)) (sat_Add_Eok N) Go.Proofs.Try.func17 (by kernel_rfl) (by decide) (fun _ hb => (TabOk.cons (sat_Add_ok1 hb) (TabOk.cons (sat_Add_ok3 hb) TabOk.nil))) (fun x y h => by rw [sat_Add_link]; exact h) (kRes_ok (s := (.v (.int .i64))) (m := 2))

noncomputable def sat_overflows_body : Code := (Go.Proofs.Try.f26.body).getD .skip

noncomputable def sat_overflows_L : List (List Nat × List Nat) := [([0], [0, 1]), ([0, 0, 1], [18, 0, 1]), ([1, 0, 1], [0, 1]), ([0, 0, 1, 0, 1], [4]), ([1, 0, 1, 0, 1], [4]), ([0, 1, 1], [4]), ([1, 1, 1], [4])]

noncomputable def sat_overflows_E (N : Nat) : Env := mkEnv tys noGlob [] [] [] [] false [] []

theorem sat_overflows_Eok (N : Nat) : EnvOk Go.Proofs.Try.prog (sat_overflows_E N) := mkEnv_ok mixed tys_ok (FnsOk.nil) (ItsOk.nil)

noncomputable def sat_overflows_p2 (N : Nat) (a : Int) (b : Int) (k0 : Bool → Option Bool) : Option Bool :=
  cond (a == (-(9223372036854775808 : Int)))
  (cond (b == (-(1 : Int)))
    (k0 true)
    (cond (b == (-(9223372036854775808 : Int)))
      (k0 (a == (-(1 : Int))))
      (k0 false)))
  (cond (b == (-(9223372036854775808 : Int)))
    (k0 (a == (-(1 : Int))))
    (k0 false))

noncomputable def sat_overflows_g2 (N : Nat) (x : denS [(0, .v (.int .i64)), (0, .v (.int .i64))]) (K : Ex → List A → Option Bool) : Option Bool :=
  sat_overflows_p2 N x.1 x.2.1 (fun a2 => (K .normal (mkS [(0, .v (.int .i64)), (0, .v (.int .i64)), (16, .v .bool)] 7 (x.1, x.2.1, a2, ()))))

noncomputable def sat_overflows_h2 (N : Nat) : Hd Bool := fun st K => (unS [(0, .v (.int .i64)), (0, .v (.int .i64))] 24 (restr [0, 1] 0 st)).bind fun x => sat_overflows_g2 N x K

noncomputable def sat_overflows_t2 (N : Nat) : Tab Bool := []

theorem sat_overflows_ok2 {N : Nat} {c : Ctx} (hb : Base Go.Proofs.Try.prog (sat_overflows_E N) c) : CodeOk Go.Proofs.Try.prog c (nodeAt sat_overflows_body [0, 0, 1]) (sat_overflows_h2 N) :=
  piece_ok (s := [(0, .v (.int .i64)), (0, .v (.int .i64))]) (m := 24) (g := sat_overflows_g2 N) [0, 1] (evN_sound hb N (sat_overflows_t2 N) sat_overflows_L sat_overflows_body TabOk.nil [0, 0, 1] _ rfl) (fun x K => by kernel_rfl)

noncomputable def sat_overflows_p1 (N : Nat) (a : Int) (b : Int) (k0 : Bool → Option Bool) (k1 : Option Bool) : Option Bool :=
  sat_overflows_p2 N a b
  (fun x18 => cond x18
    (k0 true)
    (k1))

noncomputable def sat_overflows_g1 (N : Nat) (x : denS [(0, .v (.int .i64)), (0, .v (.int .i64))]) (K : Ex → List A → Option Bool) : Option Bool :=
  sat_overflows_p1 N x.1 x.2.1 (fun a0 => (K .ret (mkS [(4, .v .bool)] 21 (a0, ())))) (K .normal (mkS [(0, .v (.int .i64)), (0, .v (.int .i64))] 24 (x.1, x.2.1, ())))

noncomputable def sat_overflows_h1 (N : Nat) : Hd Bool := fun st K => (unS [(0, .v (.int .i64)), (0, .v (.int .i64))] 24 (restr [0, 1] 0 st)).bind fun x => sat_overflows_g1 N x K

noncomputable def sat_overflows_t1 (N : Nat) : Tab Bool := [([0, 0, 1], sat_overflows_h2 N)]

theorem sat_overflows_ok1 {N : Nat} {c : Ctx} (hb : Base Go.Proofs.Try.prog (sat_overflows_E N) c) : CodeOk Go.Proofs.Try.prog c (nodeAt sat_overflows_body [0, 1]) (sat_overflows_h1 N) :=
  piece_ok (s := [(0, .v (.int .i64)), (0, .v (.int .i64))]) (m := 24) (g := sat_overflows_g1 N) [0, 1] (evN_sound hb N (sat_overflows_t1 N) sat_overflows_L sat_overflows_body (TabOk.cons (sat_overflows_ok2 hb) TabOk.nil) [0, 1] _ rfl) (fun x K => by kernel_rfl)

noncomputable def sat_overflows (N : Nat) (a : Int) (b : Int) : Option Bool :=
  sat_overflows_p1 N a b
  (fun x4 => some x4)
  (cond (b == (0 : Int))
    (none)
    (some ((Go.IntKind.wrap Go.IntKind.i64 (Int.tdiv (Go.IntKind.wrap Go.IntKind.i64 (a * b)) b)) != a)))

noncomputable def sat_overflows_t (N : Nat) : Tab Bool := [([0, 1], sat_overflows_h1 N)]

theorem sat_overflows_link (N : Nat) (x : denS [(0, .v (.int .i64)), (0, .v (.int .i64))]) : evFX (sat_overflows_E N) N (sat_overflows_t N) sat_overflows_L Go.Proofs.Try.f26 (mkS [(0, .v (.int .i64)), (0, .v (.int .i64))] 0 x) (kRes (.v .bool) 2) = sat_overflows N x.1 x.2.1 := by kernel_rfl

noncomputable def sat_overflows_res (N : Nat) : List A → Res := resOf [(0, .v (.int .i64)), (0, .v (.int .i64))] (fun x => sat_overflows N x.1 x.2.1) (oRes (.v .bool) 2)

theorem sat_overflows_ct (N : Nat) : Contract Go.Proofs.Try.prog noGlob 26 (sat_overflows_res N) :=
  Contract.of (E := sat_overflows_E N) (H := sat_overflows_t N) (L := sat_overflows_L) (N := N) (body := sat_overflows_body) (K := (kRes (.v .bool) 2)) (sat_overflows_Eok N) Go.Proofs.Try.func26 (by kernel_rfl) (by decide) (fun _ hb => (TabOk.cons (sat_overflows_ok1 hb) TabOk.nil)) (fun x y h => by rw [sat_overflows_link]; exact h) (kRes_ok (s := (.v .bool)) (m := 2))

noncomputable def sat_end_body : Code := (Go.Proofs.Try.f27.body).getD .skip

noncomputable def sat_end_L : List (List Nat × List Nat) := [([0], [0]), ([0, 0, 1], [3]), ([1, 0, 1], []), ([0, 0, 1, 0, 1], [2]), ([1, 0, 1, 0, 1], [2]), ([0, 1, 1], [2]), ([1, 1, 1], [2])]

noncomputable def sat_end_E (N : Nat) : Env := mkEnv tys noGlob [] [] [] [] false [] []

theorem sat_end_Eok (N : Nat) : EnvOk Go.Proofs.Try.prog (sat_end_E N) := mkEnv_ok mixed tys_ok (FnsOk.nil) (ItsOk.nil)

noncomputable def sat_end (N : Nat) (negative : Bool) : Option Int :=
  cond negative
  (some (-(9223372036854775808 : Int)))
  (some (9223372036854775807 : Int))

noncomputable def sat_end_t (N : Nat) : Tab Int := []

theorem sat_end_link (N : Nat) (x : denS [(0, .v .bool)]) : evFX (sat_end_E N) N (sat_end_t N) sat_end_L Go.Proofs.Try.f27 (mkS [(0, .v .bool)] 0 x) (kRes (.v (.int .i64)) 1) = sat_end N x.1 := by kernel_rfl

noncomputable def sat_end_res (N : Nat) : List A → Res := resOf [(0, .v .bool)] (fun x => sat_end N x.1) (oRes (.v (.int .i64)) 1)

theorem sat_end_ct (N : Nat) : Contract Go.Proofs.Try.prog noGlob 27 (sat_end_res N) :=
  Contract.of (E := sat_end_E N) (H := sat_end_t N) (L := sat_end_L) (N := N) (body := sat_end_body) (K := (kRes (.v (.int .i64)) 1)) (sat_end_Eok N) Go.Proofs.Try.func27 (by kernel_rfl) (by decide) (fun _ hb => TabOk.nil) (fun x y h => by rw [sat_end_link]; exact h) (kRes_ok (s := (.v (.int .i64))) (m := 1))

noncomputable def sat_Mul_body : Code := (Go.Proofs.Try.f16.body).getD .skip

noncomputable def sat_Mul_L : List (List Nat × List Nat) := [([0], [0, 1]), ([0, 0, 1], [10, 0, 1]), ([1, 0, 1], [0, 1]), ([0, 0, 1, 0, 1], [4]), ([1, 0, 1, 0, 1], [4]), ([0, 0, 1, 1], [13, 0, 1]), ([1, 0, 1, 1], [0, 1]), ([0, 0, 1, 0, 1, 1], [4]), ([1, 0, 1, 0, 1, 1], [4]), ([0, 1, 1, 1], [4]), ([1, 1, 1, 1], [4])]

noncomputable def sat_Mul_E (N : Nat) : Env := mkEnv tys noGlob [(27, sat_end_res N), (26, sat_overflows_res N)] [] [] [] false [] []

theorem sat_Mul_Eok (N : Nat) : EnvOk Go.Proofs.Try.prog (sat_Mul_E N) := mkEnv_ok mixed tys_ok (FnsOk.cons (sat_end_ct N) (FnsOk.cons (sat_overflows_ct N) (FnsOk.nil))) (ItsOk.nil)

noncomputable def sat_Mul_p2 (N : Nat) (a : Int) (b : Int) (k0 : Bool → Option Int) : Option Int :=
  cond (a == (0 : Int))
  (k0 true)
  (k0 (b == (0 : Int)))

noncomputable def sat_Mul_g2 (N : Nat) (x : denS [(0, .v (.int .i64)), (0, .v (.int .i64))]) (K : Ex → List A → Option Int) : Option Int :=
  sat_Mul_p2 N x.1 x.2.1 (fun a2 => (K .normal (mkS [(0, .v (.int .i64)), (0, .v (.int .i64)), (8, .v .bool)] 12 (x.1, x.2.1, a2, ()))))

noncomputable def sat_Mul_h2 (N : Nat) : Hd Int := fun st K => (unS [(0, .v (.int .i64)), (0, .v (.int .i64))] 21 (restr [0, 1] 0 st)).bind fun x => sat_Mul_g2 N x K

noncomputable def sat_Mul_t2 (N : Nat) : Tab Int := []

theorem sat_Mul_ok2 {N : Nat} {c : Ctx} (hb : Base Go.Proofs.Try.prog (sat_Mul_E N) c) : CodeOk Go.Proofs.Try.prog c (nodeAt sat_Mul_body [0, 0, 1]) (sat_Mul_h2 N) :=
  piece_ok (s := [(0, .v (.int .i64)), (0, .v (.int .i64))]) (m := 21) (g := sat_Mul_g2 N) [0, 1] (evN_sound hb N (sat_Mul_t2 N) sat_Mul_L sat_Mul_body TabOk.nil [0, 0, 1] _ rfl) (fun x K => by kernel_rfl)

noncomputable def sat_Mul_p1 (N : Nat) (a : Int) (b : Int) (k0 : Int → Option Int) (k1 : Option Int) : Option Int :=
  sat_Mul_p2 N a b
  (fun x10 => cond x10
    (k0 (0 : Int))
    (k1))

noncomputable def sat_Mul_g1 (N : Nat) (x : denS [(0, .v (.int .i64)), (0, .v (.int .i64))]) (K : Ex → List A → Option Int) : Option Int :=
  sat_Mul_p1 N x.1 x.2.1 (fun a0 => (K .ret (mkS [(4, .v (.int .i64))] 18 (a0, ())))) (K .normal (mkS [(0, .v (.int .i64)), (0, .v (.int .i64))] 21 (x.1, x.2.1, ())))

noncomputable def sat_Mul_h1 (N : Nat) : Hd Int := fun st K => (unS [(0, .v (.int .i64)), (0, .v (.int .i64))] 21 (restr [0, 1] 0 st)).bind fun x => sat_Mul_g1 N x K

noncomputable def sat_Mul_t1 (N : Nat) : Tab Int := [([0, 0, 1], sat_Mul_h2 N)]

theorem sat_Mul_ok1 {N : Nat} {c : Ctx} (hb : Base Go.Proofs.Try.prog (sat_Mul_E N) c) : CodeOk Go.Proofs.Try.prog c (nodeAt sat_Mul_body [0, 1]) (sat_Mul_h1 N) :=
  piece_ok (s := [(0, .v (.int .i64)), (0, .v (.int .i64))]) (m := 21) (g := sat_Mul_g1 N) [0, 1] (evN_sound hb N (sat_Mul_t1 N) sat_Mul_L sat_Mul_body (TabOk.cons (sat_Mul_ok2 hb) TabOk.nil) [0, 1] _ rfl) (fun x K => by kernel_rfl)

noncomputable def sat_Mul (N : Nat) (a : Int) (b : Int) : Option Int :=
  sat_Mul_p1 N a b
  (fun x4 => some x4)
  ((sat_overflows N a b).bind fun y =>
    cond y
    ((sat_end N (!((decide (a < (0 : Int))) == (decide (b < (0 : Int)))))).bind fun y1 =>
      some y1)
    (some (Go.IntKind.wrap Go.IntKind.i64 (a * b))))

noncomputable def sat_Mul_t (N : Nat) : Tab Int := [([0, 1], sat_Mul_h1 N)]

theorem sat_Mul_link (N : Nat) (x : denS [(0, .v (.int .i64)), (0, .v (.int .i64))]) : evFX (sat_Mul_E N) N (sat_Mul_t N) sat_Mul_L Go.Proofs.Try.f16 (mkS [(0, .v (.int .i64)), (0, .v (.int .i64))] 0 x) (kRes (.v (.int .i64)) 2) = sat_Mul N x.1 x.2.1 := by kernel_rfl

noncomputable def sat_Mul_res (N : Nat) : List A → Res := resOf [(0, .v (.int .i64)), (0, .v (.int .i64))] (fun x => sat_Mul N x.1 x.2.1) (oRes (.v (.int .i64)) 2)

theorem sat_Mul_ct (N : Nat) : Contract Go.Proofs.Try.prog noGlob 16 (sat_Mul_res N) :=
  Contract.of (E := sat_Mul_E N) (H := sat_Mul_t N) (L := sat_Mul_L) (N := N) (body := sat_Mul_body) (K := (kRes (.v (.int .i64)) 2)) (sat_Mul_Eok N) Go.Proofs.Try.func16 (by kernel_rfl) (by decide) (fun _ hb => (TabOk.cons (sat_Mul_ok1 hb) TabOk.nil)) (fun x y h => by rw [sat_Mul_link]; exact h) (kRes_ok (s := (.v (.int .i64))) (m := 2))

noncomputable def bound_Automata_body : Code := (Go.Proofs.Try.f7.body).getD .skip

noncomputable def bound_Automata_L : List (List Nat × List Nat) := [([0], [0]), ([0, 1], [3]), ([0, 1, 1], [2]), ([1, 1, 1], [2])]

noncomputable def bound_Automata_E (N : Nat) : Env := mkEnv tys noGlob [(16, sat_Mul_res N), (17, sat_Add_res N)] [] [] [] false [] []

theorem bound_Automata_Eok (N : Nat) : EnvOk Go.Proofs.Try.prog (bound_Automata_E N) := mkEnv_ok mixed tys_ok (FnsOk.cons (sat_Mul_ct N) (FnsOk.cons (sat_Add_ct N) (FnsOk.nil))) (ItsOk.nil)

noncomputable def bound_Automata (N : Nat) (matchers : Int) : Option Int :=
  (sat_Add N (if ((0 : Int) > matchers) then (0 : Int) else matchers) (2 : Int)).bind fun y =>
  (sat_Mul N (if ((0 : Int) > matchers) then (0 : Int) else matchers) y).bind fun y1 =>
  some y1

noncomputable def bound_Automata_t (N : Nat) : Tab Int := []

theorem bound_Automata_link (N : Nat) (x : denS [(0, .v (.int .i64))]) : evFX (bound_Automata_E N) N (bound_Automata_t N) bound_Automata_L Go.Proofs.Try.f7 (mkS [(0, .v (.int .i64))] 0 x) (kRes (.v (.int .i64)) 1) = bound_Automata N x.1 := by kernel_rfl

noncomputable def bound_Automata_res (N : Nat) : List A → Res := resOf [(0, .v (.int .i64))] (fun x => bound_Automata N x.1) (oRes (.v (.int .i64)) 1)

theorem bound_Automata_ct (N : Nat) : Contract Go.Proofs.Try.prog noGlob 7 (bound_Automata_res N) :=
  Contract.of (E := bound_Automata_E N) (H := bound_Automata_t N) (L := bound_Automata_L) (N := N) (body := bound_Automata_body) (K := (kRes (.v (.int .i64)) 1)) (bound_Automata_Eok N) Go.Proofs.Try.func7 (by kernel_rfl) (by decide) (fun _ hb => TabOk.nil) (fun x y h => by rw [bound_Automata_link]; exact h) (kRes_ok (s := (.v (.int .i64))) (m := 1))

noncomputable def bound_Window_body : Code := (Go.Proofs.Try.f11.body).getD .skip

noncomputable def bound_Window_L : List (List Nat × List Nat) := [([0], [2, 1]), ([0, 1], [4]), ([1, 1], [4])]

noncomputable def bound_Window_E (N : Nat) : Env := mkEnv tys noGlob [(16, sat_Mul_res N), (17, sat_Add_res N)] [] [] [] false [] []

theorem bound_Window_Eok (N : Nat) : EnvOk Go.Proofs.Try.prog (bound_Window_E N) := mkEnv_ok mixed tys_ok (FnsOk.cons (sat_Mul_ct N) (FnsOk.cons (sat_Add_ct N) (FnsOk.nil))) (ItsOk.nil)

noncomputable def bound_Window (N : Nat) (c : ((List UInt8) × (Int × (Int × Unit)))) (ticks : Int) : Option Int :=
  (sat_Mul N (if ((0 : Int) > c.2.2.1) then (0 : Int) else c.2.2.1) (if ((0 : Int) > ticks) then (0 : Int) else ticks)).bind fun y =>
  (sat_Add N (if ((0 : Int) > c.2.1) then (0 : Int) else c.2.1) y).bind fun y1 =>
  some y1

noncomputable def bound_Window_t (N : Nat) : Tab Int := []

theorem bound_Window_link (N : Nat) (x : denS [(0, .v (.pair .str (.pair (.int .i64) (.pair (.int .i64) .unit)))), (0, .v (.int .i64))]) : evFX (bound_Window_E N) N (bound_Window_t N) bound_Window_L Go.Proofs.Try.f11 (mkS [(0, .v (.pair .str (.pair (.int .i64) (.pair (.int .i64) .unit)))), (0, .v (.int .i64))] 0 x) (kRes (.v (.int .i64)) 2) = bound_Window N x.1 x.2.1 := by kernel_rfl

noncomputable def bound_Window_res (N : Nat) : List A → Res := resOf [(0, .v (.pair .str (.pair (.int .i64) (.pair (.int .i64) .unit)))), (0, .v (.int .i64))] (fun x => bound_Window N x.1 x.2.1) (oRes (.v (.int .i64)) 2)

theorem bound_Window_ct (N : Nat) : Contract Go.Proofs.Try.prog noGlob 11 (bound_Window_res N) :=
  Contract.of (E := bound_Window_E N) (H := bound_Window_t N) (L := bound_Window_L) (N := N) (body := bound_Window_body) (K := (kRes (.v (.int .i64)) 2)) (bound_Window_Eok N) Go.Proofs.Try.func11 (by kernel_rfl) (by decide) (fun _ hb => TabOk.nil) (fun x y h => by rw [bound_Window_link]; exact h) (kRes_ok (s := (.v (.int .i64))) (m := 2))

noncomputable def ring_within_body : Code := (Go.Proofs.Try.f40.body).getD .skip

noncomputable def ring_within_L : List (List Nat × List Nat) := [([0], [0, 1]), ([0, 1], [4]), ([1, 1], [4])]

noncomputable def ring_within_E (N : Nat) : Env := mkEnv tys noGlob [] [] [] [] false [] []

theorem ring_within_Eok (N : Nat) : EnvOk Go.Proofs.Try.prog (ring_within_E N) := mkEnv_ok mixed tys_ok (FnsOk.nil) (ItsOk.nil)

noncomputable def ring_within (N : Nat) (n : Int) (low : Int) : Option Bool :=
  cond (decide (low ≤ n))
  (some (decide (n ≤ (1099511627776 : Int))))
  (some false)

noncomputable def ring_within_t (N : Nat) : Tab Bool := []

theorem ring_within_link (N : Nat) (x : denS [(0, .v (.int .i64)), (0, .v (.int .i64))]) : evFX (ring_within_E N) N (ring_within_t N) ring_within_L Go.Proofs.Try.f40 (mkS [(0, .v (.int .i64)), (0, .v (.int .i64))] 0 x) (kRes (.v .bool) 2) = ring_within N x.1 x.2.1 := by kernel_rfl

noncomputable def ring_within_res (N : Nat) : List A → Res := resOf [(0, .v (.int .i64)), (0, .v (.int .i64))] (fun x => ring_within N x.1 x.2.1) (oRes (.v .bool) 2)

theorem ring_within_ct (N : Nat) : Contract Go.Proofs.Try.prog noGlob 40 (ring_within_res N) :=
  Contract.of (E := ring_within_E N) (H := ring_within_t N) (L := ring_within_L) (N := N) (body := ring_within_body) (K := (kRes (.v .bool) 2)) (ring_within_Eok N) Go.Proofs.Try.func40 (by kernel_rfl) (by decide) (fun _ hb => TabOk.nil) (fun x y h => by rw [ring_within_link]; exact h) (kRes_ok (s := (.v .bool)) (m := 2))

noncomputable def name_digit_body : Code := (Go.Proofs.Try.f58.body).getD .skip

noncomputable def name_digit_L : List (List Nat × List Nat) := [([0], [0]), ([0, 1], [2]), ([1, 1], [2])]

noncomputable def name_digit_E (N : Nat) : Env := mkEnv tys noGlob [] [] [] [] false [] []

theorem name_digit_Eok (N : Nat) : EnvOk Go.Proofs.Try.prog (name_digit_E N) := mkEnv_ok mixed tys_ok (FnsOk.nil) (ItsOk.nil)

noncomputable def name_digit (N : Nat) (c : Int) : Option Bool :=
  cond (decide ((48 : Int) ≤ c))
  (some (decide (c ≤ (57 : Int))))
  (some false)

noncomputable def name_digit_t (N : Nat) : Tab Bool := []

theorem name_digit_link (N : Nat) (x : denS [(0, .v (.int .i32))]) : evFX (name_digit_E N) N (name_digit_t N) name_digit_L Go.Proofs.Try.f58 (mkS [(0, .v (.int .i32))] 0 x) (kRes (.v .bool) 1) = name_digit N x.1 := by kernel_rfl

noncomputable def name_digit_res (N : Nat) : List A → Res := resOf [(0, .v (.int .i32))] (fun x => name_digit N x.1) (oRes (.v .bool) 1)

theorem name_digit_ct (N : Nat) : Contract Go.Proofs.Try.prog noGlob 58 (name_digit_res N) :=
  Contract.of (E := name_digit_E N) (H := name_digit_t N) (L := name_digit_L) (N := N) (body := name_digit_body) (K := (kRes (.v .bool) 1)) (name_digit_Eok N) Go.Proofs.Try.func58 (by kernel_rfl) (by decide) (fun _ hb => TabOk.nil) (fun x y h => by rw [name_digit_link]; exact h) (kRes_ok (s := (.v .bool)) (m := 1))

noncomputable def name_wordRune_body : Code := (Go.Proofs.Try.f57.body).getD .skip

noncomputable def name_wordRune_L : List (List Nat × List Nat) := [([0], [0, 1]), ([0, 1], [5, 0, 1]), ([0, 1, 1], [4]), ([1, 1, 1], [4])]

noncomputable def name_wordRune_E (N : Nat) : Env := mkEnv tys noGlob [(58, name_digit_res N)] [] [] [] false [] []

theorem name_wordRune_Eok (N : Nat) : EnvOk Go.Proofs.Try.prog (name_wordRune_E N) := mkEnv_ok mixed tys_ok (FnsOk.cons (name_digit_ct N) (FnsOk.nil)) (ItsOk.nil)

noncomputable def name_wordRune_p1 (N : Nat) (c : Int) (first : Bool) (k0 : Bool → Option Bool) : Option Bool :=
  cond (decide ((97 : Int) ≤ c))
  (k0 (decide (c ≤ (122 : Int))))
  (k0 false)

noncomputable def name_wordRune_g1 (N : Nat) (x : denS [(0, .v (.int .i32)), (0, .v .bool)]) (K : Ex → List A → Option Bool) : Option Bool :=
  name_wordRune_p1 N x.1 x.2.1 (fun a2 => (K .normal (mkS [(0, .v (.int .i32)), (0, .v .bool), (3, .v .bool)] 19 (x.1, x.2.1, a2, ()))))

noncomputable def name_wordRune_h1 (N : Nat) : Hd Bool := fun st K => (unS [(0, .v (.int .i32)), (0, .v .bool)] 23 (restr [0, 1] 0 st)).bind fun x => name_wordRune_g1 N x K

noncomputable def name_wordRune_t1 (N : Nat) : Tab Bool := []

theorem name_wordRune_ok1 {N : Nat} {c : Ctx} (hb : Base Go.Proofs.Try.prog (name_wordRune_E N) c) : CodeOk Go.Proofs.Try.prog c (nodeAt name_wordRune_body [0, 1]) (name_wordRune_h1 N) :=
  piece_ok (s := [(0, .v (.int .i32)), (0, .v .bool)]) (m := 23) (g := name_wordRune_g1 N) [0, 1] (evN_sound hb N (name_wordRune_t1 N) name_wordRune_L name_wordRune_body TabOk.nil [0, 1] _ rfl) (fun x K => by kernel_rfl)

noncomputable def name_wordRune (N : Nat) (c : Int) (first : Bool) : Option Bool :=
  name_wordRune_p1 N c first
  (fun letter => cond letter
    (some true)
    ((name_digit N c).bind fun y =>
      cond y
      (some (!first))
      (cond (c == (45 : Int))
        (some (!first))
        (some false))))

noncomputable def name_wordRune_t (N : Nat) : Tab Bool := [([0, 1], name_wordRune_h1 N)]

theorem name_wordRune_link (N : Nat) (x : denS [(0, .v (.int .i32)), (0, .v .bool)]) : evFX (name_wordRune_E N) N (name_wordRune_t N) name_wordRune_L Go.Proofs.Try.f57 (mkS [(0, .v (.int .i32)), (0, .v .bool)] 0 x) (kRes (.v .bool) 2) = name_wordRune N x.1 x.2.1 := by kernel_rfl

noncomputable def name_wordRune_res (N : Nat) : List A → Res := resOf [(0, .v (.int .i32)), (0, .v .bool)] (fun x => name_wordRune N x.1 x.2.1) (oRes (.v .bool) 2)

theorem name_wordRune_ct (N : Nat) : Contract Go.Proofs.Try.prog noGlob 57 (name_wordRune_res N) :=
  Contract.of (E := name_wordRune_E N) (H := name_wordRune_t N) (L := name_wordRune_L) (N := N) (body := name_wordRune_body) (K := (kRes (.v .bool) 2)) (name_wordRune_Eok N) Go.Proofs.Try.func57 (by kernel_rfl) (by decide) (fun _ hb => (TabOk.cons (name_wordRune_ok1 hb) TabOk.nil)) (fun x y h => by rw [name_wordRune_link]; exact h) (kRes_ok (s := (.v .bool)) (m := 2))

noncomputable def name_all_word_body : Code := (Go.Proofs.Try.f56.body).getD .skip

noncomputable def name_all_word_L : List (List Nat × List Nat) := [([0], [0, 1]), ([0, 0, 1], [13, 0, 1]), ([1, 0, 1], [0, 1]), ([0, 0, 1, 0, 1], [4]), ([1, 0, 1, 0, 1], [4]), ([0, 0, 1, 1], [15, 1]), ([0, 1, 0, 1, 1], [15, 1]), ([0, 0, 0, 1, 0, 1, 1], [17, 16, 1, 15]), ([0, 1, 0, 0, 1, 0, 1, 1], [16, 1, 15]), ([1, 0, 1, 0, 0, 1, 0, 1, 1], []), ([0, 0, 1, 1, 0, 0, 1, 0, 1, 1], [1, 6, 5, 15]), ([0, 1, 0, 1, 1, 0, 0, 1, 0, 1, 1], [25, 15, 1]), ([1, 1, 0, 1, 1, 0, 0, 1, 0, 1, 1], [15, 1]), ([0, 0, 1, 1, 0, 1, 1, 0, 0, 1, 0, 1, 1], [4]), ([1, 0, 1, 1, 0, 1, 1, 0, 0, 1, 0, 1, 1], [4]), ([1, 1, 0, 0, 1, 0, 1, 1], [15, 1]), ([1, 0, 1, 1], []), ([0, 1, 1, 1], [4]), ([1, 1, 1, 1], [4])]

noncomputable def name_all_word_E (N : Nat) : Env := mkEnv tys noGlob [(57, name_wordRune_res N)] [] [] [] false [] []

theorem name_all_word_Eok (N : Nat) : EnvOk Go.Proofs.Try.prog (name_all_word_E N) := mkEnv_ok mixed tys_ok (FnsOk.cons (name_wordRune_ct N) (FnsOk.nil)) (ItsOk.nil)

noncomputable def name_all_word_p2 (N : Nat) (s : (List UInt8)) (k0 : Bool → Option Bool) : Option Bool :=
  cond (s == ([] : List UInt8))
  (k0 true)
  (k0 (decide ((32 : Int) < (((List.length s) : Nat) : Int))))

noncomputable def name_all_word_g2 (N : Nat) (x : denS [(0, .v .str), (0, .fnc 57)]) (K : Ex → List A → Option Bool) : Option Bool :=
  name_all_word_p2 N x.1 (fun a1 => (K .normal (mkS [(0, .v .str), (0, .fnc 57), (11, .v .bool)] 12 (x.1, (), a1, ()))))

noncomputable def name_all_word_h2 (N : Nat) : Hd Bool := fun st K => (unS [(0, .v .str), (0, .fnc 57)] 24 (restr [0, 1] 0 st)).bind fun x => name_all_word_g2 N x K

noncomputable def name_all_word_t2 (N : Nat) : Tab Bool := []

theorem name_all_word_ok2 {N : Nat} {c : Ctx} (hb : Base Go.Proofs.Try.prog (name_all_word_E N) c) : CodeOk Go.Proofs.Try.prog c (nodeAt name_all_word_body [0, 0, 1]) (name_all_word_h2 N) :=
  piece_ok (s := [(0, .v .str), (0, .fnc 57)]) (m := 24) (g := name_all_word_g2 N) [0, 1] (evN_sound hb N (name_all_word_t2 N) name_all_word_L name_all_word_body TabOk.nil [0, 0, 1] _ rfl) (fun x K => by kernel_rfl)

noncomputable def name_all_word_p1 (N : Nat) (s : (List UInt8)) (k0 : Bool → Option Bool) (k1 : Option Bool) : Option Bool :=
  name_all_word_p2 N s
  (fun x13 => cond x13
    (k0 false)
    (k1))

noncomputable def name_all_word_g1 (N : Nat) (x : denS [(0, .v .str), (0, .fnc 57)]) (K : Ex → List A → Option Bool) : Option Bool :=
  name_all_word_p1 N x.1 (fun a0 => (K .ret (mkS [(4, .v .bool)] 21 (a0, ())))) (K .normal (mkS [(0, .v .str), (0, .fnc 57)] 24 (x.1, (), ())))

noncomputable def name_all_word_h1 (N : Nat) : Hd Bool := fun st K => (unS [(0, .v .str), (0, .fnc 57)] 24 (restr [0, 1] 0 st)).bind fun x => name_all_word_g1 N x K

noncomputable def name_all_word_t1 (N : Nat) : Tab Bool := [([0, 0, 1], name_all_word_h2 N)]

theorem name_all_word_ok1 {N : Nat} {c : Ctx} (hb : Base Go.Proofs.Try.prog (name_all_word_E N) c) : CodeOk Go.Proofs.Try.prog c (nodeAt name_all_word_body [0, 1]) (name_all_word_h1 N) :=
  piece_ok (s := [(0, .v .str), (0, .fnc 57)]) (m := 24) (g := name_all_word_g1 N) [0, 1] (evN_sound hb N (name_all_word_t1 N) name_all_word_L name_all_word_body (TabOk.cons (name_all_word_ok2 hb) TabOk.nil) [0, 1] _ rfl) (fun x K => by kernel_rfl)

noncomputable def name_all_word_s3 (N : Nat) (x15 : (List UInt8 × Nat)) (rec : (List UInt8 × Nat) → Option Bool) (k0 : Bool → Option Bool) (k1 : Option Bool) : Option Bool :=
  cond (decide (x15.2 < (List.length x15.1)))
  ((name_wordRune N (((Go.Lift.runeAt x15.1 x15.2).1 : Nat) : Int) (((x15.2 : Nat) : Int) == (0 : Int))).bind fun y =>
    cond (!y)
    (k0 false)
    (rec (x15.1, (x15.2 + (Go.Lift.runeAt x15.1 x15.2).2))))
  (k1)

noncomputable def name_all_word_p3 (N : Nat) (x15 : (List UInt8 × Nat)) (k0 : Bool → Option Bool) (k1 : Option Bool) : Option Bool :=
  iter (fun (v : (List UInt8 × Nat)) r => name_all_word_s3 N v (fun x15 => (r x15)) k0 k1) N x15

noncomputable def name_all_word_g3 (N : Nat) (i : Unit) (v : (List UInt8 × Nat)) (r : (List UInt8 × Nat) → Option Bool) (K : Ex → List A → Option Bool) : Option Bool :=
  name_all_word_s3 N v (fun x15 => (r x15)) (fun a0 => (K .ret (mkS [(4, .v .bool)] 21 (a0, ())))) (K (.exit 0) (mkS [] 26 ()))

noncomputable def name_all_word_h3 (N : Nat) : Hd Bool := fun st K => (unS [(1, .fnc 57), (13, .iter)] 10 (restr [15, 1] 0 st)).bind fun x => iter (fun v r => name_all_word_g3 N ((fun x => ()) x) v r K) N ((fun x => x.2.1) x)

noncomputable def name_all_word_t3 (N : Nat) : Tab Bool := []

theorem name_all_word_ok3 {N : Nat} {c : Ctx} (hb : Base Go.Proofs.Try.prog (name_all_word_E N) c) : CodeOk Go.Proofs.Try.prog c (nodeAt name_all_word_body [0, 1, 0, 1, 1]) (name_all_word_h3 N) :=
  loop_ok (s := [(1, .fnc 57), (13, .iter)]) (m := 10) (name_all_word_g3 N) [15, 1] N (fun x => ()) (fun x => x.2.1) (fun i v => ((), v, ())) (fun _ => rfl) (evN_sound hb N (name_all_word_t3 N) name_all_word_L name_all_word_body TabOk.nil [0, 0, 1, 0, 1, 1] _ rfl) (fun i v r K => by kernel_rfl)

noncomputable def name_all_word (N : Nat) (s : (List UInt8)) : Option Bool :=
  name_all_word_p1 N s
  (fun x4 => some x4)
  (name_all_word_p3 N (s, 0)
    (fun x41 => some x41)
    (some true))

noncomputable def name_all_word_t (N : Nat) : Tab Bool := [([0, 1], name_all_word_h1 N), ([0, 1, 0, 1, 1], name_all_word_h3 N)]

theorem name_all_word_link (N : Nat) (x : denS [(0, .v .str), (0, .fnc 57)]) : evFX (name_all_word_E N) N (name_all_word_t N) name_all_word_L Go.Proofs.Try.f56 (mkS [(0, .v .str), (0, .fnc 57)] 0 x) (kRes (.v .bool) 2) = name_all_word N x.1 := by kernel_rfl

noncomputable def name_all_word_res (N : Nat) : List A → Res := resOf [(0, .v .str), (0, .fnc 57)] (fun x => name_all_word N x.1) (oRes (.v .bool) 2)

theorem name_all_word_ct (N : Nat) : Contract Go.Proofs.Try.prog noGlob 56 (name_all_word_res N) :=
  Contract.of (E := name_all_word_E N) (H := name_all_word_t N) (L := name_all_word_L) (N := N) (body := name_all_word_body) (K := (kRes (.v .bool) 2)) (name_all_word_Eok N) Go.Proofs.Try.func56 (by kernel_rfl) (by decide) (fun _ hb => (TabOk.cons (name_all_word_ok1 hb) (TabOk.cons (name_all_word_ok3 hb) TabOk.nil))) (fun x y h => by rw [name_all_word_link]; exact h) (kRes_ok (s := (.v .bool)) (m := 2))

noncomputable def name_Word_body : Code := (Go.Proofs.Try.f52.body).getD .skip

noncomputable def name_Word_L : List (List Nat × List Nat) := [([0], [0]), ([0, 1], [2]), ([1, 1], [2])]

noncomputable def name_Word_E (N : Nat) : Env := mkEnv tys noGlob [(56, name_all_word_res N), (57, name_wordRune_res N)] [] [] [] false [] []

theorem name_Word_Eok (N : Nat) : EnvOk Go.Proofs.Try.prog (name_Word_E N) := mkEnv_ok mixed tys_ok (FnsOk.cons (name_all_word_ct N) (FnsOk.cons (name_wordRune_ct N) (FnsOk.nil))) (ItsOk.nil)

noncomputable def name_Word (N : Nat) (s : (List UInt8)) : Option Bool :=
  (name_all_word N s).bind fun y =>
  some y

noncomputable def name_Word_t (N : Nat) : Tab Bool := []

theorem name_Word_link (N : Nat) (x : denS [(0, .v .str)]) : evFX (name_Word_E N) N (name_Word_t N) name_Word_L Go.Proofs.Try.f52 (mkS [(0, .v .str)] 0 x) (kRes (.v .bool) 1) = name_Word N x.1 := by kernel_rfl

noncomputable def name_Word_res (N : Nat) : List A → Res := resOf [(0, .v .str)] (fun x => name_Word N x.1) (oRes (.v .bool) 1)

theorem name_Word_ct (N : Nat) : Contract Go.Proofs.Try.prog noGlob 52 (name_Word_res N) :=
  Contract.of (E := name_Word_E N) (H := name_Word_t N) (L := name_Word_L) (N := N) (body := name_Word_body) (K := (kRes (.v .bool) 1)) (name_Word_Eok N) Go.Proofs.Try.func52 (by kernel_rfl) (by decide) (fun _ hb => TabOk.nil) (fun x y h => by rw [name_Word_link]; exact h) (kRes_ok (s := (.v .bool)) (m := 1))

noncomputable def ring_rises_body : Code := (Go.Proofs.Try.f53.body).getD .skip

noncomputable def ring_rises_L : List (List Nat × List Nat) := [([0], [0, 1, 2]), ([0, 1], [0, 1, 5, 2]), ([0, 1, 1], [5, 0, 2, 1]), ([0, 1, 1, 1], [4, 1, 2]), ([1, 1, 1, 1], [4, 1, 2])]

noncomputable def ring_rises_E (N : Nat) : Env := mkEnv tys noGlob [] [] [] [1, 2] false [] []

theorem ring_rises_Eok (N : Nat) : EnvOk Go.Proofs.Try.prog (ring_rises_E N) := mkEnv_ok mixed tys_ok (FnsOk.nil) (ItsOk.nil)

noncomputable def ring_rises (N : Nat) (n : Int) (x1 : Int) (x2 : ((List UInt8) × (Int × (Int × ((List (Int × ((List UInt8) × Unit))) × Unit))))) : Option (Bool × (Int × ((List UInt8) × (Int × (Int × ((List (Int × ((List UInt8) × Unit))) × Unit)))) × Unit)) :=
  cond (decide (x1 < n))
  (some ((decide (n < x2.2.2.1)), (n, (x2, ()))))
  (some (false, (n, (x2, ()))))

noncomputable def ring_rises_t (N : Nat) : Tab (Bool × (Int × ((List UInt8) × (Int × (Int × ((List (Int × ((List UInt8) × Unit))) × Unit)))) × Unit)) := []

theorem ring_rises_link (N : Nat) (x : denS [(0, .v (.int .i64)), (0, .box (.int .i64)), (0, .box (.pair .str (.pair (.int .i64) (.pair (.int .i64) (.pair (.sl (.pair (.int .i64) (.pair .str .unit))) .unit)))))]) : evFX (ring_rises_E N) N (ring_rises_t N) ring_rises_L Go.Proofs.Try.f53 (mkS [(0, .v (.int .i64)), (0, .box (.int .i64)), (0, .box (.pair .str (.pair (.int .i64) (.pair (.int .i64) (.pair (.sl (.pair (.int .i64) (.pair .str .unit))) .unit)))))] 0 x) (kResB (.v .bool) [(1, .box (.int .i64)), (0, .box (.pair .str (.pair (.int .i64) (.pair (.int .i64) (.pair (.sl (.pair (.int .i64) (.pair .str .unit))) .unit)))))] 0) = ring_rises N x.1 x.2.1 x.2.2.1 := by kernel_rfl

noncomputable def ring_rises_res (N : Nat) : List A → Res := resOf [(0, .v (.int .i64)), (0, .box (.int .i64)), (0, .box (.pair .str (.pair (.int .i64) (.pair (.int .i64) (.pair (.sl (.pair (.int .i64) (.pair .str .unit))) .unit)))))] (fun x => ring_rises N x.1 x.2.1 x.2.2.1) (oResB (.v .bool) [(1, .box (.int .i64)), (0, .box (.pair .str (.pair (.int .i64) (.pair (.int .i64) (.pair (.sl (.pair (.int .i64) (.pair .str .unit))) .unit)))))] 0)

theorem ring_rises_ct (N : Nat) : Contract Go.Proofs.Try.prog noGlob 53 (ring_rises_res N) :=
  Contract.of (E := ring_rises_E N) (H := ring_rises_t N) (L := ring_rises_L) (N := N) (body := ring_rises_body) (K := (kResB (.v .bool) [(1, .box (.int .i64)), (0, .box (.pair .str (.pair (.int .i64) (.pair (.int .i64) (.pair (.sl (.pair (.int .i64) (.pair .str .unit))) .unit)))))] 0)) (ring_rises_Eok N) Go.Proofs.Try.func53 (by kernel_rfl) (by decide) (fun _ hb => TabOk.nil) (fun x y h => by rw [ring_rises_link]; exact h) (kResB_ok (s := (.v .bool)) (os := [(1, .box (.int .i64)), (0, .box (.pair .str (.pair (.int .i64) (.pair (.int .i64) (.pair (.sl (.pair (.int .i64) (.pair .str .unit))) .unit)))))]) (m := 0))

noncomputable def ring_rightTenant_body : Code := (Go.Proofs.Try.f41.body).getD .skip

noncomputable def ring_rightTenant_L : List (List Nat × List Nat) := [([0], [1]), ([0, 0, 1], [28, 1]), ([1, 0, 1], [1]), ([0, 0, 1, 0, 1], [2]), ([1, 0, 1, 0, 1], [2]), ([0, 1, 1], [3, 1]), ([0, 1, 1, 1], [1, 4, 3]), ([0, 0, 1, 1, 1, 1], [33, 32, 31, 4, 3, 1]), ([0, 1, 0, 1, 1, 1, 1], [33, 32, 31, 4, 3, 1]), ([0, 0, 0, 1, 0, 1, 1, 1, 1], [34, 31, 33, 4, 32, 3, 1]), ([0, 1, 0, 0, 1, 0, 1, 1, 1, 1], [31, 33, 4, 32, 3, 1]), ([1, 0, 1, 0, 0, 1, 0, 1, 1, 1, 1], []), ([0, 0, 0, 1, 1, 0, 0, 1, 0, 1, 1, 1, 1], [4, 6, 33, 32, 31, 3, 1]), ([0, 1, 0, 0, 1, 1, 0, 0, 1, 0, 1, 1, 1, 1], [47, 33, 32, 31, 4, 3, 1]), ([1, 1, 0, 0, 1, 1, 0, 0, 1, 0, 1, 1, 1, 1], [33, 32, 31, 4, 3, 1]), ([0, 0, 1, 1, 0, 0, 1, 1, 0, 0, 1, 0, 1, 1, 1, 1], [2]), ([1, 0, 1, 1, 0, 0, 1, 1, 0, 0, 1, 0, 1, 1, 1, 1], [2]), ([0, 1, 1, 0, 0, 1, 0, 1, 1, 1, 1], [33, 32, 31, 4, 3, 1]), ([1, 1, 1, 0, 0, 1, 0, 1, 1, 1, 1], [33, 32, 31, 4, 3, 1]), ([1, 0, 1, 1, 1, 1], []), ([0, 1, 1, 1, 1, 1], [2]), ([1, 1, 1, 1, 1, 1], [2])]

noncomputable def ring_rightTenant_E (N : Nat) : Env := mkEnv tys noGlob [(53, ring_rises_res N), (52, name_Word_res N), (40, ring_within_res N)] [(4, .unit)] [] [] false [] []

theorem ring_rightTenant_Eok (N : Nat) : EnvOk Go.Proofs.Try.prog (ring_rightTenant_E N) := mkEnv_ok mixed tys_ok (FnsOk.cons (ring_rises_ct N) (FnsOk.cons (name_Word_ct N) (FnsOk.cons (ring_within_ct N) (FnsOk.nil)))) (ItsOk.nil)

noncomputable def ring_rightTenant_p2 (N : Nat) (t : ((List UInt8) × (Int × (Int × ((List (Int × ((List UInt8) × Unit))) × Unit))))) (k0 : Bool → Option Bool) : Option Bool :=
  (name_Word N t.1).bind fun y =>
  cond (!y)
  (k0 true)
  ((ring_within N t.2.1 (0 : Int)).bind fun y1 =>
    cond (!y1)
    (k0 true)
    ((ring_within N t.2.2.1 (1 : Int)).bind fun y2 =>
      cond (!y2)
      (k0 true)
      (k0 (decide ((8 : Int) < (((List.length t.2.2.2.1) : Nat) : Int))))))

noncomputable def ring_rightTenant_g2 (N : Nat) (x : denS [(1, .box (.pair .str (.pair (.int .i64) (.pair (.int .i64) (.pair (.sl (.pair (.int .i64) (.pair .str .unit))) .unit)))))]) (K : Ex → List A → Option Bool) : Option Bool :=
  ring_rightTenant_p2 N x.1 (fun a1 => (K .normal (mkS [(1, .box (.pair .str (.pair (.int .i64) (.pair (.int .i64) (.pair (.sl (.pair (.int .i64) (.pair .str .unit))) .unit))))), (26, .v .bool)] 20 (x.1, a1, ()))))

noncomputable def ring_rightTenant_h2 (N : Nat) : Hd Bool := fun st K => (unS [(1, .box (.pair .str (.pair (.int .i64) (.pair (.int .i64) (.pair (.sl (.pair (.int .i64) (.pair .str .unit))) .unit)))))] 47 (restr [1] 0 st)).bind fun x => ring_rightTenant_g2 N x K

noncomputable def ring_rightTenant_t2 (N : Nat) : Tab Bool := []

theorem ring_rightTenant_ok2 {N : Nat} {c : Ctx} (hb : Base Go.Proofs.Try.prog (ring_rightTenant_E N) c) : CodeOk Go.Proofs.Try.prog c (nodeAt ring_rightTenant_body [0, 0, 1]) (ring_rightTenant_h2 N) :=
  piece_ok (s := [(1, .box (.pair .str (.pair (.int .i64) (.pair (.int .i64) (.pair (.sl (.pair (.int .i64) (.pair .str .unit))) .unit)))))]) (m := 47) (g := ring_rightTenant_g2 N) [1] (evN_sound hb N (ring_rightTenant_t2 N) ring_rightTenant_L ring_rightTenant_body TabOk.nil [0, 0, 1] _ rfl) (fun x K => by kernel_rfl)

noncomputable def ring_rightTenant_p1 (N : Nat) (t : ((List UInt8) × (Int × (Int × ((List (Int × ((List UInt8) × Unit))) × Unit))))) (k0 : Bool → Option Bool) (k1 : Option Bool) : Option Bool :=
  ring_rightTenant_p2 N t
  (fun x28 => cond x28
    (k0 false)
    (k1))

noncomputable def ring_rightTenant_g1 (N : Nat) (x : denS [(1, .box (.pair .str (.pair (.int .i64) (.pair (.int .i64) (.pair (.sl (.pair (.int .i64) (.pair .str .unit))) .unit)))))]) (K : Ex → List A → Option Bool) : Option Bool :=
  ring_rightTenant_p1 N x.1 (fun a0 => (K .ret (mkS [(2, .v .bool)] 46 (a0, ())))) (K .normal (mkS [(1, .box (.pair .str (.pair (.int .i64) (.pair (.int .i64) (.pair (.sl (.pair (.int .i64) (.pair .str .unit))) .unit)))))] 47 (x.1, ())))

noncomputable def ring_rightTenant_h1 (N : Nat) : Hd Bool := fun st K => (unS [(1, .box (.pair .str (.pair (.int .i64) (.pair (.int .i64) (.pair (.sl (.pair (.int .i64) (.pair .str .unit))) .unit)))))] 47 (restr [1] 0 st)).bind fun x => ring_rightTenant_g1 N x K

noncomputable def ring_rightTenant_t1 (N : Nat) : Tab Bool := [([0, 0, 1], ring_rightTenant_h2 N)]

theorem ring_rightTenant_ok1 {N : Nat} {c : Ctx} (hb : Base Go.Proofs.Try.prog (ring_rightTenant_E N) c) : CodeOk Go.Proofs.Try.prog c (nodeAt ring_rightTenant_body [0, 1]) (ring_rightTenant_h1 N) :=
  piece_ok (s := [(1, .box (.pair .str (.pair (.int .i64) (.pair (.int .i64) (.pair (.sl (.pair (.int .i64) (.pair .str .unit))) .unit)))))]) (m := 47) (g := ring_rightTenant_g1 N) [1] (evN_sound hb N (ring_rightTenant_t1 N) ring_rightTenant_L ring_rightTenant_body (TabOk.cons (ring_rightTenant_ok2 hb) TabOk.nil) [0, 1] _ rfl) (fun x K => by kernel_rfl)

noncomputable def ring_rightTenant_p4 (N : Nat) (t : ((List UInt8) × (Int × (Int × ((List (Int × ((List UInt8) × Unit))) × Unit))))) (last : Int) (k : (Int × ((List UInt8) × Unit))) (x31 : (List (Int × ((List UInt8) × Unit)))) (x32 : Int) (x33 : Int) (k0 : ((List UInt8) × (Int × (Int × ((List (Int × ((List UInt8) × Unit))) × Unit)))) → Int → Bool → Option Bool) : Option Bool :=
  (ring_rises N k.1 last t).bind fun y =>
  cond (!y.1)
  (k0 y.2.2.1 y.2.1 true)
  (k0 y.2.2.1 y.2.1 ((((List.length k.2.1) : Nat) : Int) != (32 : Int)))

noncomputable def ring_rightTenant_g4 (N : Nat) (x : denS [(1, .box (.pair .str (.pair (.int .i64) (.pair (.int .i64) (.pair (.sl (.pair (.int .i64) (.pair .str .unit))) .unit))))), (1, .box (.int .i64)), (0, .clo 53 [3, 1]), (1, .box (.pair (.int .i64) (.pair .str .unit))), (24, .v (.sl (.pair (.int .i64) (.pair .str .unit)))), (0, .v (.int .i64)), (0, .v (.int .i64))]) (K : Ex → List A → Option Bool) : Option Bool :=
  ring_rightTenant_p4 N x.1 x.2.1 x.2.2.2.1 x.2.2.2.2.1 x.2.2.2.2.2.1 x.2.2.2.2.2.2.1 (fun a0 a1 a5 => (K .normal (mkS [(1, .box (.pair .str (.pair (.int .i64) (.pair (.int .i64) (.pair (.sl (.pair (.int .i64) (.pair .str .unit))) .unit))))), (1, .box (.int .i64)), (0, .clo 53 [3, 1]), (26, .v (.sl (.pair (.int .i64) (.pair .str .unit)))), (0, .v (.int .i64)), (0, .v (.int .i64)), (13, .v .bool)] 1 (a0, a1, (), x.2.2.2.2.1, x.2.2.2.2.2.1, x.2.2.2.2.2.2.1, a5, ()))))

noncomputable def ring_rightTenant_h4 (N : Nat) : Hd Bool := fun st K => (unS [(1, .box (.pair .str (.pair (.int .i64) (.pair (.int .i64) (.pair (.sl (.pair (.int .i64) (.pair .str .unit))) .unit))))), (1, .box (.int .i64)), (0, .clo 53 [3, 1]), (1, .box (.pair (.int .i64) (.pair .str .unit))), (24, .v (.sl (.pair (.int .i64) (.pair .str .unit)))), (0, .v (.int .i64)), (0, .v (.int .i64))] 15 (restr [4, 6, 33, 32, 31, 3, 1] 0 st)).bind fun x => ring_rightTenant_g4 N x K

noncomputable def ring_rightTenant_t4 (N : Nat) : Tab Bool := []

theorem ring_rightTenant_ok4 {N : Nat} {c : Ctx} (hb : Base Go.Proofs.Try.prog (ring_rightTenant_E N) c) : CodeOk Go.Proofs.Try.prog c (nodeAt ring_rightTenant_body [0, 1, 0, 0, 1, 1, 0, 0, 1, 0, 1, 1, 1, 1]) (ring_rightTenant_h4 N) :=
  piece_ok (s := [(1, .box (.pair .str (.pair (.int .i64) (.pair (.int .i64) (.pair (.sl (.pair (.int .i64) (.pair .str .unit))) .unit))))), (1, .box (.int .i64)), (0, .clo 53 [3, 1]), (1, .box (.pair (.int .i64) (.pair .str .unit))), (24, .v (.sl (.pair (.int .i64) (.pair .str .unit)))), (0, .v (.int .i64)), (0, .v (.int .i64))]) (m := 15) (g := ring_rightTenant_g4 N) [4, 6, 33, 32, 31, 3, 1] (evN_sound hb N (ring_rightTenant_t4 N) ring_rightTenant_L ring_rightTenant_body TabOk.nil [0, 1, 0, 0, 1, 1, 0, 0, 1, 0, 1, 1, 1, 1] _ rfl) (fun x K => by kernel_rfl)

noncomputable def ring_rightTenant_s3 (N : Nat) (x31 : (List (Int × ((List UInt8) × Unit)))) (x32 : Int) (t : ((List UInt8) × (Int × (Int × ((List (Int × ((List UInt8) × Unit))) × Unit))))) (last : Int) (x33 : Int) (rec : ((List UInt8) × (Int × (Int × ((List (Int × ((List UInt8) × Unit))) × Unit)))) → Int → Int → Option Bool) (k0 : Bool → Option Bool) (k1 : Option Bool) : Option Bool :=
  cond (decide (x33 < x32))
  (cond (Go.Lift.inR x33 (List.length x31))
    (ring_rightTenant_p4 N t last (List.getD x31 (Int.toNat x33) ((0 : Int), (([] : List UInt8), ()))) x31 x32 x33
      (fun t1 last1 x47 => cond x47
        (k0 false)
        (rec t1 last1 (Go.IntKind.wrap Go.IntKind.i64 (x33 + (1 : Int))))))
    (none))
  (k1)

noncomputable def ring_rightTenant_p3 (N : Nat) (t : ((List UInt8) × (Int × (Int × ((List (Int × ((List UInt8) × Unit))) × Unit))))) (last : Int) (x31 : (List (Int × ((List UInt8) × Unit)))) (x32 : Int) (x33 : Int) (k0 : Bool → Option Bool) (k1 : Option Bool) : Option Bool :=
  iter (fun (v : (((List UInt8) × (Int × (Int × ((List (Int × ((List UInt8) × Unit))) × Unit)))) × Int × Int)) r => ring_rightTenant_s3 N x31 x32 v.1 v.2.1 v.2.2 (fun t last x33 => (r (t, last, x33))) k0 k1) N (t, last, x33)

noncomputable def ring_rightTenant_g3 (N : Nat) (i : ((List (Int × ((List UInt8) × Unit))) × Int)) (v : (((List UInt8) × (Int × (Int × ((List (Int × ((List UInt8) × Unit))) × Unit)))) × Int × Int)) (r : (((List UInt8) × (Int × (Int × ((List (Int × ((List UInt8) × Unit))) × Unit)))) × Int × Int) → Option Bool) (K : Ex → List A → Option Bool) : Option Bool :=
  ring_rightTenant_s3 N i.1 i.2 v.1 v.2.1 v.2.2 (fun t last x33 => (r (t, last, x33))) (fun a0 => (K .ret (mkS [(2, .v .bool)] 46 (a0, ())))) (K (.exit 0) (mkS [] 49 ()))

noncomputable def ring_rightTenant_h3 (N : Nat) : Hd Bool := fun st K => (unS [(1, .box (.pair .str (.pair (.int .i64) (.pair (.int .i64) (.pair (.sl (.pair (.int .i64) (.pair .str .unit))) .unit))))), (1, .box (.int .i64)), (0, .clo 53 [3, 1]), (26, .v (.sl (.pair (.int .i64) (.pair .str .unit)))), (0, .v (.int .i64)), (0, .v (.int .i64))] 15 (restr [33, 32, 31, 4, 3, 1] 0 st)).bind fun x => iter (fun v r => ring_rightTenant_g3 N ((fun x => (x.2.2.2.1, x.2.2.2.2.1)) x) v r K) N ((fun x => (x.1, x.2.1, x.2.2.2.2.2.1)) x)

noncomputable def ring_rightTenant_t3 (N : Nat) : Tab Bool := [([0, 1, 0, 0, 1, 1, 0, 0, 1, 0, 1, 1, 1, 1], ring_rightTenant_h4 N)]

theorem ring_rightTenant_ok3 {N : Nat} {c : Ctx} (hb : Base Go.Proofs.Try.prog (ring_rightTenant_E N) c) : CodeOk Go.Proofs.Try.prog c (nodeAt ring_rightTenant_body [0, 1, 0, 1, 1, 1, 1]) (ring_rightTenant_h3 N) :=
  loop_ok (s := [(1, .box (.pair .str (.pair (.int .i64) (.pair (.int .i64) (.pair (.sl (.pair (.int .i64) (.pair .str .unit))) .unit))))), (1, .box (.int .i64)), (0, .clo 53 [3, 1]), (26, .v (.sl (.pair (.int .i64) (.pair .str .unit)))), (0, .v (.int .i64)), (0, .v (.int .i64))]) (m := 15) (ring_rightTenant_g3 N) [33, 32, 31, 4, 3, 1] N (fun x => (x.2.2.2.1, x.2.2.2.2.1)) (fun x => (x.1, x.2.1, x.2.2.2.2.2.1)) (fun i v => (v.1, v.2.1, (), i.1, i.2, v.2.2, ())) (fun _ => rfl) (evN_sound hb N (ring_rightTenant_t3 N) ring_rightTenant_L ring_rightTenant_body (TabOk.cons (ring_rightTenant_ok4 hb) TabOk.nil) [0, 0, 1, 0, 1, 1, 1, 1] _ rfl) (fun i v r K => by kernel_rfl)

noncomputable def ring_rightTenant (N : Nat) (t : ((List UInt8) × (Int × (Int × ((List (Int × ((List UInt8) × Unit))) × Unit))))) : Option Bool :=
  ring_rightTenant_p1 N t
  (fun x2 => some x2)
  (ring_rightTenant_p3 N t (0 : Int) t.2.2.2.1 (((List.length t.2.2.2.1) : Nat) : Int) (0 : Int)
    (fun x21 => some x21)
    (some true))

noncomputable def ring_rightTenant_t (N : Nat) : Tab Bool := [([0, 1], ring_rightTenant_h1 N), ([0, 1, 0, 1, 1, 1, 1], ring_rightTenant_h3 N)]

theorem ring_rightTenant_link (N : Nat) (x : denS [(0, .v (.pair .str (.pair (.int .i64) (.pair (.int .i64) (.pair (.sl (.pair (.int .i64) (.pair .str .unit))) .unit)))))]) : evFX (ring_rightTenant_E N) N (ring_rightTenant_t N) ring_rightTenant_L Go.Proofs.Try.f41 (mkS [(0, .v (.pair .str (.pair (.int .i64) (.pair (.int .i64) (.pair (.sl (.pair (.int .i64) (.pair .str .unit))) .unit)))))] 0 x) (kRes (.v .bool) 1) = ring_rightTenant N x.1 := by kernel_rfl

noncomputable def ring_rightTenant_res (N : Nat) : List A → Res := resOf [(0, .v (.pair .str (.pair (.int .i64) (.pair (.int .i64) (.pair (.sl (.pair (.int .i64) (.pair .str .unit))) .unit)))))] (fun x => ring_rightTenant N x.1) (oRes (.v .bool) 1)

theorem ring_rightTenant_ct (N : Nat) : Contract Go.Proofs.Try.prog noGlob 41 (ring_rightTenant_res N) :=
  Contract.of (E := ring_rightTenant_E N) (H := ring_rightTenant_t N) (L := ring_rightTenant_L) (N := N) (body := ring_rightTenant_body) (K := (kRes (.v .bool) 1)) (ring_rightTenant_Eok N) Go.Proofs.Try.func41 (by kernel_rfl) (by decide) (fun _ hb => (TabOk.cons (ring_rightTenant_ok1 hb) (TabOk.cons (ring_rightTenant_ok3 hb) TabOk.nil))) (fun x y h => by rw [ring_rightTenant_link]; exact h) (kRes_ok (s := (.v .bool)) (m := 1))

noncomputable def ring_Right_body : Code := (Go.Proofs.Try.f28.body).getD .skip

noncomputable def ring_Right_L : List (List Nat × List Nat) := [([0], [1]), ([0, 0, 1], [14, 1]), ([1, 0, 1], [1]), ([0, 0, 1, 0, 1], [2]), ([1, 0, 1, 0, 1], [2]), ([0, 0, 1, 1], [18, 17, 16, 1]), ([0, 1, 0, 1, 1], [18, 17, 16, 1]), ([0, 0, 0, 1, 0, 1, 1], [19, 18, 16, 1, 17]), ([0, 1, 0, 0, 1, 0, 1, 1], [18, 16, 1, 17]), ([1, 0, 1, 0, 0, 1, 0, 1, 1], []), ([0, 0, 0, 1, 1, 0, 0, 1, 0, 1, 1], [3, 4, 1, 18, 17, 16]), ([0, 1, 0, 0, 1, 1, 0, 0, 1, 0, 1, 1], [41, 18, 17, 16, 1]), ([1, 1, 0, 0, 1, 1, 0, 0, 1, 0, 1, 1], [18, 17, 16, 1]), ([0, 0, 1, 1, 0, 0, 1, 1, 0, 0, 1, 0, 1, 1], [2]), ([1, 0, 1, 1, 0, 0, 1, 1, 0, 0, 1, 0, 1, 1], [2]), ([0, 1, 1, 0, 0, 1, 0, 1, 1], [18, 17, 16, 1]), ([1, 1, 1, 0, 0, 1, 0, 1, 1], [18, 17, 16, 1]), ([1, 0, 1, 1], []), ([0, 1, 1, 1], [2]), ([1, 1, 1, 1], [2])]

noncomputable def ring_Right_E (N : Nat) : Env := mkEnv tys noGlob [(41, ring_rightTenant_res N), (40, ring_within_res N)] [] [] [] false [] []

theorem ring_Right_Eok (N : Nat) : EnvOk Go.Proofs.Try.prog (ring_Right_E N) := mkEnv_ok mixed tys_ok (FnsOk.cons (ring_rightTenant_ct N) (FnsOk.cons (ring_within_ct N) (FnsOk.nil))) (ItsOk.nil)

noncomputable def ring_Right_p2 (N : Nat) (s : ((List ((List UInt8) × (Int × (Int × ((List (Int × ((List UInt8) × Unit))) × Unit))))) × (Int × Unit))) (k0 : Bool → Option Bool) : Option Bool :=
  cond (decide ((16 : Int) < (((List.length s.1) : Nat) : Int)))
  (k0 true)
  ((ring_within N s.2.1 (0 : Int)).bind fun y =>
    k0 (!y))

noncomputable def ring_Right_g2 (N : Nat) (x : denS [(1, .box (.pair (.sl (.pair .str (.pair (.int .i64) (.pair (.int .i64) (.pair (.sl (.pair (.int .i64) (.pair .str .unit))) .unit))))) (.pair (.int .i64) .unit)))]) (K : Ex → List A → Option Bool) : Option Bool :=
  ring_Right_p2 N x.1 (fun a1 => (K .normal (mkS [(1, .box (.pair (.sl (.pair .str (.pair (.int .i64) (.pair (.int .i64) (.pair (.sl (.pair (.int .i64) (.pair .str .unit))) .unit))))) (.pair (.int .i64) .unit))), (12, .v .bool)] 28 (x.1, a1, ()))))

noncomputable def ring_Right_h2 (N : Nat) : Hd Bool := fun st K => (unS [(1, .box (.pair (.sl (.pair .str (.pair (.int .i64) (.pair (.int .i64) (.pair (.sl (.pair (.int .i64) (.pair .str .unit))) .unit))))) (.pair (.int .i64) .unit)))] 41 (restr [1] 0 st)).bind fun x => ring_Right_g2 N x K

noncomputable def ring_Right_t2 (N : Nat) : Tab Bool := []

theorem ring_Right_ok2 {N : Nat} {c : Ctx} (hb : Base Go.Proofs.Try.prog (ring_Right_E N) c) : CodeOk Go.Proofs.Try.prog c (nodeAt ring_Right_body [0, 0, 1]) (ring_Right_h2 N) :=
  piece_ok (s := [(1, .box (.pair (.sl (.pair .str (.pair (.int .i64) (.pair (.int .i64) (.pair (.sl (.pair (.int .i64) (.pair .str .unit))) .unit))))) (.pair (.int .i64) .unit)))]) (m := 41) (g := ring_Right_g2 N) [1] (evN_sound hb N (ring_Right_t2 N) ring_Right_L ring_Right_body TabOk.nil [0, 0, 1] _ rfl) (fun x K => by kernel_rfl)

noncomputable def ring_Right_p1 (N : Nat) (s : ((List ((List UInt8) × (Int × (Int × ((List (Int × ((List UInt8) × Unit))) × Unit))))) × (Int × Unit))) (k0 : Bool → Option Bool) (k1 : Option Bool) : Option Bool :=
  ring_Right_p2 N s
  (fun x14 => cond x14
    (k0 false)
    (k1))

noncomputable def ring_Right_g1 (N : Nat) (x : denS [(1, .box (.pair (.sl (.pair .str (.pair (.int .i64) (.pair (.int .i64) (.pair (.sl (.pair (.int .i64) (.pair .str .unit))) .unit))))) (.pair (.int .i64) .unit)))]) (K : Ex → List A → Option Bool) : Option Bool :=
  ring_Right_p1 N x.1 (fun a0 => (K .ret (mkS [(2, .v .bool)] 40 (a0, ())))) (K .normal (mkS [(1, .box (.pair (.sl (.pair .str (.pair (.int .i64) (.pair (.int .i64) (.pair (.sl (.pair (.int .i64) (.pair .str .unit))) .unit))))) (.pair (.int .i64) .unit)))] 41 (x.1, ())))

noncomputable def ring_Right_h1 (N : Nat) : Hd Bool := fun st K => (unS [(1, .box (.pair (.sl (.pair .str (.pair (.int .i64) (.pair (.int .i64) (.pair (.sl (.pair (.int .i64) (.pair .str .unit))) .unit))))) (.pair (.int .i64) .unit)))] 41 (restr [1] 0 st)).bind fun x => ring_Right_g1 N x K

noncomputable def ring_Right_t1 (N : Nat) : Tab Bool := [([0, 0, 1], ring_Right_h2 N)]

theorem ring_Right_ok1 {N : Nat} {c : Ctx} (hb : Base Go.Proofs.Try.prog (ring_Right_E N) c) : CodeOk Go.Proofs.Try.prog c (nodeAt ring_Right_body [0, 1]) (ring_Right_h1 N) :=
  piece_ok (s := [(1, .box (.pair (.sl (.pair .str (.pair (.int .i64) (.pair (.int .i64) (.pair (.sl (.pair (.int .i64) (.pair .str .unit))) .unit))))) (.pair (.int .i64) .unit)))]) (m := 41) (g := ring_Right_g1 N) [1] (evN_sound hb N (ring_Right_t1 N) ring_Right_L ring_Right_body (TabOk.cons (ring_Right_ok2 hb) TabOk.nil) [0, 1] _ rfl) (fun x K => by kernel_rfl)

noncomputable def ring_Right_p4 (N : Nat) (s : ((List ((List UInt8) × (Int × (Int × ((List (Int × ((List UInt8) × Unit))) × Unit))))) × (Int × Unit))) (i : Int) (t : ((List UInt8) × (Int × (Int × ((List (Int × ((List UInt8) × Unit))) × Unit))))) (x16 : (List ((List UInt8) × (Int × (Int × ((List (Int × ((List UInt8) × Unit))) × Unit)))))) (x17 : Int) (x18 : Int) (k0 : Bool → Option Bool) : Option Bool :=
  cond (decide ((0 : Int) < i))
  (cond (Go.Lift.inR (Go.IntKind.wrap Go.IntKind.i64 (i - (1 : Int))) (List.length s.1))
    (cond ((Go.Op.bytesLess t.1 (List.getD s.1 (Int.toNat (Go.IntKind.wrap Go.IntKind.i64 (i - (1 : Int)))) (([] : List UInt8), ((0 : Int), ((0 : Int), (([] : List (Int × ((List UInt8) × Unit))), ()))))).1) || (t.1 == (List.getD s.1 (Int.toNat (Go.IntKind.wrap Go.IntKind.i64 (i - (1 : Int)))) (([] : List UInt8), ((0 : Int), ((0 : Int), (([] : List (Int × ((List UInt8) × Unit))), ()))))).1))
      (k0 true)
      ((ring_rightTenant N t).bind fun y =>
        k0 (!y)))
    (none))
  ((ring_rightTenant N t).bind fun y1 =>
    k0 (!y1))

noncomputable def ring_Right_g4 (N : Nat) (x : denS [(1, .box (.pair (.sl (.pair .str (.pair (.int .i64) (.pair (.int .i64) (.pair (.sl (.pair (.int .i64) (.pair .str .unit))) .unit))))) (.pair (.int .i64) .unit))), (1, .v (.int .i64)), (0, .box (.pair .str (.pair (.int .i64) (.pair (.int .i64) (.pair (.sl (.pair (.int .i64) (.pair .str .unit))) .unit))))), (11, .v (.sl (.pair .str (.pair (.int .i64) (.pair (.int .i64) (.pair (.sl (.pair (.int .i64) (.pair .str .unit))) .unit)))))), (0, .v (.int .i64)), (0, .v (.int .i64))]) (K : Ex → List A → Option Bool) : Option Bool :=
  ring_Right_p4 N x.1 x.2.1 x.2.2.1 x.2.2.2.1 x.2.2.2.2.1 x.2.2.2.2.2.1 (fun a4 => (K .normal (mkS [(1, .box (.pair (.sl (.pair .str (.pair (.int .i64) (.pair (.int .i64) (.pair (.sl (.pair (.int .i64) (.pair .str .unit))) .unit))))) (.pair (.int .i64) .unit))), (14, .v (.sl (.pair .str (.pair (.int .i64) (.pair (.int .i64) (.pair (.sl (.pair (.int .i64) (.pair .str .unit))) .unit)))))), (0, .v (.int .i64)), (0, .v (.int .i64)), (22, .v .bool)] 1 (x.1, x.2.2.2.1, x.2.2.2.2.1, x.2.2.2.2.2.1, a4, ()))))

noncomputable def ring_Right_h4 (N : Nat) : Hd Bool := fun st K => (unS [(1, .box (.pair (.sl (.pair .str (.pair (.int .i64) (.pair (.int .i64) (.pair (.sl (.pair (.int .i64) (.pair .str .unit))) .unit))))) (.pair (.int .i64) .unit))), (1, .v (.int .i64)), (0, .box (.pair .str (.pair (.int .i64) (.pair (.int .i64) (.pair (.sl (.pair (.int .i64) (.pair .str .unit))) .unit))))), (11, .v (.sl (.pair .str (.pair (.int .i64) (.pair (.int .i64) (.pair (.sl (.pair (.int .i64) (.pair .str .unit))) .unit)))))), (0, .v (.int .i64)), (0, .v (.int .i64))] 24 (restr [3, 4, 1, 18, 17, 16] 0 st)).bind fun x => ring_Right_g4 N x K

noncomputable def ring_Right_t4 (N : Nat) : Tab Bool := []

theorem ring_Right_ok4 {N : Nat} {c : Ctx} (hb : Base Go.Proofs.Try.prog (ring_Right_E N) c) : CodeOk Go.Proofs.Try.prog c (nodeAt ring_Right_body [0, 1, 0, 0, 1, 1, 0, 0, 1, 0, 1, 1]) (ring_Right_h4 N) :=
  piece_ok (s := [(1, .box (.pair (.sl (.pair .str (.pair (.int .i64) (.pair (.int .i64) (.pair (.sl (.pair (.int .i64) (.pair .str .unit))) .unit))))) (.pair (.int .i64) .unit))), (1, .v (.int .i64)), (0, .box (.pair .str (.pair (.int .i64) (.pair (.int .i64) (.pair (.sl (.pair (.int .i64) (.pair .str .unit))) .unit))))), (11, .v (.sl (.pair .str (.pair (.int .i64) (.pair (.int .i64) (.pair (.sl (.pair (.int .i64) (.pair .str .unit))) .unit)))))), (0, .v (.int .i64)), (0, .v (.int .i64))]) (m := 24) (g := ring_Right_g4 N) [3, 4, 1, 18, 17, 16] (evN_sound hb N (ring_Right_t4 N) ring_Right_L ring_Right_body TabOk.nil [0, 1, 0, 0, 1, 1, 0, 0, 1, 0, 1, 1] _ rfl) (fun x K => by kernel_rfl)

noncomputable def ring_Right_s3 (N : Nat) (s : ((List ((List UInt8) × (Int × (Int × ((List (Int × ((List UInt8) × Unit))) × Unit))))) × (Int × Unit))) (x16 : (List ((List UInt8) × (Int × (Int × ((List (Int × ((List UInt8) × Unit))) × Unit)))))) (x17 : Int) (x18 : Int) (rec : Int → Option Bool) (k0 : Bool → Option Bool) (k1 : Option Bool) : Option Bool :=
  cond (decide (x18 < x17))
  (cond (Go.Lift.inR x18 (List.length x16))
    (ring_Right_p4 N s x18 (List.getD x16 (Int.toNat x18) (([] : List UInt8), ((0 : Int), ((0 : Int), (([] : List (Int × ((List UInt8) × Unit))), ()))))) x16 x17 x18
      (fun x41 => cond x41
        (k0 false)
        (rec (Go.IntKind.wrap Go.IntKind.i64 (x18 + (1 : Int))))))
    (none))
  (k1)

noncomputable def ring_Right_p3 (N : Nat) (s : ((List ((List UInt8) × (Int × (Int × ((List (Int × ((List UInt8) × Unit))) × Unit))))) × (Int × Unit))) (x16 : (List ((List UInt8) × (Int × (Int × ((List (Int × ((List UInt8) × Unit))) × Unit)))))) (x17 : Int) (x18 : Int) (k0 : Bool → Option Bool) (k1 : Option Bool) : Option Bool :=
  iter (fun (v : Int) r => ring_Right_s3 N s x16 x17 v (fun x18 => (r x18)) k0 k1) N x18

noncomputable def ring_Right_g3 (N : Nat) (i : (((List ((List UInt8) × (Int × (Int × ((List (Int × ((List UInt8) × Unit))) × Unit))))) × (Int × Unit)) × (List ((List UInt8) × (Int × (Int × ((List (Int × ((List UInt8) × Unit))) × Unit))))) × Int)) (v : Int) (r : Int → Option Bool) (K : Ex → List A → Option Bool) : Option Bool :=
  ring_Right_s3 N i.1 i.2.1 i.2.2 v (fun x18 => (r x18)) (fun a0 => (K .ret (mkS [(2, .v .bool)] 40 (a0, ())))) (K (.exit 0) (mkS [] 43 ()))

noncomputable def ring_Right_h3 (N : Nat) : Hd Bool := fun st K => (unS [(1, .box (.pair (.sl (.pair .str (.pair (.int .i64) (.pair (.int .i64) (.pair (.sl (.pair (.int .i64) (.pair .str .unit))) .unit))))) (.pair (.int .i64) .unit))), (14, .v (.sl (.pair .str (.pair (.int .i64) (.pair (.int .i64) (.pair (.sl (.pair (.int .i64) (.pair .str .unit))) .unit)))))), (0, .v (.int .i64)), (0, .v (.int .i64))] 24 (restr [18, 17, 16, 1] 0 st)).bind fun x => iter (fun v r => ring_Right_g3 N ((fun x => (x.1, x.2.1, x.2.2.1)) x) v r K) N ((fun x => x.2.2.2.1) x)

noncomputable def ring_Right_t3 (N : Nat) : Tab Bool := [([0, 1, 0, 0, 1, 1, 0, 0, 1, 0, 1, 1], ring_Right_h4 N)]

theorem ring_Right_ok3 {N : Nat} {c : Ctx} (hb : Base Go.Proofs.Try.prog (ring_Right_E N) c) : CodeOk Go.Proofs.Try.prog c (nodeAt ring_Right_body [0, 1, 0, 1, 1]) (ring_Right_h3 N) :=
  loop_ok (s := [(1, .box (.pair (.sl (.pair .str (.pair (.int .i64) (.pair (.int .i64) (.pair (.sl (.pair (.int .i64) (.pair .str .unit))) .unit))))) (.pair (.int .i64) .unit))), (14, .v (.sl (.pair .str (.pair (.int .i64) (.pair (.int .i64) (.pair (.sl (.pair (.int .i64) (.pair .str .unit))) .unit)))))), (0, .v (.int .i64)), (0, .v (.int .i64))]) (m := 24) (ring_Right_g3 N) [18, 17, 16, 1] N (fun x => (x.1, x.2.1, x.2.2.1)) (fun x => x.2.2.2.1) (fun i v => (i.1, i.2.1, i.2.2, v, ())) (fun _ => rfl) (evN_sound hb N (ring_Right_t3 N) ring_Right_L ring_Right_body (TabOk.cons (ring_Right_ok4 hb) TabOk.nil) [0, 0, 1, 0, 1, 1] _ rfl) (fun i v r K => by kernel_rfl)

noncomputable def ring_Right (N : Nat) (s : ((List ((List UInt8) × (Int × (Int × ((List (Int × ((List UInt8) × Unit))) × Unit))))) × (Int × Unit))) : Option Bool :=
  ring_Right_p1 N s
  (fun x2 => some x2)
  (ring_Right_p3 N s s.1 (((List.length s.1) : Nat) : Int) (0 : Int)
    (fun x21 => some x21)
    (some true))

noncomputable def ring_Right_t (N : Nat) : Tab Bool := [([0, 1], ring_Right_h1 N), ([0, 1, 0, 1, 1], ring_Right_h3 N)]

theorem ring_Right_link (N : Nat) (x : denS [(0, .v (.pair (.sl (.pair .str (.pair (.int .i64) (.pair (.int .i64) (.pair (.sl (.pair (.int .i64) (.pair .str .unit))) .unit))))) (.pair (.int .i64) .unit)))]) : evFX (ring_Right_E N) N (ring_Right_t N) ring_Right_L Go.Proofs.Try.f28 (mkS [(0, .v (.pair (.sl (.pair .str (.pair (.int .i64) (.pair (.int .i64) (.pair (.sl (.pair (.int .i64) (.pair .str .unit))) .unit))))) (.pair (.int .i64) .unit)))] 0 x) (kRes (.v .bool) 1) = ring_Right N x.1 := by kernel_rfl

noncomputable def ring_Right_res (N : Nat) : List A → Res := resOf [(0, .v (.pair (.sl (.pair .str (.pair (.int .i64) (.pair (.int .i64) (.pair (.sl (.pair (.int .i64) (.pair .str .unit))) .unit))))) (.pair (.int .i64) .unit)))] (fun x => ring_Right N x.1) (oRes (.v .bool) 1)

theorem ring_Right_ct (N : Nat) : Contract Go.Proofs.Try.prog noGlob 28 (ring_Right_res N) :=
  Contract.of (E := ring_Right_E N) (H := ring_Right_t N) (L := ring_Right_L) (N := N) (body := ring_Right_body) (K := (kRes (.v .bool) 1)) (ring_Right_Eok N) Go.Proofs.Try.func28 (by kernel_rfl) (by decide) (fun _ hb => (TabOk.cons (ring_Right_ok1 hb) (TabOk.cons (ring_Right_ok3 hb) TabOk.nil))) (fun x y h => by rw [ring_Right_link]; exact h) (kRes_ok (s := (.v .bool)) (m := 1))

noncomputable def plan_tenantEvent_body : Code := (Go.Proofs.Try.f29.body).getD .skip

noncomputable def plan_tenantEvent_L : List (List Nat × List Nat) := [([0], [0, 1, 2, 6]), ([0, 1], [6]), ([1, 1], [6])]

noncomputable def plan_tenantEvent_E (N : Nat) : Env := mkEnv tys noGlob [] [] [] [] false [] []

theorem plan_tenantEvent_Eok (N : Nat) : EnvOk Go.Proofs.Try.prog (plan_tenantEvent_E N) := mkEnv_ok mixed tys_ok (FnsOk.nil) (ItsOk.nil)

noncomputable def plan_tenantEvent (N : Nat) (tenant : (List UInt8)) (epoch : Int) (next : Int) : Option (Int × ((List UInt8) × (Int × (Int × ((List UInt8) × Unit))))) :=
  some ((1 : Int), (tenant, (next, (epoch, (([] : List UInt8), ())))))

noncomputable def plan_tenantEvent_t (N : Nat) : Tab (Int × ((List UInt8) × (Int × (Int × ((List UInt8) × Unit))))) := []

theorem plan_tenantEvent_link (N : Nat) (x : denS [(0, .v .str), (0, .v (.int .i64)), (0, .v (.int .i64))]) : evFX (plan_tenantEvent_E N) N (plan_tenantEvent_t N) plan_tenantEvent_L Go.Proofs.Try.f29 (mkS [(0, .v .str), (0, .v (.int .i64)), (0, .v (.int .i64))] 0 x) (kRes (.v (.pair (.int .i64) (.pair .str (.pair (.int .i64) (.pair (.int .i64) (.pair .str .unit)))))) 3) = plan_tenantEvent N x.1 x.2.1 x.2.2.1 := by kernel_rfl

noncomputable def plan_tenantEvent_res (N : Nat) : List A → Res := resOf [(0, .v .str), (0, .v (.int .i64)), (0, .v (.int .i64))] (fun x => plan_tenantEvent N x.1 x.2.1 x.2.2.1) (oRes (.v (.pair (.int .i64) (.pair .str (.pair (.int .i64) (.pair (.int .i64) (.pair .str .unit)))))) 3)

theorem plan_tenantEvent_ct (N : Nat) : Contract Go.Proofs.Try.prog noGlob 29 (plan_tenantEvent_res N) :=
  Contract.of (E := plan_tenantEvent_E N) (H := plan_tenantEvent_t N) (L := plan_tenantEvent_L) (N := N) (body := plan_tenantEvent_body) (K := (kRes (.v (.pair (.int .i64) (.pair .str (.pair (.int .i64) (.pair (.int .i64) (.pair .str .unit)))))) 3)) (plan_tenantEvent_Eok N) Go.Proofs.Try.func29 (by kernel_rfl) (by decide) (fun _ hb => TabOk.nil) (fun x y h => by rw [plan_tenantEvent_link]; exact h) (kRes_ok (s := (.v (.pair (.int .i64) (.pair .str (.pair (.int .i64) (.pair (.int .i64) (.pair .str .unit))))))) (m := 3))

noncomputable def plan_keyEvent_body : Code := (Go.Proofs.Try.f30.body).getD .skip

noncomputable def plan_keyEvent_L : List (List Nat × List Nat) := [([0], [0, 1, 2, 6]), ([0, 1], [6]), ([1, 1], [6])]

noncomputable def plan_keyEvent_E (N : Nat) : Env := mkEnv tys noGlob [] [] [] [] false [] []

theorem plan_keyEvent_Eok (N : Nat) : EnvOk Go.Proofs.Try.prog (plan_keyEvent_E N) := mkEnv_ok mixed tys_ok (FnsOk.nil) (ItsOk.nil)

noncomputable def plan_keyEvent (N : Nat) (tenant : (List UInt8)) (num : Int) (key : (List UInt8)) : Option (Int × ((List UInt8) × (Int × (Int × ((List UInt8) × Unit))))) :=
  some ((2 : Int), (tenant, (num, ((0 : Int), (key, ())))))

noncomputable def plan_keyEvent_t (N : Nat) : Tab (Int × ((List UInt8) × (Int × (Int × ((List UInt8) × Unit))))) := []

theorem plan_keyEvent_link (N : Nat) (x : denS [(0, .v .str), (0, .v (.int .i64)), (0, .v .str)]) : evFX (plan_keyEvent_E N) N (plan_keyEvent_t N) plan_keyEvent_L Go.Proofs.Try.f30 (mkS [(0, .v .str), (0, .v (.int .i64)), (0, .v .str)] 0 x) (kRes (.v (.pair (.int .i64) (.pair .str (.pair (.int .i64) (.pair (.int .i64) (.pair .str .unit)))))) 3) = plan_keyEvent N x.1 x.2.1 x.2.2.1 := by kernel_rfl

noncomputable def plan_keyEvent_res (N : Nat) : List A → Res := resOf [(0, .v .str), (0, .v (.int .i64)), (0, .v .str)] (fun x => plan_keyEvent N x.1 x.2.1 x.2.2.1) (oRes (.v (.pair (.int .i64) (.pair .str (.pair (.int .i64) (.pair (.int .i64) (.pair .str .unit)))))) 3)

theorem plan_keyEvent_ct (N : Nat) : Contract Go.Proofs.Try.prog noGlob 30 (plan_keyEvent_res N) :=
  Contract.of (E := plan_keyEvent_E N) (H := plan_keyEvent_t N) (L := plan_keyEvent_L) (N := N) (body := plan_keyEvent_body) (K := (kRes (.v (.pair (.int .i64) (.pair .str (.pair (.int .i64) (.pair (.int .i64) (.pair .str .unit)))))) 3)) (plan_keyEvent_Eok N) Go.Proofs.Try.func30 (by kernel_rfl) (by decide) (fun _ hb => TabOk.nil) (fun x y h => by rw [plan_keyEvent_link]; exact h) (kRes_ok (s := (.v (.pair (.int .i64) (.pair .str (.pair (.int .i64) (.pair (.int .i64) (.pair .str .unit))))))) (m := 3))

noncomputable def plan_Image_body : Code := (Go.Proofs.Try.f20.body).getD .skip

noncomputable def plan_Image_L : List (List Nat × List Nat) := [([0], [1]), ([0, 0, 1], [10, 1]), ([1, 0, 1], [1]), ([0, 0, 1, 0, 1], [2]), ([1, 0, 1, 0, 1], [2]), ([0, 1, 1], [1, 3]), ([0, 0, 1, 1, 1], [14, 13, 12, 3, 1]), ([0, 1, 0, 1, 1, 1], [14, 13, 12, 3, 1]), ([0, 0, 0, 1, 0, 1, 1, 1], [15, 12, 14, 3, 13, 1]), ([0, 1, 0, 0, 1, 0, 1, 1, 1], [12, 14, 3, 13, 1]), ([1, 0, 1, 0, 0, 1, 0, 1, 1, 1], [3, 1]), ([0, 0, 0, 1, 1, 0, 0, 1, 0, 1, 1, 1], [3, 5, 14, 13, 12, 1]), ([0, 1, 0, 0, 1, 1, 0, 0, 1, 0, 1, 1, 1], [5, 3, 14, 13, 12, 1]), ([0, 1, 1, 0, 0, 1, 1, 0, 0, 1, 0, 1, 1, 1], [31, 30, 29, 3, 5, 14, 13, 12, 1]), ([0, 1, 1, 1, 0, 0, 1, 1, 0, 0, 1, 0, 1, 1, 1], [31, 30, 29, 3, 5, 14, 13, 12, 1]), ([0, 0, 0, 1, 1, 1, 0, 0, 1, 1, 0, 0, 1, 0, 1, 1, 1], [32, 29, 31, 3, 5, 30, 14, 13, 12, 1]), ([0, 1, 0, 0, 1, 1, 1, 0, 0, 1, 1, 0, 0, 1, 0, 1, 1, 1], [29, 31, 3, 5, 30, 14, 13, 12, 1]), ([1, 0, 1, 0, 0, 1, 1, 1, 0, 0, 1, 1, 0, 0, 1, 0, 1, 1, 1], [14, 13, 12, 3, 1]), ([0, 0, 0, 1, 1, 0, 0, 1, 1, 1, 0, 0, 1, 1, 0, 0, 1, 0, 1, 1, 1], [3, 5, 7, 31, 30, 29, 14, 13, 12, 1]), ([1, 0, 0, 1, 1, 0, 0, 1, 1, 1, 0, 0, 1, 1, 0, 0, 1, 0, 1, 1, 1], [31, 30, 29, 3, 5, 14, 13, 12, 1]), ([0, 1, 1, 0, 0, 1, 1, 1, 0, 0, 1, 1, 0, 0, 1, 0, 1, 1, 1], [31, 30, 29, 3, 5, 14, 13, 12, 1]), ([1, 1, 1, 0, 0, 1, 1, 1, 0, 0, 1, 1, 0, 0, 1, 0, 1, 1, 1], [31, 30, 29, 3, 5, 14, 13, 12, 1]), ([1, 1, 1, 0, 0, 1, 1, 0, 0, 1, 0, 1, 1, 1], [14, 13, 12, 3, 1]), ([0, 1, 1, 0, 0, 1, 0, 1, 1, 1], [14, 13, 12, 3, 1]), ([1, 1, 1, 0, 0, 1, 0, 1, 1, 1], [14, 13, 12, 3, 1]), ([1, 0, 1, 1, 1], [3, 1]), ([0, 1, 1, 1, 1], [2]), ([1, 1, 1, 1, 1], [2])]

noncomputable def plan_Image_E (N : Nat) : Env := mkEnv tys noGlob [(30, plan_keyEvent_res N), (29, plan_tenantEvent_res N), (28, ring_Right_res N)] [(3, (.pair (.int .i64) (.pair .str (.pair (.int .i64) (.pair (.int .i64) (.pair .str .unit)))))), (2, (.pair (.int .i64) (.pair .str (.pair (.int .i64) (.pair (.int .i64) (.pair .str .unit))))))] [] [] false [] []

theorem plan_Image_Eok (N : Nat) : EnvOk Go.Proofs.Try.prog (plan_Image_E N) := mkEnv_ok mixed tys_ok (FnsOk.cons (plan_keyEvent_ct N) (FnsOk.cons (plan_tenantEvent_ct N) (FnsOk.cons (ring_Right_ct N) (FnsOk.nil)))) (ItsOk.nil)

noncomputable def plan_Image_s2 (N : Nat) (s : ((List ((List UInt8) × (Int × (Int × ((List (Int × ((List UInt8) × Unit))) × Unit))))) × (Int × Unit))) (t : ((List UInt8) × (Int × (Int × ((List (Int × ((List UInt8) × Unit))) × Unit))))) (x12 : (List ((List UInt8) × (Int × (Int × ((List (Int × ((List UInt8) × Unit))) × Unit)))))) (x13 : Int) (x14 : Int) (x29 : (List (Int × ((List UInt8) × Unit)))) (x30 : Int) (l : (List (Int × ((List UInt8) × (Int × (Int × ((List UInt8) × Unit))))))) (x31 : Int) (rec : (List (Int × ((List UInt8) × (Int × (Int × ((List UInt8) × Unit)))))) → Int → Option (List (Int × ((List UInt8) × (Int × (Int × ((List UInt8) × Unit))))))) (k0 : (List (Int × ((List UInt8) × (Int × (Int × ((List UInt8) × Unit)))))) → Option (List (Int × ((List UInt8) × (Int × (Int × ((List UInt8) × Unit))))))) : Option (List (Int × ((List UInt8) × (Int × (Int × ((List UInt8) × Unit)))))) :=
  cond (decide (x31 < x30))
  (cond (Go.Lift.inR x31 (List.length x29))
    (cond (decide ((((List.length l) + 1) * 56) ≤ 70368744177664))
      (rec (l ++ ([((2 : Int), (t.1, ((List.getD x29 (Int.toNat x31) ((0 : Int), (([] : List UInt8), ()))).1, ((0 : Int), ((List.getD x29 (Int.toNat x31) ((0 : Int), (([] : List UInt8), ()))).2.1, ())))))] : List (Int × ((List UInt8) × (Int × (Int × ((List UInt8) × Unit))))))) (Go.IntKind.wrap Go.IntKind.i64 (x31 + (1 : Int))))
      (none))
    (none))
  (k0 l)

noncomputable def plan_Image_p2 (N : Nat) (s : ((List ((List UInt8) × (Int × (Int × ((List (Int × ((List UInt8) × Unit))) × Unit))))) × (Int × Unit))) (l : (List (Int × ((List UInt8) × (Int × (Int × ((List UInt8) × Unit))))))) (t : ((List UInt8) × (Int × (Int × ((List (Int × ((List UInt8) × Unit))) × Unit))))) (x12 : (List ((List UInt8) × (Int × (Int × ((List (Int × ((List UInt8) × Unit))) × Unit)))))) (x13 : Int) (x14 : Int) (x29 : (List (Int × ((List UInt8) × Unit)))) (x30 : Int) (x31 : Int) (k0 : (List (Int × ((List UInt8) × (Int × (Int × ((List UInt8) × Unit)))))) → Option (List (Int × ((List UInt8) × (Int × (Int × ((List UInt8) × Unit))))))) : Option (List (Int × ((List UInt8) × (Int × (Int × ((List UInt8) × Unit)))))) :=
  iter (fun (v : ((List (Int × ((List UInt8) × (Int × (Int × ((List UInt8) × Unit)))))) × Int)) r => plan_Image_s2 N s t x12 x13 x14 x29 x30 v.1 v.2 (fun l x31 => (r (l, x31))) k0) N (l, x31)

noncomputable def plan_Image_g2 (N : Nat) (i : (((List ((List UInt8) × (Int × (Int × ((List (Int × ((List UInt8) × Unit))) × Unit))))) × (Int × Unit)) × ((List UInt8) × (Int × (Int × ((List (Int × ((List UInt8) × Unit))) × Unit)))) × (List ((List UInt8) × (Int × (Int × ((List (Int × ((List UInt8) × Unit))) × Unit))))) × Int × Int × (List (Int × ((List UInt8) × Unit))) × Int)) (v : ((List (Int × ((List UInt8) × (Int × (Int × ((List UInt8) × Unit)))))) × Int)) (r : ((List (Int × ((List UInt8) × (Int × (Int × ((List UInt8) × Unit)))))) × Int) → Option (List (Int × ((List UInt8) × (Int × (Int × ((List UInt8) × Unit))))))) (K : Ex → List A → Option (List (Int × ((List UInt8) × (Int × (Int × ((List UInt8) × Unit))))))) : Option (List (Int × ((List UInt8) × (Int × (Int × ((List UInt8) × Unit)))))) :=
  plan_Image_s2 N i.1 i.2.1 i.2.2.1 i.2.2.2.1 i.2.2.2.2.1 i.2.2.2.2.2.1 i.2.2.2.2.2.2 v.1 v.2 (fun l x31 => (r (l, x31))) (fun a1 => (K (.exit 2) (mkS [(1, .box (.pair (.sl (.pair .str (.pair (.int .i64) (.pair (.int .i64) (.pair (.sl (.pair (.int .i64) (.pair .str .unit))) .unit))))) (.pair (.int .i64) .unit))), (1, .row (.pair (.int .i64) (.pair .str (.pair (.int .i64) (.pair (.int .i64) (.pair .str .unit)))))), (8, .v (.sl (.pair .str (.pair (.int .i64) (.pair (.int .i64) (.pair (.sl (.pair (.int .i64) (.pair .str .unit))) .unit)))))), (0, .v (.int .i64)), (0, .v (.int .i64))] 38 (i.1, a1, i.2.2.1, i.2.2.2.1, i.2.2.2.2.1, ()))))

noncomputable def plan_Image_h2 (N : Nat) : Hd (List (Int × ((List UInt8) × (Int × (Int × ((List UInt8) × Unit)))))) := fun st K => (unS [(1, .box (.pair (.sl (.pair .str (.pair (.int .i64) (.pair (.int .i64) (.pair (.sl (.pair (.int .i64) (.pair .str .unit))) .unit))))) (.pair (.int .i64) .unit))), (1, .row (.pair (.int .i64) (.pair .str (.pair (.int .i64) (.pair (.int .i64) (.pair .str .unit)))))), (1, .box (.pair .str (.pair (.int .i64) (.pair (.int .i64) (.pair (.sl (.pair (.int .i64) (.pair .str .unit))) .unit))))), (6, .v (.sl (.pair .str (.pair (.int .i64) (.pair (.int .i64) (.pair (.sl (.pair (.int .i64) (.pair .str .unit))) .unit)))))), (0, .v (.int .i64)), (0, .v (.int .i64)), (14, .v (.sl (.pair (.int .i64) (.pair .str .unit)))), (0, .v (.int .i64)), (0, .v (.int .i64))] 21 (restr [31, 30, 29, 3, 5, 14, 13, 12, 1] 0 st)).bind fun x => iter (fun v r => plan_Image_g2 N ((fun x => (x.1, x.2.2.1, x.2.2.2.1, x.2.2.2.2.1, x.2.2.2.2.2.1, x.2.2.2.2.2.2.1, x.2.2.2.2.2.2.2.1)) x) v r K) N ((fun x => (x.2.1, x.2.2.2.2.2.2.2.2.1)) x)

noncomputable def plan_Image_t2 (N : Nat) : Tab (List (Int × ((List UInt8) × (Int × (Int × ((List UInt8) × Unit)))))) := []

theorem plan_Image_ok2 {N : Nat} {c : Ctx} (hb : Base Go.Proofs.Try.prog (plan_Image_E N) c) : CodeOk Go.Proofs.Try.prog c (nodeAt plan_Image_body [0, 1, 1, 1, 0, 0, 1, 1, 0, 0, 1, 0, 1, 1, 1]) (plan_Image_h2 N) :=
  loop_ok (s := [(1, .box (.pair (.sl (.pair .str (.pair (.int .i64) (.pair (.int .i64) (.pair (.sl (.pair (.int .i64) (.pair .str .unit))) .unit))))) (.pair (.int .i64) .unit))), (1, .row (.pair (.int .i64) (.pair .str (.pair (.int .i64) (.pair (.int .i64) (.pair .str .unit)))))), (1, .box (.pair .str (.pair (.int .i64) (.pair (.int .i64) (.pair (.sl (.pair (.int .i64) (.pair .str .unit))) .unit))))), (6, .v (.sl (.pair .str (.pair (.int .i64) (.pair (.int .i64) (.pair (.sl (.pair (.int .i64) (.pair .str .unit))) .unit)))))), (0, .v (.int .i64)), (0, .v (.int .i64)), (14, .v (.sl (.pair (.int .i64) (.pair .str .unit)))), (0, .v (.int .i64)), (0, .v (.int .i64))]) (m := 21) (plan_Image_g2 N) [31, 30, 29, 3, 5, 14, 13, 12, 1] N (fun x => (x.1, x.2.2.1, x.2.2.2.1, x.2.2.2.2.1, x.2.2.2.2.2.1, x.2.2.2.2.2.2.1, x.2.2.2.2.2.2.2.1)) (fun x => (x.2.1, x.2.2.2.2.2.2.2.2.1)) (fun i v => (i.1, v.1, i.2.1, i.2.2.1, i.2.2.2.1, i.2.2.2.2.1, i.2.2.2.2.2.1, i.2.2.2.2.2.2, v.2, ())) (fun _ => rfl) (evN_sound hb N (plan_Image_t2 N) plan_Image_L plan_Image_body TabOk.nil [0, 0, 1, 1, 1, 0, 0, 1, 1, 0, 0, 1, 0, 1, 1, 1] _ rfl) (fun i v r K => by kernel_rfl)

noncomputable def plan_Image_s1 (N : Nat) (s : ((List ((List UInt8) × (Int × (Int × ((List (Int × ((List UInt8) × Unit))) × Unit))))) × (Int × Unit))) (x12 : (List ((List UInt8) × (Int × (Int × ((List (Int × ((List UInt8) × Unit))) × Unit)))))) (x13 : Int) (l : (List (Int × ((List UInt8) × (Int × (Int × ((List UInt8) × Unit))))))) (x14 : Int) (rec : (List (Int × ((List UInt8) × (Int × (Int × ((List UInt8) × Unit)))))) → Int → Option (List (Int × ((List UInt8) × (Int × (Int × ((List UInt8) × Unit))))))) (k0 : (List (Int × ((List UInt8) × (Int × (Int × ((List UInt8) × Unit)))))) → Option (List (Int × ((List UInt8) × (Int × (Int × ((List UInt8) × Unit))))))) : Option (List (Int × ((List UInt8) × (Int × (Int × ((List UInt8) × Unit)))))) :=
  cond (decide (x14 < x13))
  (cond (Go.Lift.inR x14 (List.length x12))
    (cond (decide ((((List.length l) + 1) * 56) ≤ 70368744177664))
      (plan_Image_p2 N s (l ++ ([((1 : Int), ((List.getD x12 (Int.toNat x14) (([] : List UInt8), ((0 : Int), ((0 : Int), (([] : List (Int × ((List UInt8) × Unit))), ()))))).1, ((List.getD x12 (Int.toNat x14) (([] : List UInt8), ((0 : Int), ((0 : Int), (([] : List (Int × ((List UInt8) × Unit))), ()))))).2.2.1, ((List.getD x12 (Int.toNat x14) (([] : List UInt8), ((0 : Int), ((0 : Int), (([] : List (Int × ((List UInt8) × Unit))), ()))))).2.1, (([] : List UInt8), ())))))] : List (Int × ((List UInt8) × (Int × (Int × ((List UInt8) × Unit))))))) (List.getD x12 (Int.toNat x14) (([] : List UInt8), ((0 : Int), ((0 : Int), (([] : List (Int × ((List UInt8) × Unit))), ()))))) x12 x13 x14 (List.getD x12 (Int.toNat x14) (([] : List UInt8), ((0 : Int), ((0 : Int), (([] : List (Int × ((List UInt8) × Unit))), ()))))).2.2.2.1 (((List.length (List.getD x12 (Int.toNat x14) (([] : List UInt8), ((0 : Int), ((0 : Int), (([] : List (Int × ((List UInt8) × Unit))), ()))))).2.2.2.1) : Nat) : Int) (0 : Int)
        (fun l1 => rec l1 (Go.IntKind.wrap Go.IntKind.i64 (x14 + (1 : Int)))))
      (none))
    (none))
  (k0 l)

noncomputable def plan_Image_p1 (N : Nat) (s : ((List ((List UInt8) × (Int × (Int × ((List (Int × ((List UInt8) × Unit))) × Unit))))) × (Int × Unit))) (l : (List (Int × ((List UInt8) × (Int × (Int × ((List UInt8) × Unit))))))) (x12 : (List ((List UInt8) × (Int × (Int × ((List (Int × ((List UInt8) × Unit))) × Unit)))))) (x13 : Int) (x14 : Int) (k0 : (List (Int × ((List UInt8) × (Int × (Int × ((List UInt8) × Unit)))))) → Option (List (Int × ((List UInt8) × (Int × (Int × ((List UInt8) × Unit))))))) : Option (List (Int × ((List UInt8) × (Int × (Int × ((List UInt8) × Unit)))))) :=
  iter (fun (v : ((List (Int × ((List UInt8) × (Int × (Int × ((List UInt8) × Unit)))))) × Int)) r => plan_Image_s1 N s x12 x13 v.1 v.2 (fun l x14 => (r (l, x14))) k0) N (l, x14)

noncomputable def plan_Image_g1 (N : Nat) (i : (((List ((List UInt8) × (Int × (Int × ((List (Int × ((List UInt8) × Unit))) × Unit))))) × (Int × Unit)) × (List ((List UInt8) × (Int × (Int × ((List (Int × ((List UInt8) × Unit))) × Unit))))) × Int)) (v : ((List (Int × ((List UInt8) × (Int × (Int × ((List UInt8) × Unit)))))) × Int)) (r : ((List (Int × ((List UInt8) × (Int × (Int × ((List UInt8) × Unit)))))) × Int) → Option (List (Int × ((List UInt8) × (Int × (Int × ((List UInt8) × Unit))))))) (K : Ex → List A → Option (List (Int × ((List UInt8) × (Int × (Int × ((List UInt8) × Unit))))))) : Option (List (Int × ((List UInt8) × (Int × (Int × ((List UInt8) × Unit)))))) :=
  plan_Image_s1 N i.1 i.2.1 i.2.2 v.1 v.2 (fun l x14 => (r (l, x14))) (fun a1 => (K (.exit 0) (mkS [(1, .box (.pair (.sl (.pair .str (.pair (.int .i64) (.pair (.int .i64) (.pair (.sl (.pair (.int .i64) (.pair .str .unit))) .unit))))) (.pair (.int .i64) .unit))), (1, .row (.pair (.int .i64) (.pair .str (.pair (.int .i64) (.pair (.int .i64) (.pair .str .unit))))))] 49 (i.1, a1, ()))))

noncomputable def plan_Image_h1 (N : Nat) : Hd (List (Int × ((List UInt8) × (Int × (Int × ((List UInt8) × Unit)))))) := fun st K => (unS [(1, .box (.pair (.sl (.pair .str (.pair (.int .i64) (.pair (.int .i64) (.pair (.sl (.pair (.int .i64) (.pair .str .unit))) .unit))))) (.pair (.int .i64) .unit))), (1, .row (.pair (.int .i64) (.pair .str (.pair (.int .i64) (.pair (.int .i64) (.pair .str .unit)))))), (8, .v (.sl (.pair .str (.pair (.int .i64) (.pair (.int .i64) (.pair (.sl (.pair (.int .i64) (.pair .str .unit))) .unit)))))), (0, .v (.int .i64)), (0, .v (.int .i64))] 38 (restr [14, 13, 12, 3, 1] 0 st)).bind fun x => iter (fun v r => plan_Image_g1 N ((fun x => (x.1, x.2.2.1, x.2.2.2.1)) x) v r K) N ((fun x => (x.2.1, x.2.2.2.2.1)) x)

noncomputable def plan_Image_t1 (N : Nat) : Tab (List (Int × ((List UInt8) × (Int × (Int × ((List UInt8) × Unit)))))) := [([0, 1, 1, 1, 0, 0, 1, 1, 0, 0, 1, 0, 1, 1, 1], plan_Image_h2 N)]

theorem plan_Image_ok1 {N : Nat} {c : Ctx} (hb : Base Go.Proofs.Try.prog (plan_Image_E N) c) : CodeOk Go.Proofs.Try.prog c (nodeAt plan_Image_body [0, 1, 0, 1, 1, 1]) (plan_Image_h1 N) :=
  loop_ok (s := [(1, .box (.pair (.sl (.pair .str (.pair (.int .i64) (.pair (.int .i64) (.pair (.sl (.pair (.int .i64) (.pair .str .unit))) .unit))))) (.pair (.int .i64) .unit))), (1, .row (.pair (.int .i64) (.pair .str (.pair (.int .i64) (.pair (.int .i64) (.pair .str .unit)))))), (8, .v (.sl (.pair .str (.pair (.int .i64) (.pair (.int .i64) (.pair (.sl (.pair (.int .i64) (.pair .str .unit))) .unit)))))), (0, .v (.int .i64)), (0, .v (.int .i64))]) (m := 38) (plan_Image_g1 N) [14, 13, 12, 3, 1] N (fun x => (x.1, x.2.2.1, x.2.2.2.1)) (fun x => (x.2.1, x.2.2.2.2.1)) (fun i v => (i.1, v.1, i.2.1, i.2.2, v.2, ())) (fun _ => rfl) (evN_sound hb N (plan_Image_t1 N) plan_Image_L plan_Image_body (TabOk.cons (plan_Image_ok2 hb) TabOk.nil) [0, 0, 1, 0, 1, 1, 1] _ rfl) (fun i v r K => by kernel_rfl)

noncomputable def plan_Image (N : Nat) (s : ((List ((List UInt8) × (Int × (Int × ((List (Int × ((List UInt8) × Unit))) × Unit))))) × (Int × Unit))) : Option (List (Int × ((List UInt8) × (Int × (Int × ((List UInt8) × Unit)))))) :=
  (ring_Right N s).bind fun y =>
  cond (!y)
  (some ([] : List (Int × ((List UInt8) × (Int × (Int × ((List UInt8) × Unit)))))))
  (plan_Image_p1 N s ([] : List (Int × ((List UInt8) × (Int × (Int × ((List UInt8) × Unit)))))) s.1 (((List.length s.1) : Nat) : Int) (0 : Int)
    (fun l => cond (decide ((((List.length l) + 1) * 56) ≤ 70368744177664))
      (some (l ++ ([((4 : Int), (([] : List UInt8), (s.2.1, ((0 : Int), (([] : List UInt8), ())))))] : List (Int × ((List UInt8) × (Int × (Int × ((List UInt8) × Unit))))))))
      (none)))

noncomputable def plan_Image_t (N : Nat) : Tab (List (Int × ((List UInt8) × (Int × (Int × ((List UInt8) × Unit)))))) := [([0, 1, 0, 1, 1, 1], plan_Image_h1 N)]

theorem plan_Image_link (N : Nat) (x : denS [(0, .v (.pair (.sl (.pair .str (.pair (.int .i64) (.pair (.int .i64) (.pair (.sl (.pair (.int .i64) (.pair .str .unit))) .unit))))) (.pair (.int .i64) .unit)))]) : evFX (plan_Image_E N) N (plan_Image_t N) plan_Image_L Go.Proofs.Try.f20 (mkS [(0, .v (.pair (.sl (.pair .str (.pair (.int .i64) (.pair (.int .i64) (.pair (.sl (.pair (.int .i64) (.pair .str .unit))) .unit))))) (.pair (.int .i64) .unit)))] 0 x) (kRes (.v (.sl (.pair (.int .i64) (.pair .str (.pair (.int .i64) (.pair (.int .i64) (.pair .str .unit))))))) 1) = plan_Image N x.1 := by kernel_rfl

noncomputable def plan_Image_res (N : Nat) : List A → Res := resOf [(0, .v (.pair (.sl (.pair .str (.pair (.int .i64) (.pair (.int .i64) (.pair (.sl (.pair (.int .i64) (.pair .str .unit))) .unit))))) (.pair (.int .i64) .unit)))] (fun x => plan_Image N x.1) (oRes (.v (.sl (.pair (.int .i64) (.pair .str (.pair (.int .i64) (.pair (.int .i64) (.pair .str .unit))))))) 1)

theorem plan_Image_ct (N : Nat) : Contract Go.Proofs.Try.prog noGlob 20 (plan_Image_res N) :=
  Contract.of (E := plan_Image_E N) (H := plan_Image_t N) (L := plan_Image_L) (N := N) (body := plan_Image_body) (K := (kRes (.v (.sl (.pair (.int .i64) (.pair .str (.pair (.int .i64) (.pair (.int .i64) (.pair .str .unit))))))) 1)) (plan_Image_Eok N) Go.Proofs.Try.func20 (by kernel_rfl) (by decide) (fun _ hb => (TabOk.cons (plan_Image_ok1 hb) TabOk.nil)) (fun x y h => by rw [plan_Image_link]; exact h) (kRes_ok (s := (.v (.sl (.pair (.int .i64) (.pair .str (.pair (.int .i64) (.pair (.int .i64) (.pair .str .unit)))))))) (m := 1))

noncomputable def varint_Size_body : Code := (Go.Proofs.Try.f55.body).getD .skip

noncomputable def varint_Size_L : List (List Nat × List Nat) := [([0], [0]), ([0, 1], [0, 3]), ([0, 0, 1, 1], [0, 3]), ([0, 1, 0, 1, 1], [0, 3]), ([0, 0, 0, 0, 1, 0, 1, 1], [7, 3, 0]), ([1, 0, 0, 0, 1, 0, 1, 1], [3, 0]), ([1, 1, 0, 0, 0, 1, 0, 1, 1], [3]), ([0, 0, 1, 0, 0, 1, 0, 1, 1], [0, 3]), ([0, 1, 0, 0, 1, 0, 1, 1], [0, 3]), ([1, 1, 0, 0, 1, 0, 1, 1], [0, 3]), ([1, 0, 1, 1], [3]), ([0, 1, 1, 1], [2]), ([1, 1, 1, 1], [2])]

noncomputable def varint_Size_E (N : Nat) : Env := mkEnv tys noGlob [] [] [] [] false [] []

theorem varint_Size_Eok (N : Nat) : EnvOk Go.Proofs.Try.prog (varint_Size_E N) := mkEnv_ok mixed tys_ok (FnsOk.nil) (ItsOk.nil)

noncomputable def varint_Size_s1 (N : Nat) (n : Int) (size : Int) (rec : Int → Int → Option Int) (k0 : Int → Option Int) : Option Int :=
  cond (n != (0 : Int))
  (rec (Go.Lift.shrI Go.IntKind.u64 n (7 : Int)) (Go.IntKind.wrap Go.IntKind.i64 (size + (1 : Int))))
  (k0 size)

noncomputable def varint_Size_p1 (N : Nat) (n : Int) (size : Int) (k0 : Int → Option Int) : Option Int :=
  iter (fun (v : (Int × Int)) r => varint_Size_s1 N v.1 v.2 (fun n size => (r (n, size))) k0) N (n, size)

noncomputable def varint_Size_g1 (N : Nat) (i : Unit) (v : (Int × Int)) (r : (Int × Int) → Option Int) (K : Ex → List A → Option Int) : Option Int :=
  varint_Size_s1 N v.1 v.2 (fun n size => (r (n, size))) (fun a0 => (K (.exit 0) (mkS [(3, .v (.int .i64))] 9 (a0, ()))))

noncomputable def varint_Size_h1 (N : Nat) : Hd Int := fun st K => (unS [(0, .v (.int .u64)), (2, .v (.int .i64))] 9 (restr [0, 3] 0 st)).bind fun x => iter (fun v r => varint_Size_g1 N ((fun x => ()) x) v r K) N ((fun x => (x.1, x.2.1)) x)

noncomputable def varint_Size_t1 (N : Nat) : Tab Int := []

theorem varint_Size_ok1 {N : Nat} {c : Ctx} (hb : Base Go.Proofs.Try.prog (varint_Size_E N) c) : CodeOk Go.Proofs.Try.prog c (nodeAt varint_Size_body [0, 1, 0, 1, 1]) (varint_Size_h1 N) :=
  loop_ok (s := [(0, .v (.int .u64)), (2, .v (.int .i64))]) (m := 9) (varint_Size_g1 N) [0, 3] N (fun x => ()) (fun x => (x.1, x.2.1)) (fun i v => (v.1, v.2, ())) (fun _ => rfl) (evN_sound hb N (varint_Size_t1 N) varint_Size_L varint_Size_body TabOk.nil [0, 0, 1, 0, 1, 1] _ rfl) (fun i v r K => by kernel_rfl)

noncomputable def varint_Size (N : Nat) (n : Int) : Option Int :=
  varint_Size_p1 N (Go.Lift.shrI Go.IntKind.u64 n (7 : Int)) (1 : Int)
  (fun size => some size)

noncomputable def varint_Size_t (N : Nat) : Tab Int := [([0, 1, 0, 1, 1], varint_Size_h1 N)]

theorem varint_Size_link (N : Nat) (x : denS [(0, .v (.int .u64))]) : evFX (varint_Size_E N) N (varint_Size_t N) varint_Size_L Go.Proofs.Try.f55 (mkS [(0, .v (.int .u64))] 0 x) (kRes (.v (.int .i64)) 1) = varint_Size N x.1 := by kernel_rfl

noncomputable def varint_Size_res (N : Nat) : List A → Res := resOf [(0, .v (.int .u64))] (fun x => varint_Size N x.1) (oRes (.v (.int .i64)) 1)

theorem varint_Size_ct (N : Nat) : Contract Go.Proofs.Try.prog noGlob 55 (varint_Size_res N) :=
  Contract.of (E := varint_Size_E N) (H := varint_Size_t N) (L := varint_Size_L) (N := N) (body := varint_Size_body) (K := (kRes (.v (.int .i64)) 1)) (varint_Size_Eok N) Go.Proofs.Try.func55 (by kernel_rfl) (by decide) (fun _ hb => (TabOk.cons (varint_Size_ok1 hb) TabOk.nil)) (fun x y h => by rw [varint_Size_link]; exact h) (kRes_ok (s := (.v (.int .i64))) (m := 1))

noncomputable def varint_Put_body : Code := (Go.Proofs.Try.f43.body).getD .skip

noncomputable def varint_Put_L : List (List Nat × List Nat) := [([0], [0]), ([0, 1], [3, 0]), ([0, 1, 1], [3, 4, 0]), ([0, 0, 1, 1, 1], [11, 10, 4, 0, 3]), ([0, 1, 0, 1, 1, 1], [11, 10, 4, 0, 3]), ([0, 0, 0, 1, 0, 1, 1, 1], [12, 11, 4, 0, 10, 3]), ([0, 1, 0, 0, 1, 0, 1, 1, 1], [11, 4, 0, 10, 3]), ([1, 0, 1, 0, 0, 1, 0, 1, 1, 1], [4, 3]), ([0, 0, 0, 1, 1, 0, 0, 1, 0, 1, 1, 1], [4, 5, 0, 11, 10, 3]), ([0, 1, 0, 0, 1, 1, 0, 0, 1, 0, 1, 1, 1], [0, 11, 10, 4, 3]), ([1, 1, 0, 0, 1, 1, 0, 0, 1, 0, 1, 1, 1], [11, 10, 4, 0, 3]), ([0, 1, 1, 0, 0, 1, 0, 1, 1, 1], [11, 10, 4, 0, 3]), ([1, 1, 1, 0, 0, 1, 0, 1, 1, 1], [11, 10, 4, 0, 3]), ([1, 0, 1, 1, 1], [4, 3]), ([0, 1, 1, 1, 1], [4]), ([0, 1, 1, 1, 1, 1], [2]), ([1, 1, 1, 1, 1, 1], [2])]

noncomputable def varint_Put_E (N : Nat) : Env := mkEnv tys noGlob [(55, varint_Size_res N)] [(4, (.int .u8))] [] [] false [] []

theorem varint_Put_Eok (N : Nat) : EnvOk Go.Proofs.Try.prog (varint_Put_E N) := mkEnv_ok mixed tys_ok (FnsOk.cons (varint_Size_ct N) (FnsOk.nil)) (ItsOk.nil)

noncomputable def varint_Put_s1 (N : Nat) (size : Int) (x10 : Int) (n : Int) (out : (List Int)) (x11 : Int) (rec : Int → (List Int) → Int → Option (List UInt8)) (k0 : (List Int) → Option (List UInt8)) : Option (List UInt8) :=
  cond (decide (x11 < x10))
  (cond (Go.Lift.inR x11 (List.length out))
    (cond (decide ((Int.toNat x11) < (List.length out)))
      (rec (Go.Lift.shrI Go.IntKind.u64 n (7 : Int)) (List.set out (Int.toNat x11) (Go.Lift.bitsOp Go.BinOp.or Go.IntKind.u8 (Go.IntKind.wrap Go.IntKind.u8 n) (128 : Int))) (Go.IntKind.wrap Go.IntKind.i64 (x11 + (1 : Int))))
      (none))
    (none))
  (k0 out)

noncomputable def varint_Put_p1 (N : Nat) (n : Int) (size : Int) (out : (List Int)) (x10 : Int) (x11 : Int) (k0 : (List Int) → Option (List UInt8)) : Option (List UInt8) :=
  iter (fun (v : (Int × (List Int) × Int)) r => varint_Put_s1 N size x10 v.1 v.2.1 v.2.2 (fun n out x11 => (r (n, out, x11))) k0) N (n, out, x11)

noncomputable def varint_Put_g1 (N : Nat) (i : (Int × Int)) (v : (Int × (List Int) × Int)) (r : (Int × (List Int) × Int) → Option (List UInt8)) (K : Ex → List A → Option (List UInt8)) : Option (List UInt8) :=
  varint_Put_s1 N i.1 i.2 v.1 v.2.1 v.2.2 (fun n out x11 => (r (n, out, x11))) (fun a1 => (K (.exit 0) (mkS [(3, .v (.int .i64)), (0, .row (.int .u8))] 27 (i.1, a1, ()))))

noncomputable def varint_Put_h1 (N : Nat) : Hd (List UInt8) := fun st K => (unS [(0, .v (.int .u64)), (2, .v (.int .i64)), (0, .row (.int .u8)), (5, .v (.int .i64)), (0, .v (.int .i64))] 20 (restr [11, 10, 4, 0, 3] 0 st)).bind fun x => iter (fun v r => varint_Put_g1 N ((fun x => (x.2.1, x.2.2.2.1)) x) v r K) N ((fun x => (x.1, x.2.2.1, x.2.2.2.2.1)) x)

noncomputable def varint_Put_t1 (N : Nat) : Tab (List UInt8) := []

theorem varint_Put_ok1 {N : Nat} {c : Ctx} (hb : Base Go.Proofs.Try.prog (varint_Put_E N) c) : CodeOk Go.Proofs.Try.prog c (nodeAt varint_Put_body [0, 1, 0, 1, 1, 1]) (varint_Put_h1 N) :=
  loop_ok (s := [(0, .v (.int .u64)), (2, .v (.int .i64)), (0, .row (.int .u8)), (5, .v (.int .i64)), (0, .v (.int .i64))]) (m := 20) (varint_Put_g1 N) [11, 10, 4, 0, 3] N (fun x => (x.2.1, x.2.2.2.1)) (fun x => (x.1, x.2.2.1, x.2.2.2.2.1)) (fun i v => (v.1, i.1, v.2.1, i.2, v.2.2, ())) (fun _ => rfl) (evN_sound hb N (varint_Put_t1 N) varint_Put_L varint_Put_body TabOk.nil [0, 0, 1, 0, 1, 1, 1] _ rfl) (fun i v r K => by kernel_rfl)

noncomputable def varint_Put (N : Nat) (n : Int) : Option (List UInt8) :=
  (varint_Size N n).bind fun y =>
  cond (decide (((0 : Int) ≤ y) ∧ ((y ≤ y) ∧ (((y * (1 : Int)) ≤ (281474976710656 : Int)) ∧ (y ≤ (9223372036854775807 : Int))))))
  (varint_Put_p1 N n y (List.replicate (Int.toNat y) (0 : Int)) y (0 : Int)
    (fun out => cond (Go.Lift.inR (Go.IntKind.wrap Go.IntKind.i64 (y - (1 : Int))) (List.length out))
      (cond (decide ((Int.toNat (Go.IntKind.wrap Go.IntKind.i64 (y - (1 : Int)))) < (List.length out)))
        (cond (Go.Lift.inR (Go.IntKind.wrap Go.IntKind.i64 (y - (1 : Int))) (List.length out))
          (cond (decide ((Int.toNat (Go.IntKind.wrap Go.IntKind.i64 (y - (1 : Int)))) < (List.length out)))
            (some (Go.Lift.toStr (List.set out (Int.toNat (Go.IntKind.wrap Go.IntKind.i64 (y - (1 : Int)))) (Go.Lift.bitsOp Go.BinOp.andNot Go.IntKind.u8 (List.getD out (Int.toNat (Go.IntKind.wrap Go.IntKind.i64 (y - (1 : Int)))) (0 : Int)) (128 : Int)))))
            (none))
          (none))
        (none))
      (none)))
  (none)

noncomputable def varint_Put_t (N : Nat) : Tab (List UInt8) := [([0, 1, 0, 1, 1, 1], varint_Put_h1 N)]

theorem varint_Put_link (N : Nat) (x : denS [(0, .v (.int .u64))]) : evFX (varint_Put_E N) N (varint_Put_t N) varint_Put_L Go.Proofs.Try.f43 (mkS [(0, .v (.int .u64))] 0 x) (kRes (.v .str) 1) = varint_Put N x.1 := by kernel_rfl

noncomputable def varint_Put_res (N : Nat) : List A → Res := resOf [(0, .v (.int .u64))] (fun x => varint_Put N x.1) (oRes (.v .str) 1)

theorem varint_Put_ct (N : Nat) : Contract Go.Proofs.Try.prog noGlob 43 (varint_Put_res N) :=
  Contract.of (E := varint_Put_E N) (H := varint_Put_t N) (L := varint_Put_L) (N := N) (body := varint_Put_body) (K := (kRes (.v .str) 1)) (varint_Put_Eok N) Go.Proofs.Try.func43 (by kernel_rfl) (by decide) (fun _ hb => (TabOk.cons (varint_Put_ok1 hb) TabOk.nil)) (fun x y h => by rw [varint_Put_link]; exact h) (kRes_ok (s := (.v .str)) (m := 1))

noncomputable def field_Num_body : Code := (Go.Proofs.Try.f32.body).getD .skip

noncomputable def field_Num_L : List (List Nat × List Nat) := [([0], [0]), ([0, 1], [2]), ([1, 1], [2])]

noncomputable def field_Num_E (N : Nat) : Env := mkEnv tys noGlob [(43, varint_Put_res N)] [] [] [] false [] []

theorem field_Num_Eok (N : Nat) : EnvOk Go.Proofs.Try.prog (field_Num_E N) := mkEnv_ok mixed tys_ok (FnsOk.cons (varint_Put_ct N) (FnsOk.nil)) (ItsOk.nil)

noncomputable def field_Num (N : Nat) (n : Int) : Option (List UInt8) :=
  (varint_Put N n).bind fun y =>
  some y

noncomputable def field_Num_t (N : Nat) : Tab (List UInt8) := []

theorem field_Num_link (N : Nat) (x : denS [(0, .v (.int .u64))]) : evFX (field_Num_E N) N (field_Num_t N) field_Num_L Go.Proofs.Try.f32 (mkS [(0, .v (.int .u64))] 0 x) (kRes (.v .str) 1) = field_Num N x.1 := by kernel_rfl

noncomputable def field_Num_res (N : Nat) : List A → Res := resOf [(0, .v (.int .u64))] (fun x => field_Num N x.1) (oRes (.v .str) 1)

theorem field_Num_ct (N : Nat) : Contract Go.Proofs.Try.prog noGlob 32 (field_Num_res N) :=
  Contract.of (E := field_Num_E N) (H := field_Num_t N) (L := field_Num_L) (N := N) (body := field_Num_body) (K := (kRes (.v .str) 1)) (field_Num_Eok N) Go.Proofs.Try.func32 (by kernel_rfl) (by decide) (fun _ hb => TabOk.nil) (fun x y h => by rw [field_Num_link]; exact h) (kRes_ok (s := (.v .str)) (m := 1))

noncomputable def strings_Builder_WriteString_body : Code := (Go.Proofs.Try.f31.body).getD .skip

noncomputable def strings_Builder_WriteString_L : List (List Nat × List Nat) := [([0], [0, 1]), ([0, 1], [0, 1]), ([0, 1, 1], [1, 0]), ([0, 1, 1, 1], [4, 5, 0]), ([1, 1, 1, 1], [4, 5, 0])]

noncomputable def strings_Builder_WriteString_E (N : Nat) : Env := mkEnv tys noGlob [(42, cc_res)] [] [] [0] false [] []

theorem strings_Builder_WriteString_Eok (N : Nat) : EnvOk Go.Proofs.Try.prog (strings_Builder_WriteString_E N) := mkEnv_ok mixed tys_ok (FnsOk.cons (cc_ct noGlob) (FnsOk.nil)) (ItsOk.nil)

noncomputable def strings_Builder_WriteString (N : Nat) (b : (Unit × ((List Int) × Unit))) (s : (List UInt8)) : Option ((Int × Go.Value × Unit) × ((Unit × ((List Int) × Unit)) × Unit)) :=
  cond (decide ((((List.length b.2.1) + (List.length (Go.Lift.ofStr s))) * 1) ≤ 70368744177664))
  (some (((((List.length s) : Nat) : Int), (Go.Value.nilIface, ())), ((b.1, ((b.2.1 ++ (Go.Lift.ofStr s)), b.2.2)), ())))
  (none)

noncomputable def strings_Builder_WriteString_t (N : Nat) : Tab ((Int × Go.Value × Unit) × ((Unit × ((List Int) × Unit)) × Unit)) := []

theorem strings_Builder_WriteString_link (N : Nat) (x : denS [(0, .box (.pair (.self 53) (.pair (.own (.byt 5)) .unit))), (0, .v .str)]) : evFX (strings_Builder_WriteString_E N) N (strings_Builder_WriteString_t N) strings_Builder_WriteString_L Go.Proofs.Try.f31 (mkS [(0, .box (.pair (.self 53) (.pair (.own (.byt 5)) .unit))), (0, .v .str)] 0 x) (kResB (.tup [(.int .i64), .opq]) [(0, .box (.pair (.self 53) (.pair (.own (.byt 5)) .unit)))] 1) = strings_Builder_WriteString N x.1 x.2.1 := by kernel_rfl

noncomputable def strings_Builder_WriteString_res (N : Nat) : List A → Res := resOf [(0, .box (.pair (.self 53) (.pair (.own (.byt 5)) .unit))), (0, .v .str)] (fun x => strings_Builder_WriteString N x.1 x.2.1) (oResB (.tup [(.int .i64), .opq]) [(0, .box (.pair (.self 53) (.pair (.own (.byt 5)) .unit)))] 1)

theorem strings_Builder_WriteString_ct (N : Nat) : Contract Go.Proofs.Try.prog noGlob 31 (strings_Builder_WriteString_res N) :=
  Contract.of (E := strings_Builder_WriteString_E N) (H := strings_Builder_WriteString_t N) (L := strings_Builder_WriteString_L) (N := N) (body := strings_Builder_WriteString_body) (K := (kResB (.tup [(.int .i64), .opq]) [(0, .box (.pair (.self 53) (.pair (.own (.byt 5)) .unit)))] 1)) (strings_Builder_WriteString_Eok N) Go.Proofs.Try.func31 (by kernel_rfl) (by decide) (fun _ hb => TabOk.nil) (fun x y h => by rw [strings_Builder_WriteString_link]; exact h) (kResB_ok (s := (.tup [(.int .i64), .opq])) (os := [(0, .box (.pair (.self 53) (.pair (.own (.byt 5)) .unit)))]) (m := 1))

noncomputable def ring_Form_body : Code := (Go.Proofs.Try.f44.body).getD .skip

noncomputable def ring_Form_L : List (List Nat × List Nat) := [([0], [1]), ([0, 1], [1, 3]), ([0, 0, 1, 1], [13, 3, 1]), ([0, 0, 1, 0, 1, 1], [14, 3, 1, 13]), ([1, 0, 1, 0, 1, 1], []), ([0, 1, 1, 0, 1, 0, 1, 1], [27, 3, 1, 13]), ([1, 1, 1, 0, 1, 0, 1, 1], []), ([0, 1, 1, 1, 1, 0, 1, 0, 1, 1], [41, 3, 1, 13]), ([1, 1, 1, 1, 1, 0, 1, 0, 1, 1], []), ([0, 1, 1, 1, 1, 1, 1, 0, 1, 0, 1, 1], [54, 1]), ([1, 1, 1, 1, 1, 1, 1, 0, 1, 0, 1, 1], []), ([0, 0, 1, 1, 1, 1, 1, 1, 1, 0, 1, 0, 1, 1], [2]), ([1, 0, 1, 1, 1, 1, 1, 1, 1, 0, 1, 0, 1, 1], [2]), ([0, 0, 1, 1, 1, 1, 1, 0, 1, 0, 1, 1], [2]), ([1, 0, 1, 1, 1, 1, 1, 0, 1, 0, 1, 1], [2]), ([0, 0, 1, 1, 1, 0, 1, 0, 1, 1], [2]), ([1, 0, 1, 1, 1, 0, 1, 0, 1, 1], [2]), ([0, 0, 1, 0, 1, 0, 1, 1], [2]), ([1, 0, 1, 0, 1, 0, 1, 1], [2]), ([1, 0, 1, 1], []), ([0, 1, 1, 1], [2]), ([1, 1, 1, 1], [2])]

noncomputable def ring_Form_E (N : Nat) : Env := mkEnv tys noGlob [(52, name_Word_res N), (40, ring_within_res N)] [] [] [] false [] []

theorem ring_Form_Eok (N : Nat) : EnvOk Go.Proofs.Try.prog (ring_Form_E N) := mkEnv_ok mixed tys_ok (FnsOk.cons (name_Word_ct N) (FnsOk.cons (ring_within_ct N) (FnsOk.nil))) (ItsOk.nil)

noncomputable def ring_Form_p1 (N : Nat) (e : (Int × ((List UInt8) × (Int × (Int × ((List UInt8) × Unit)))))) (k0 : Bool → Option Bool) : Option Bool :=
  (name_Word N e.2.1).bind fun y =>
  cond y
  ((ring_within N e.2.2.1 (1 : Int)).bind fun y1 =>
    k0 y1)
  (k0 false)

noncomputable def ring_Form_g1 (N : Nat) (x : denS [(1, .box (.pair (.int .i64) (.pair .str (.pair (.int .i64) (.pair (.int .i64) (.pair .str .unit))))))]) (K : Ex → List A → Option Bool) : Option Bool :=
  ring_Form_p1 N x.1 (fun a1 => (K .normal (mkS [(1, .box (.pair (.int .i64) (.pair .str (.pair (.int .i64) (.pair (.int .i64) (.pair .str .unit)))))), (1, .v .bool)] 70 (x.1, a1, ()))))

noncomputable def ring_Form_h1 (N : Nat) : Hd Bool := fun st K => (unS [(1, .box (.pair (.int .i64) (.pair .str (.pair (.int .i64) (.pair (.int .i64) (.pair .str .unit))))))] 72 (restr [1] 0 st)).bind fun x => ring_Form_g1 N x K

noncomputable def ring_Form_t1 (N : Nat) : Tab Bool := []

theorem ring_Form_ok1 {N : Nat} {c : Ctx} (hb : Base Go.Proofs.Try.prog (ring_Form_E N) c) : CodeOk Go.Proofs.Try.prog c (nodeAt ring_Form_body [0, 1]) (ring_Form_h1 N) :=
  piece_ok (s := [(1, .box (.pair (.int .i64) (.pair .str (.pair (.int .i64) (.pair (.int .i64) (.pair .str .unit))))))]) (m := 72) (g := ring_Form_g1 N) [1] (evN_sound hb N (ring_Form_t1 N) ring_Form_L ring_Form_body TabOk.nil [0, 1] _ rfl) (fun x K => by kernel_rfl)

noncomputable def ring_Form (N : Nat) (e : (Int × ((List UInt8) × (Int × (Int × ((List UInt8) × Unit)))))) : Option Bool :=
  ring_Form_p1 N e
  (fun ofTenant => cond (e.1 == (1 : Int))
    (cond ofTenant
      ((ring_within N e.2.2.2.1 (0 : Int)).bind fun y =>
        cond y
        (some (e.2.2.2.2.1 == ([] : List UInt8)))
        (some false))
      (some false))
    (cond (e.1 == (2 : Int))
      (cond ofTenant
        (cond (e.2.2.2.1 == (0 : Int))
          (some ((((List.length e.2.2.2.2.1) : Nat) : Int) == (32 : Int)))
          (some false))
        (some false))
      (cond (e.1 == (3 : Int))
        (cond ofTenant
          (cond (e.2.2.2.1 == (0 : Int))
            (some (e.2.2.2.2.1 == ([] : List UInt8)))
            (some false))
          (some false))
        (cond (e.1 == (4 : Int))
          ((ring_within N e.2.2.1 (0 : Int)).bind fun y1 =>
            cond y1
            (cond (e.2.1 == ([] : List UInt8))
              (cond (e.2.2.2.1 == (0 : Int))
                (some (e.2.2.2.2.1 == ([] : List UInt8)))
                (some false))
              (some false))
            (some false))
          (some false)))))

noncomputable def ring_Form_t (N : Nat) : Tab Bool := [([0, 1], ring_Form_h1 N)]

theorem ring_Form_link (N : Nat) (x : denS [(0, .v (.pair (.int .i64) (.pair .str (.pair (.int .i64) (.pair (.int .i64) (.pair .str .unit))))))]) : evFX (ring_Form_E N) N (ring_Form_t N) ring_Form_L Go.Proofs.Try.f44 (mkS [(0, .v (.pair (.int .i64) (.pair .str (.pair (.int .i64) (.pair (.int .i64) (.pair .str .unit))))))] 0 x) (kRes (.v .bool) 1) = ring_Form N x.1 := by kernel_rfl

noncomputable def ring_Form_res (N : Nat) : List A → Res := resOf [(0, .v (.pair (.int .i64) (.pair .str (.pair (.int .i64) (.pair (.int .i64) (.pair .str .unit))))))] (fun x => ring_Form N x.1) (oRes (.v .bool) 1)

theorem ring_Form_ct (N : Nat) : Contract Go.Proofs.Try.prog noGlob 44 (ring_Form_res N) :=
  Contract.of (E := ring_Form_E N) (H := ring_Form_t N) (L := ring_Form_L) (N := N) (body := ring_Form_body) (K := (kRes (.v .bool) 1)) (ring_Form_Eok N) Go.Proofs.Try.func44 (by kernel_rfl) (by decide) (fun _ hb => (TabOk.cons (ring_Form_ok1 hb) TabOk.nil)) (fun x y h => by rw [ring_Form_link]; exact h) (kRes_ok (s := (.v .bool)) (m := 1))

noncomputable def field_Text_body : Code := (Go.Proofs.Try.f34.body).getD .skip

noncomputable def field_Text_L : List (List Nat × List Nat) := [([0], [0]), ([0, 1], [2]), ([1, 1], [2])]

noncomputable def field_Text_E (N : Nat) : Env := mkEnv tys noGlob [(43, varint_Put_res N)] [] [] [] false [] []

theorem field_Text_Eok (N : Nat) : EnvOk Go.Proofs.Try.prog (field_Text_E N) := mkEnv_ok mixed tys_ok (FnsOk.cons (varint_Put_ct N) (FnsOk.nil)) (ItsOk.nil)

noncomputable def field_Text (N : Nat) (s : (List UInt8)) : Option (List UInt8) :=
  (varint_Put N (Go.IntKind.wrap Go.IntKind.u64 (((List.length s) : Nat) : Int))).bind fun y =>
  cond (decide (((List.length y) + (List.length s)) ≤ 9223372036854775807))
  (some (y ++ s))
  (none)

noncomputable def field_Text_t (N : Nat) : Tab (List UInt8) := []

theorem field_Text_link (N : Nat) (x : denS [(0, .v .str)]) : evFX (field_Text_E N) N (field_Text_t N) field_Text_L Go.Proofs.Try.f34 (mkS [(0, .v .str)] 0 x) (kRes (.v .str) 1) = field_Text N x.1 := by kernel_rfl

noncomputable def field_Text_res (N : Nat) : List A → Res := resOf [(0, .v .str)] (fun x => field_Text N x.1) (oRes (.v .str) 1)

theorem field_Text_ct (N : Nat) : Contract Go.Proofs.Try.prog noGlob 34 (field_Text_res N) :=
  Contract.of (E := field_Text_E N) (H := field_Text_t N) (L := field_Text_L) (N := N) (body := field_Text_body) (K := (kRes (.v .str) 1)) (field_Text_Eok N) Go.Proofs.Try.func34 (by kernel_rfl) (by decide) (fun _ hb => TabOk.nil) (fun x y h => by rw [field_Text_link]; exact h) (kRes_ok (s := (.v .str)) (m := 1))

theorem glob_none (S : Hp) : GlobOk noGlob S := fun g d h => by cases h

/-- a world behind another one, in which nothing that was there has turned -/
def Calm (w : World) (S : Hp) (w' : World) : Prop := ∃ S', WF w (fun _ => False) w' ∧ Lift.Sub S S' ∧ Lift.Sub S' (hp w') ∧ ∀ k, S' k ≠ none → S k ≠ none ∨ w.heap.size ≤ k

theorem Calm.refl {w : World} {S : Hp} (h : Lift.Sub S (hp w)) : Calm w S w := ⟨S, WF.refl _ _, Lift.Sub.refl S, h, fun _ h => .inl h⟩

theorem Calm.cell {w w' : World} {S : Hp} {p : Addr} {v : Value} (h : Calm w S w') (hc : w.cell? p = some v) : w'.cell? p = some v := by
  obtain ⟨S', h1, _⟩ := h
  have hlt : p.block < w.heap.size := by
    cases hh : w.heap[p.block]? with
    | none => simp [World.cell?, hh] at hc
    | some o => exact (Array.getElem?_eq_some_iff.1 hh).1
  have := h1.same p.block hlt (fun h => h)
  simp only [World.cell?] at hc ⊢
  rw [this]
  exact hc

theorem Calm.next {w w1 w2 : World} {S : Hp} (h : Calm w S w1) (hk : ∀ S1, Lift.Sub S1 (hp w1) → Calm w1 S1 w2) : Calm w S w2 := by
  obtain ⟨S1, h1, h2, h3, h4⟩ := h
  obtain ⟨S2, k1, k2, k3, k4⟩ := hk S1 h3
  refine ⟨S2, h1.trans k1 (fun k hk => .inl hk), h2.trans k2, k3, fun k hk => ?_⟩
  rcases k4 k hk with h | h
  · exact h4 k h
  · exact .inr (Nat.le_trans h1.size h)

theorem calm_of {w w' : World} {S : Hp} {args : List A} {vals : List Value} {r : A} {outs : List A} {e : Ending}
    (h : Lift.Ends w S args vals (fun _ => []) r outs e w') : ∃ v o S', e = .returned v ∧ ARel (hp w') S' (fun _ => undef) r v o ∧ Calm w S w' := by
  obtain ⟨v, S', o, ob', rfl, hwf, hSS, hSw, hnew, ⟨hr, _⟩, _⟩ := h
  refine ⟨v, o, S', rfl, hr, S', ⟨hwf.size, fun k hk _ => hwf.same k hk (by rintro ⟨i, hi⟩; cases hi), hwf.tape, hwf.os, hwf.output⟩, hSS, hSw, fun k hk => ?_⟩
  rcases hnew k hk with h | ⟨i, hi⟩ | h
  · exact .inl h
  · cases hi
  · exact .inr h

theorem args_plain {w : World} {S : Hp} (l : List (A × Value)) (hl : ∀ p ∈ l, ARel (hp w) S (fun _ => undef) p.1 p.2 [] ∧ p.1.refs = []) :
    ArgsRel (hp w) S (l.map (·.1)) (l.map (·.2)) (fun _ => []) := by
  refine ⟨by simp, fun i y hy => ?_, fun _ _ => rfl, (fun i j b hb => by cases hb), fun _ => .nil, (fun i b hb => by cases hb)⟩
  simp only [List.getElem?_map] at hy ⊢
  cases hp : l[i]? with
  | none => rw [hp] at hy; cases hy
  | some p =>
    rw [hp] at hy
    cases hy
    have := hl p (List.mem_of_getElem? hp)
    exact ⟨⟨p.2, rfl, this.1⟩, this.2⟩

theorem num_bytes (N : Nat) {w : World} {S : Hp} (hS : Lift.Sub S (hp w)) {n : Int} {s : List UInt8} (hy : field_Num N n = some s) :
    Calls Try.prog 32 #[.int .u64 n] w fun r w' => r = .returned (.string ⟨⟨s⟩⟩) ∧ Calm w S w' := by
  refine ((field_Num_ct N).2 w S _ _ _ (args_plain [(.v (.int .u64) n, .int .u64 n)] (fun p hp => by rw [List.mem_singleton.1 hp]; exact ⟨⟨VR.int, rfl⟩, rfl⟩)) hS (glob_none S) _ hy).mono ?_
  intro e w' he
  obtain ⟨v, o, S', rfl, hr, hc⟩ := calm_of he
  exact ⟨by rw [VR.str_inv hr.1], hc⟩

theorem text_bytes (N : Nat) {w : World} {S : Hp} (hS : Lift.Sub S (hp w)) {t s : List UInt8} (hy : field_Text N t = some s) :
    Calls Try.prog 34 #[.string ⟨⟨t⟩⟩] w fun r w' => r = .returned (.string ⟨⟨s⟩⟩) ∧ Calm w S w' := by
  refine ((field_Text_ct N).2 w S _ _ _ (args_plain [(.v .str t, .string ⟨⟨t⟩⟩)] (fun p hp => by rw [List.mem_singleton.1 hp]; exact ⟨⟨VR.str, rfl⟩, rfl⟩)) hS (glob_none S) _ hy).mono ?_
  intro e w' he
  obtain ⟨v, o, S', rfl, hr, hc⟩ := calm_of he
  exact ⟨by rw [VR.str_inv hr.1], hc⟩

theorem bytes_add (a b : List UInt8) : (⟨⟨a⟩⟩ : ByteArray) ++ ⟨⟨b⟩⟩ = ⟨⟨a ++ b⟩⟩ := by
  apply ByteArray.ext
  rw [ByteArray.data_append]
  apply Array.toList_inj.1
  simp

theorem calm_alloc {w : World} {S : Hp} (hS : Lift.Sub S (hp w)) (cs : Array Value) (E : Nat) : Calm w S (w.alloc (.cells cs E)) := by
  have hh : (w.alloc (.cells cs E)).heap = w.heap.push (.cells cs E (0, 0)) := rfl
  have hk : ∀ k, k < w.heap.size → (w.alloc (.cells cs E)).heap[k]? = w.heap[k]? := fun k hk => by
    rw [hh, Array.getElem?_push, if_neg (by omega)]
  refine ⟨S, ⟨?_, fun k h1 _ => hk k h1, rfl, rfl, rfl⟩, Lift.Sub.refl S, fun k o ho => ?_, fun _ h => .inl h⟩
  · rw [hh, Array.size_push]; omega
  · have := hS k o ho
    simp only [hp] at this ⊢
    rw [hk k (Array.getElem?_eq_some_iff.1 this).1]
    exact this

theorem alloc_at {w : World} {cs : Array Value} {E i : Nat} {v : Value} (h : cs[i]? = some v) : (w.alloc (.cells cs E)).cell? ⟨w.heap.size, i, none⟩ = some v := by
  have hh : (w.alloc (.cells cs E)).heap = w.heap.push (.cells cs E (0, 0)) := rfl
  simp [World.cell?, hh, h]

set_option maxHeartbeats 4000000 in
theorem ends_of_calm {w w' : World} {S : Hp} {args : List A} {vals : List Value} {ob : Nat → List Nat} {rA : A} {rV : Value} {outs : List A}
    (hb : ∀ y ∈ args, isBoxA y = false) (hob : ∀ i, ob i = []) (hC : Calm w S w') (hr : ∀ S', ARel (hp w') S' (fun _ => undef) rA rV []) (hrr : rA.refs = []) : Lift.Ends w S args vals ob rA outs (.returned rV) w' := by
  obtain ⟨S', h1, h2, h3, h4⟩ := hC
  refine ⟨rV, S', [], ob, rfl, ⟨h1.size, fun k hk _ => h1.same k hk (fun h => h), h1.tape, h1.os, h1.output⟩, h2, h3, fun k hk => ?_, ⟨hr S', hrr⟩, (fun k hk => by cases hk), .nil, ?_, ?_, ?_, ?_, fun _ h => h⟩
  · rcases h4 k hk with h | h
    · exact .inl h
    · exact .inr (.inr h)
  · intro i y hy hbx
    have := hb y (List.mem_of_getElem? hy)
    rw [hbx] at this
    cases this
  · intro i k hk
    rw [hob i] at hk
    cases hk
  · intro i j k hi
    rw [hob i] at hi
    cases hi
  · intro i
    rw [hob i]
    exact .nil

theorem form_bool (N : Nat) {w : World} {S : Hp} (hS : Lift.Sub S (hp w)) {k n e : Int} {t x : List UInt8} {v : Bool} (hy : ring_Form N (k, t, n, e, x, ()) = some v) :
    Calls Try.prog 44 #[.agg #[.int .i64 k, .string ⟨⟨t⟩⟩, .int .i64 n, .int .i64 e, .string ⟨⟨x⟩⟩]] w fun r w' => r = .returned (.bool v) ∧ Calm w S w' := by
  refine ((ring_Form_ct N).2 w S _ _ _ (args_plain [(.v (.pair (.int .i64) (.pair .str (.pair (.int .i64) (.pair (.int .i64) (.pair .str .unit))))) (k, t, n, e, x, ()), .agg #[.int .i64 k, .string ⟨⟨t⟩⟩, .int .i64 n, .int .i64 e, .string ⟨⟨x⟩⟩])] (fun p hp => by
    rw [List.mem_singleton.1 hp]
    exact ⟨⟨⟨_, rfl, [.int .i64 k], _, rfl, rfl, [.string ⟨⟨t⟩⟩], _, rfl, rfl, [.int .i64 n], _, rfl, rfl, [.int .i64 e], _, rfl, rfl, [.string ⟨⟨x⟩⟩], [], rfl, rfl, rfl⟩, rfl⟩, rfl⟩)) hS (glob_none S) _ hy).mono ?_
  intro e' w' he
  obtain ⟨u, o, S', rfl, hr, hc⟩ := calm_of he
  exact ⟨by rw [VR.bool_inv hr.1], hc⟩

theorem Calm.drew {w w' : World} {S : Hp} (h : Calm w S w') : Calm w S w'.drew := by
  obtain ⟨S', h1, h2, h3, h4⟩ := h
  exact ⟨S', ⟨h1.size, h1.same, h1.tape, h1.os, h1.output⟩, h2, h3, h4⟩

theorem numbersOf_walk {w : World} {b : Nat} :
    Calls Try.prog 45 #[.pointer (some ⟨b, 0, none⟩)] w fun r w' => r = .returned (.agg #[.pointer (some ⟨b, 3, none⟩), .pointer (some ⟨b, 2, none⟩)]) ∧ ∀ S, Lift.Sub S (hp w) → Calm w S w' := by
  go_enter Try.func45, Try.ntmps45
  go_wp2
  go_region_held3 (fun _ => True) (trivial) (fail)
  all_goals go_wp2
  refine ⟨rfl, _, ?_, rfl, fun S hS => (calm_alloc hS _ _).drew⟩
  have c0 : (w.alloc (.cells #[.pointer (some ⟨b, 3, none⟩), .pointer (some ⟨b, 2, none⟩)] 66)).cell? ⟨w.heap.size, 0, none⟩ = some (.pointer (some ⟨b, 3, none⟩)) := alloc_at rfl
  have c1 : (w.alloc (.cells #[.pointer (some ⟨b, 3, none⟩), .pointer (some ⟨b, 2, none⟩)] 66)).cell? ⟨w.heap.size, 1, none⟩ = some (.pointer (some ⟨b, 2, none⟩)) := alloc_at rfl
  simp [results, Try.results45, go_sem, c0, c1]

theorem putnum_walk (N : Nat) {w : World} {S : Hp} {b c : Nat} {e n : Int} {a1 a2 : List UInt8} (hS : Lift.Sub S (hp w))
    (c0 : w.cell? ⟨c, 0, none⟩ = some (.pointer (some ⟨b, 3, none⟩))) (c1 : w.cell? ⟨c, 1, none⟩ = some (.pointer (some ⟨b, 2, none⟩)))
    (b2 : w.cell? ⟨b, 2, none⟩ = some (.int .i64 n)) (b3 : w.cell? ⟨b, 3, none⟩ = some (.int .i64 e))
    (he : 0 ≤ e) (he' : e ≤ 1099511627776) (h1 : field_Num N e = some a1) (hn : 0 ≤ n) (hn' : n ≤ 1099511627776) (h2 : field_Num N n = some a2)
    (l1 : a1.length ≤ 9223372036854775807) (l2 : a1.length + a2.length ≤ 9223372036854775807) :
    Calls Try.prog 46 #[.slice (some ⟨c, 0, none⟩) 2 2] w fun r w' => r = .returned (.string ⟨⟨a1 ++ a2⟩⟩) ∧ Calm w S w' := by
  have H1 := num_bytes N hS h1
  have H2 : ∀ w1, Calm w S w1 → Calls Try.prog 32 #[.int .u64 n] w1 fun r w' => r = .returned (.string ⟨⟨a2⟩⟩) ∧ Calm w S w' := fun w1 ⟨S1, k1, k2, k3, k4⟩ =>
    (num_bytes N k3 h2).mono (by rintro r w' ⟨rfl, S2, l1, l2, l3, l4⟩; exact ⟨rfl, S2, k1.trans l1 (fun _ h => .inl h), k2.trans l2, l3, fun k hk => (l4 k hk).elim (k4 k) (fun h => .inr (Nat.le_trans k1.size h))⟩)
  go_enter Try.func46, Try.ntmps46
  go_wp2
  refine wp_loop_rounds 3 ?_
  rw [rounds_succ]
  go_wp2_with (go_at_call 32; refine H1.mono ?_; rintro r w1 ⟨rfl, hq⟩; have q1 := hq.cell c1; have q2 := hq.cell b2; have G2 := H2 w1 hq; clear H1 H2 hq)
  rw [rounds_succ]
  go_wp2_with (go_at_call 32; refine G2.mono ?_; rintro r w2 ⟨rfl, hq⟩; have HM := Go.Lib.hid hq; clear G2 hq)
  rw [rounds_succ]
  go_wp2
  first | go_ret | go_ret2
  refine ⟨?_, HM.out⟩
  have z : (⟨#[]⟩ : ByteArray) = ⟨⟨[]⟩⟩ := rfl
  simp [z, bytes_add]

theorem calm_comp {w w1 : World} {S : Hp} (h : Calm w S w1) : ∃ S1, Lift.Sub S1 (hp w1) ∧ ∀ w2, Calm w1 S1 w2 → Calm w S w2 := by
  obtain ⟨S1, k1, k2, k3, k4⟩ := h
  exact ⟨S1, k3, fun w2 ⟨S2, l1, l2, l3, l4⟩ => ⟨S2, k1.trans l1 (fun _ h => .inl h), k2.trans l2, l3, fun k hk => (l4 k hk).elim (k4 k) (fun h => .inr (Nat.le_trans k1.size h))⟩⟩

theorem text_calm (N : Nat) {w w1 : World} {S : Hp} {t s : List UInt8} (h : Calm w S w1) (hy : field_Text N t = some s) :
    Calls Try.prog 34 #[.string ⟨⟨t⟩⟩] w1 fun r w' => r = .returned (.string ⟨⟨s⟩⟩) ∧ Calm w S w' := by
  obtain ⟨S1, hS, hk⟩ := calm_comp h
  exact (text_bytes N hS hy).mono (by rintro r w' ⟨rfl, hq⟩; exact ⟨rfl, hk _ hq⟩)

theorem putnum_calm (N : Nat) {w w1 : World} {S : Hp} {b c : Nat} {e n : Int} {a1 a2 : List UInt8} (h : Calm w S w1)
    (c0 : w.cell? ⟨c, 0, none⟩ = some (.pointer (some ⟨b, 3, none⟩))) (c1 : w.cell? ⟨c, 1, none⟩ = some (.pointer (some ⟨b, 2, none⟩)))
    (b2 : w.cell? ⟨b, 2, none⟩ = some (.int .i64 n)) (b3 : w.cell? ⟨b, 3, none⟩ = some (.int .i64 e))
    (he : 0 ≤ e) (he' : e ≤ 1099511627776) (h1 : field_Num N e = some a1) (hn : 0 ≤ n) (hn' : n ≤ 1099511627776) (h2 : field_Num N n = some a2)
    (l1 : a1.length ≤ 9223372036854775807) (l2 : a1.length + a2.length ≤ 9223372036854775807) :
    Calls Try.prog 46 #[.slice (some ⟨c, 0, none⟩) 2 2] w1 fun r w' => r = .returned (.string ⟨⟨a1 ++ a2⟩⟩) ∧ Calm w S w' := by
  obtain ⟨S1, hS, hk⟩ := calm_comp h
  exact (putnum_walk N hS (h.cell c0) (h.cell c1) (h.cell b2) (h.cell b3) he he' h1 hn hn' h2 l1 l2).mono (by rintro r w' ⟨rfl, hq⟩; exact ⟨rfl, hk _ hq⟩)

/-- what the fifth region stands on -/
theorem rput_mid {W w2 w3 : World} {S : Hp} {b E F : Nat} {k n e : Int} {t x : List UInt8} {p q : Value} (hk : 0 ≤ k) (hk' : k ≤ 255)
    (b1 : W.cell? ⟨b, 1, none⟩ = some (.string ⟨⟨t⟩⟩)) (b2 : W.cell? ⟨b, 2, none⟩ = some (.int .i64 n)) (b3 : W.cell? ⟨b, 3, none⟩ = some (.int .i64 e)) (b4 : W.cell? ⟨b, 4, none⟩ = some (.string ⟨⟨x⟩⟩))
    (h1 : Calm W S w2) (h2 : ∀ S, Lift.Sub S (hp w2) → Calm w2 S w3) :
    ∃ S4, Calm ((w3.alloc (.cells #[p, q] E)).alloc (.cells #[.int .u8 k] F)) S4 ((w3.alloc (.cells #[p, q] E)).alloc (.cells #[.int .u8 k] F)) ∧ (∀ w', Calm ((w3.alloc (.cells #[p, q] E)).alloc (.cells #[.int .u8 k] F)) S4 w' → Calm W S w') ∧
      ((w3.alloc (.cells #[p, q] E)).alloc (.cells #[.int .u8 k] F)).cell? ⟨b, 1, none⟩ = some (.string ⟨⟨t⟩⟩) ∧
      ((w3.alloc (.cells #[p, q] E)).alloc (.cells #[.int .u8 k] F)).cell? ⟨b, 2, none⟩ = some (.int .i64 n) ∧
      ((w3.alloc (.cells #[p, q] E)).alloc (.cells #[.int .u8 k] F)).cell? ⟨b, 3, none⟩ = some (.int .i64 e) ∧
      ((w3.alloc (.cells #[p, q] E)).alloc (.cells #[.int .u8 k] F)).cell? ⟨b, 4, none⟩ = some (.string ⟨⟨x⟩⟩) ∧
      ((w3.alloc (.cells #[p, q] E)).alloc (.cells #[.int .u8 k] F)).cell? ⟨w3.heap.size, 0, none⟩ = some p ∧
      ((w3.alloc (.cells #[p, q] E)).alloc (.cells #[.int .u8 k] F)).cell? ⟨w3.heap.size, 1, none⟩ = some q ∧
      (convert 51 9 (.slice (some ⟨w3.heap.size + 1, 0, none⟩) 1 1)).run Try.prog ((w3.alloc (.cells #[p, q] E)).alloc (.cells #[.int .u8 k] F)) = .ok (.string ⟨⟨[UInt8.ofNat k.toNat]⟩⟩) ((w3.alloc (.cells #[p, q] E)).alloc (.cells #[.int .u8 k] F)) := by
  have hA : Calm W S w3 := h1.next h2
  have hB : Calm W S (w3.alloc (.cells #[p, q] E)) := hA.next fun S1 h => calm_alloc h _ _
  have hC : Calm W S ((w3.alloc (.cells #[p, q] E)).alloc (.cells #[.int .u8 k] F)) := hB.next fun S1 h => calm_alloc h _ _
  have hD := calm_alloc (w := w3.alloc (.cells #[p, q] E)) (S := fun _ => none) (fun _ _ h => by cases h) #[.int .u8 k] F
  have z : (w3.alloc (.cells #[p, q] E)).heap.size = w3.heap.size + 1 := Array.size_push ..
  obtain ⟨S4, i1, i2⟩ := calm_comp hC
  refine ⟨S4, Calm.refl i1, i2, hC.cell b1, hC.cell b2, hC.cell b3, hC.cell b4, hD.cell (alloc_at rfl), hD.cell (alloc_at rfl), ?_⟩
  have := run_convert_bytes_back (P := Try.prog) ((w3.alloc (.cells #[p, q] E)).alloc (.cells #[.int .u8 k] F)) 51 9 5 ⟨w3.heap.size + 1, 0, none⟩ 1 [UInt8.ofNat k.toNat] Try.underlying51 Try.underlying5 Try.underlying9 (fun j hj => by
    have : j = 0 := by simp at hj; exact hj
    subst this
    have hr : (([UInt8.ofNat k.toNat][0]).toNat : Int) = k := by
      have hb : (UInt8.ofNat k.toNat).toNat = k.toNat % 256 := UInt8.toNat_ofNat ..
      show ((UInt8.ofNat k.toNat).toNat : Int) = k
      rw [hb]
      omega
    have := alloc_at (w := w3.alloc (.cells #[p, q] E)) (cs := #[.int .u8 k]) (E := F) (i := 0) rfl
    rw [z] at this
    rw [hr]
    exact this)
  exact this

attribute [local irreducible] Calm in
set_option maxHeartbeats 3200000 in
theorem rput_walk (N : Nat) {w : World} {S : Hp} {k n e : Int} {t x s1 s2 s3 s4 : List UInt8} (hS : Lift.Sub S (hp w)) (hf : ring_Form N (k, t, n, e, x, ()) = some true) (hk : 0 ≤ k) (hk' : k ≤ 255)
    (h1 : field_Text N t = some s1) (h4 : field_Text N x = some s4)
    (he : 0 ≤ e) (he' : e ≤ 1099511627776) (h2 : field_Num N e = some s2) (hn : 0 ≤ n) (hn' : n ≤ 1099511627776) (h3 : field_Num N n = some s3)
    (l1 : 1 + s1.length ≤ 9223372036854775807) (l2 : 1 + s1.length + (s2.length + s3.length) ≤ 9223372036854775807) (l3 : 1 + s1.length + (s2.length + s3.length) + s4.length ≤ 9223372036854775807) :
    Calls Try.prog 33 #[.agg #[.int .i64 k, .string ⟨⟨t⟩⟩, .int .i64 n, .int .i64 e, .string ⟨⟨x⟩⟩]] w (fun r w' => r = .returned (.tuple #[.string ⟨⟨[UInt8.ofNat k.toNat] ++ s1 ++ (s2 ++ s3) ++ s4⟩⟩, .int .i64 0]) ∧ Calm w S w') := by
  suffices HX : ∀ R : Ending → World → Prop, Go.RowKit.Hid (∀ w', Calm w S w' → R (.returned (.tuple #[.string ⟨⟨[UInt8.ofNat k.toNat] ++ s1 ++ (s2 ++ s3) ++ s4⟩⟩, .int .i64 0])) w') → Calls Try.prog 33 #[.agg #[.int .i64 k, .string ⟨⟨t⟩⟩, .int .i64 n, .int .i64 e, .string ⟨⟨x⟩⟩]] w R from HX _ (Go.Lib.hid (fun w' h => ⟨rfl, h⟩))
  intro R HR
  obtain ⟨W, hW⟩ : ∃ W, W = w.alloc (.cells #[.int .i64 k, .string ⟨⟨t⟩⟩, .int .i64 n, .int .i64 e, .string ⟨⟨x⟩⟩] 45) := ⟨_, rfl⟩
  have hc := calm_alloc hS #[.int .i64 k, .string ⟨⟨t⟩⟩, .int .i64 n, .int .i64 e, .string ⟨⟨x⟩⟩] 45
  have b0 : W.cell? ⟨w.heap.size, 0, none⟩ = some (.int .i64 k) := by rw [hW]; exact alloc_at rfl
  have b1 : W.cell? ⟨w.heap.size, 1, none⟩ = some (.string ⟨⟨t⟩⟩) := by rw [hW]; exact alloc_at rfl
  have b2 : W.cell? ⟨w.heap.size, 2, none⟩ = some (.int .i64 n) := by rw [hW]; exact alloc_at rfl
  have b3 : W.cell? ⟨w.heap.size, 3, none⟩ = some (.int .i64 e) := by rw [hW]; exact alloc_at rfl
  have b4 : W.cell? ⟨w.heap.size, 4, none⟩ = some (.string ⟨⟨x⟩⟩) := by rw [hW]; exact alloc_at rfl
  rw [← hW] at hc
  obtain ⟨S1, g3, hcc0⟩ := calm_comp hc
  have hcc := Go.Lib.hid hcc0
  clear hcc0 hc
  have HF := form_bool N g3 hf
  have HZ := Go.Lib.hid (fun w2 w3 : World => rput_mid (W := W) (w2 := w2) (w3 := w3) (S := S1) (E := 66) (F := 5) (p := .pointer (some ⟨w.heap.size, 3, none⟩)) (q := .pointer (some ⟨w.heap.size, 2, none⟩)) hk hk' b1 b2 b3 b4)
  have HL := Go.Lib.hid (And.intro h1 (And.intro h2 (And.intro h3 (And.intro h4 (And.intro l1 (And.intro l2 l3))))))
  have HE := Go.Lib.hid (And.intro he (And.intro he' (And.intro hn hn')))
  clear h1 h2 h3 h4 l1 l2 l3 he he' hn hn' b1 b2 b3 b4
  subst hW
  have HNo := fun w2 : World => numbersOf_walk (w := w2) (b := w.heap.size)
  go_enter Try.func33, Try.ntmps33
  go_wp2_with (first
    | (go_at_call 44; refine HF.mono ?_; rintro r w2 ⟨rfl, hq⟩; have hn2 := HNo w2; have k0 := hq.cell b0; have HM2 := Go.Lib.hid hq; clear HF hq HNo)
    | (go_at_call 45; refine hn2.mono ?_; rintro r w3 ⟨rfl, hq3⟩; have j0 := (hq3 _ (show Lift.Sub (fun _ => none) (hp w2) from fun _ _ h => by cases h)).cell k0; have j1 := (calm_alloc (w := w3) (S := fun _ => none) (fun _ _ h => by cases h) #[.pointer (some ⟨w.heap.size, 3, none⟩), .pointer (some ⟨w.heap.size, 2, none⟩)] 66).cell j0; obtain ⟨S4, y0, y1, y2, y3, y4, y5, y6, y7, y8⟩ := HZ.out w2 w3 HM2.out hq3; clear hn2 hq3 k0))
  obtain ⟨W4, hW4⟩ : ∃ W4, W4 = ((w3.alloc (.cells #[.pointer (some ⟨w.heap.size, 3, none⟩), .pointer (some ⟨w.heap.size, 2, none⟩)] 66)).alloc (.cells #[.int .u8 k] 5)) := ⟨_, rfl⟩
  rw [← hW4] at y0 y1 y2 y3 y4 y5 y6 y7 ⊢
  clear y8 hW4 j1 j0 HZ
  have HT1 : ∀ w1, Calm W4 S4 w1 → _ := fun w1 h => text_calm N h HL.out.1
  have HT4 : ∀ w1, Calm W4 S4 w1 → _ := fun w1 h => text_calm N h HL.out.2.2.2.1
  have HP : ∀ w1, Calm W4 S4 w1 → _ := fun w1 h => putnum_calm N h y6 y7 y3 y4 HE.out.1 HE.out.2.1 HL.out.2.1 HE.out.2.2.1 HE.out.2.2.2 HL.out.2.2.1 (by have := HL.out; omega) (by have := HL.out; omega)
  have z1 : ∀ w1, Calm W4 S4 w1 → w1.cell? ⟨w.heap.size, 1, none⟩ = some (.string ⟨⟨t⟩⟩) := fun w1 h => h.cell y2
  have z4 : ∀ w1, Calm W4 S4 w1 → w1.cell? ⟨w.heap.size, 4, none⟩ = some (.string ⟨⟨x⟩⟩) := fun w1 h => h.cell y5
  have Y1 := Go.Lib.hid y1
  clear y1 y2 y3 y4 y5 y6 y7
  have q1 : ¬ 9223372036854775807 < 1 + s1.length := by have := HL.out; omega
  have q2 : ¬ 9223372036854775807 < 1 + s1.length + (s2.length + s3.length) := by have := HL.out.2.2.2.2.2.1; omega
  have q3 : ¬ 9223372036854775807 < 1 + s1.length + (s2.length + s3.length) + s4.length := by have := HL.out.2.2.2.2.2.2; omega
  have q4 : (9223372036854775807 < 1 + s1.length) = False := eq_false (by omega)
  have q5 : (9223372036854775807 < 1 + s1.length + (s2.length + s3.length)) = False := eq_false (by omega)
  have q6 : (9223372036854775807 < 1 + s1.length + (s2.length + s3.length) + s4.length) = False := eq_false (by omega)
  go_region_held3 (fun w' => Calm W4 S4 w' ∧ w'.cell? ⟨w.heap.size, 1, none⟩ = some (.string ⟨⟨t⟩⟩) ∧ w'.cell? ⟨w.heap.size, 4, none⟩ = some (.string ⟨⟨x⟩⟩))
    (first | exact ⟨y0, z1 _ y0, z4 _ y0⟩ | exact ⟨y0.drew, z1 _ y0.drew, z4 _ y0.drew⟩ | (rename_i hs; exact ⟨hs.1.drew, z1 _ hs.1.drew, z4 _ hs.1.drew⟩) | (exact ⟨by assumption, z1 _ (by assumption), z4 _ (by assumption)⟩))
    (first
      | (go_at_call_of 34 (Value.string ⟨⟨t⟩⟩); refine (HT1 _ (by first | exact y0.drew | assumption)).mono ?_; rintro r w' ⟨rfl, hq⟩)
      | (go_at_call_of 34 (Value.string ⟨⟨x⟩⟩); refine (HT4 _ (by first | exact y0.drew | assumption)).mono ?_; rintro r w' ⟨rfl, hq⟩)
      | (go_at_call 46; refine (HP _ (by first | exact y0.drew | assumption)).mono ?_; rintro r w' ⟨rfl, hq⟩))
  all_goals go_wp2
  all_goals (simp only [bytes_add]; exact HR.out _ (hcc.out _ (Y1.out _ (by assumption))))

theorem rput_bad (N : Nat) {w : World} {S : Hp} {k n e : Int} {t x : List UInt8} (hS : Lift.Sub S (hp w)) (hf : ring_Form N (k, t, n, e, x, ()) = some false) :
    Calls Try.prog 33 #[.agg #[.int .i64 k, .string ⟨⟨t⟩⟩, .int .i64 n, .int .i64 e, .string ⟨⟨x⟩⟩]] w (fun r w' => r = .returned (.tuple #[.string ⟨⟨[]⟩⟩, .int .i64 2]) ∧ Calm w S w') := by
  suffices HX : ∀ R : Ending → World → Prop, Go.RowKit.Hid (∀ w', Calm w S w' → R (.returned (.tuple #[.string ⟨⟨[]⟩⟩, .int .i64 2])) w') → Calls Try.prog 33 #[.agg #[.int .i64 k, .string ⟨⟨t⟩⟩, .int .i64 n, .int .i64 e, .string ⟨⟨x⟩⟩]] w R from HX _ (Go.Lib.hid (fun w' h => ⟨rfl, h⟩))
  intro R HR
  obtain ⟨W, hW⟩ : ∃ W, W = w.alloc (.cells #[.int .i64 k, .string ⟨⟨t⟩⟩, .int .i64 n, .int .i64 e, .string ⟨⟨x⟩⟩] 45) := ⟨_, rfl⟩
  have hc := calm_alloc hS #[.int .i64 k, .string ⟨⟨t⟩⟩, .int .i64 n, .int .i64 e, .string ⟨⟨x⟩⟩] 45
  have b0 : W.cell? ⟨w.heap.size, 0, none⟩ = some (.int .i64 k) := by rw [hW]; exact alloc_at rfl
  have b1 : W.cell? ⟨w.heap.size, 1, none⟩ = some (.string ⟨⟨t⟩⟩) := by rw [hW]; exact alloc_at rfl
  have b2 : W.cell? ⟨w.heap.size, 2, none⟩ = some (.int .i64 n) := by rw [hW]; exact alloc_at rfl
  have b3 : W.cell? ⟨w.heap.size, 3, none⟩ = some (.int .i64 e) := by rw [hW]; exact alloc_at rfl
  have b4 : W.cell? ⟨w.heap.size, 4, none⟩ = some (.string ⟨⟨x⟩⟩) := by rw [hW]; exact alloc_at rfl
  rw [← hW] at hc
  obtain ⟨S1, g3, hcc0⟩ := calm_comp hc
  have hcc := Go.Lib.hid hcc0
  clear hcc0 hc
  have HF := form_bool N g3 hf
  subst hW
  go_enter Try.func33, Try.ntmps33
  go_wp2_with (go_at_call 44; refine HF.mono ?_; rintro r w2 ⟨rfl, hq⟩; have HM2 := Go.Lib.hid hq; clear HF hq)
  exact HR.out _ (hcc.out _ HM2.out)

abbrev EvT : T := .pair (.int .i64) (.pair .str (.pair (.int .i64) (.pair (.int .i64) (.pair .str .unit))))

theorem ev_inv {S : Hp} {t x : List UInt8} {k e n : Int} {v : Value} (h : VR S EvT (k, t, n, e, x, ()) v) : v = .agg #[.int .i64 k, .string ⟨⟨t⟩⟩, .int .i64 n, .int .i64 e, .string ⟨⟨x⟩⟩] := by
  have h' : ∃ cs, v = .agg cs ∧ Rd S EvT (k, t, n, e, x, ()) cs.toList := h
  obtain ⟨cs, rfl, c1, c2, hc, k1, c3, c4, hc', k2, c5, c6, hc'', k3, c7, c8, hc3, k4, c9, c10, hc4, k5, k6⟩ := h'
  have e1 : c1 = [.int .i64 k] := k1
  have e2 : c3 = [.string ⟨⟨t⟩⟩] := k2
  have e3 : c5 = [.int .i64 n] := k3
  have e4 : c7 = [.int .i64 e] := k4
  have e5 : c9 = [.string ⟨⟨x⟩⟩] := k5
  have e6 : c10 = [] := k6
  congr 1
  apply Array.toList_inj.1
  rw [hc, hc', hc'', hc3, hc4, e1, e2, e3, e4, e5, e6]
  rfl

noncomputable def record_Put (N : Nat) (v : EvT.den) : Option (List UInt8 × Int × Unit) :=
  (ring_Form N v).bind fun ok =>
  cond (!ok) (some ([], (2, ())))
  ((field_Text N v.2.1).bind fun s1 =>
    (field_Num N v.2.2.2.1).bind fun s2 =>
    (field_Num N v.2.2.1).bind fun s3 =>
    (field_Text N v.2.2.2.2.1).bind fun s4 =>
    cond (decide ((0 ≤ v.1 ∧ v.1 ≤ 255) ∧ (0 ≤ v.2.2.2.1 ∧ v.2.2.2.1 ≤ 1099511627776) ∧ (0 ≤ v.2.2.1 ∧ v.2.2.1 ≤ 1099511627776) ∧
        1 + s1.length + (s2.length + s3.length) + s4.length ≤ 9223372036854775807))
      (some ([UInt8.ofNat v.1.toNat] ++ s1 ++ (s2 ++ s3) ++ s4, (0, ()))) none)

theorem rput_call (N : Nat) {w : World} {S : Hp} {t x y : List UInt8} {k e n f : Int} (hS : Lift.Sub S (hp w)) (hy : record_Put N (k, t, n, e, x, ()) = some (y, (f, ()))) :
    Calls Try.prog 33 #[.agg #[.int .i64 k, .string ⟨⟨t⟩⟩, .int .i64 n, .int .i64 e, .string ⟨⟨x⟩⟩]] w fun r w' => r = .returned (.tuple #[.string ⟨⟨y⟩⟩, .int .i64 f]) ∧ Calm w S w' := by
  unfold record_Put at hy
  dsimp only at hy
  cases hw : ring_Form N (k, t, n, e, x, ()) with
  | none => rw [hw] at hy; cases hy
  | some ok =>
  rw [hw, Option.bind_some] at hy
  cases ok with
  | false =>
    cases hy
    exact rput_bad N hS hw
  | true =>
    rw [Bool.not_true, cond_false] at hy
    cases h1 : field_Text N t with
    | none => rw [h1] at hy; cases hy
    | some s1 =>
    rw [h1, Option.bind_some] at hy
    cases h2 : field_Num N e with
    | none => rw [h2] at hy; cases hy
    | some s2 =>
    rw [h2, Option.bind_some] at hy
    cases h3 : field_Num N n with
    | none => rw [h3] at hy; cases hy
    | some s3 =>
    rw [h3, Option.bind_some] at hy
    cases h4 : field_Text N x with
    | none => rw [h4] at hy; cases hy
    | some s4 =>
    rw [h4, Option.bind_some] at hy
    by_cases hl : (0 ≤ k ∧ k ≤ 255) ∧ (0 ≤ e ∧ e ≤ 1099511627776) ∧ (0 ≤ n ∧ n ≤ 1099511627776) ∧ 1 + s1.length + (s2.length + s3.length) + s4.length ≤ 9223372036854775807
    · rw [decide_eq_true hl] at hy
      cases hy
      obtain ⟨⟨a1, a2⟩, ⟨a3, a4⟩, ⟨a5, a6⟩, a7⟩ := hl
      exact rput_walk N hS hw a1 a2 h1 h4 a3 a4 h2 a5 a6 h3 (by omega) (by omega) a7
    · rw [decide_eq_false hl] at hy
      cases hy

noncomputable def record_Put_res (N : Nat) : List A → Res := resOf [(0, .v (.pair (.int .i64) (.pair .str (.pair (.int .i64) (.pair (.int .i64) (.pair .str .unit))))))] (fun x => record_Put N x.1) (oRes (.tup [.str, (.int .i64)]) 1)

theorem record_Put_ct (N : Nat) : Contract Try.prog noGlob 33 (record_Put_res N) := by
  refine Contract.hand ⟨_, Try.func33, by kernel_rfl, by decide⟩ ?_
  intro w S vals ob x y har hS hg hy
  obtain ⟨⟨k, t, n, e, x, u⟩, u'⟩ := x
  cases u
  cases u'
  obtain ⟨s, f, u⟩ := y
  cases u
  obtain ⟨⟨v0, hv0, hA0, ho0⟩, _⟩ := har.rel 0 _ rfl
  have hvals : vals = [v0] := by
    match vals, har.len with
    | [a], _ => cases hv0; rfl
  have e0 := ev_inv hA0
  subst e0
  subst hvals
  refine (rput_call N hS hy).mono ?_
  rintro r w' ⟨rfl, hC⟩
  exact ends_of_calm (fun y hy => by rw [List.mem_singleton.1 hy]; rfl) (fun i => by
    match i with
    | 0 => exact ho0
    | i + 1 => exact har.out _ (by simp [mkS, deads])) hC (fun S' => ⟨rfl, _, rfl, .cons VR.str (.cons VR.int .nil)⟩) rfl

noncomputable def record_Batch_body : Code := (Go.Proofs.Try.f21.body).getD .skip

noncomputable def record_Batch_L : List (List Nat × List Nat) := [([0], [0]), ([0, 0, 1], [11, 0]), ([1, 0, 1], [0]), ([0, 0, 1, 0, 1], [2, 3]), ([1, 0, 1, 0, 1], [2, 3]), ([0, 1, 1], [0, 4]), ([0, 1, 1, 1], [0, 4]), ([0, 0, 1, 1, 1, 1], [19, 18, 17, 4]), ([0, 1, 0, 1, 1, 1, 1], [19, 18, 17, 4]), ([0, 0, 0, 1, 0, 1, 1, 1, 1], [20, 17, 19, 4, 18]), ([0, 1, 0, 0, 1, 0, 1, 1, 1, 1], [17, 19, 4, 18]), ([1, 0, 1, 0, 0, 1, 0, 1, 1, 1, 1], [4]), ([0, 0, 0, 1, 1, 0, 0, 1, 0, 1, 1, 1, 1], [6, 4, 19, 18, 17]), ([0, 1, 0, 0, 1, 1, 0, 0, 1, 0, 1, 1, 1, 1], [8, 7, 4, 19, 18, 17]), ([0, 0, 1, 1, 0, 0, 1, 1, 0, 0, 1, 0, 1, 1, 1, 1], [29, 8, 7, 4, 19, 18, 17]), ([1, 0, 1, 1, 0, 0, 1, 1, 0, 0, 1, 0, 1, 1, 1, 1], [7, 4, 19, 18, 17]), ([0, 0, 1, 0, 1, 1, 0, 0, 1, 1, 0, 0, 1, 0, 1, 1, 1, 1], [2, 3]), ([1, 0, 1, 0, 1, 1, 0, 0, 1, 1, 0, 0, 1, 0, 1, 1, 1, 1], [2, 3]), ([1, 1, 1, 0, 0, 1, 1, 0, 0, 1, 0, 1, 1, 1, 1], [19, 18, 17, 4]), ([0, 1, 1, 0, 0, 1, 0, 1, 1, 1, 1], [19, 18, 17, 4]), ([1, 1, 1, 0, 0, 1, 0, 1, 1, 1, 1], [19, 18, 17, 4]), ([1, 0, 1, 1, 1, 1], [4]), ([0, 1, 1, 1, 1, 1], [2, 3]), ([1, 1, 1, 1, 1, 1], [2, 3])]

noncomputable def record_Batch_E (N : Nat) : Env := mkEnv tys noGlob [(33, record_Put_res N), (34, field_Text_res N), (31, strings_Builder_WriteString_res N), (32, field_Num_res N), (35, str_res)] [] [] [] false [(4, (.pair (.self 53) (.pair (.own (.byt 5)) .unit)))] []

theorem record_Batch_Eok (N : Nat) : EnvOk Go.Proofs.Try.prog (record_Batch_E N) := mkEnv_ok mixed tys_ok (FnsOk.cons (record_Put_ct N) (FnsOk.cons (field_Text_ct N) (FnsOk.cons (strings_Builder_WriteString_ct N) (FnsOk.cons (field_Num_ct N) (FnsOk.cons (str_ct noGlob) (FnsOk.nil)))))) (ItsOk.nil)

noncomputable def record_Batch_s1 (N : Nat) (x17 : (List (Int × ((List UInt8) × (Int × (Int × ((List UInt8) × Unit))))))) (x18 : Int) (out : (Unit × ((List Int) × Unit))) (x19 : Int) (rec : (Unit × ((List Int) × Unit)) → Int → Option ((List UInt8) × Int × Unit)) (k0 : (List UInt8) → Int → Option ((List UInt8) × Int × Unit)) (k1 : (Unit × ((List Int) × Unit)) → Option ((List UInt8) × Int × Unit)) : Option ((List UInt8) × Int × Unit) :=
  cond (decide (x19 < x18))
  (cond (Go.Lift.inR x19 (List.length x17))
    ((record_Put N (List.getD x17 (Int.toNat x19) ((0 : Int), (([] : List UInt8), ((0 : Int), ((0 : Int), (([] : List UInt8), ()))))))).bind fun y =>
      cond (y.2.1 != (0 : Int))
      (k0 ([] : List UInt8) y.2.1)
      ((field_Text N y.1).bind fun y1 =>
        (strings_Builder_WriteString N out y1).bind fun y2 =>
        rec y2.2.1 (Go.IntKind.wrap Go.IntKind.i64 (x19 + (1 : Int)))))
    (none))
  (k1 out)

noncomputable def record_Batch_p1 (N : Nat) (out : (Unit × ((List Int) × Unit))) (x17 : (List (Int × ((List UInt8) × (Int × (Int × ((List UInt8) × Unit))))))) (x18 : Int) (x19 : Int) (k0 : (List UInt8) → Int → Option ((List UInt8) × Int × Unit)) (k1 : (Unit × ((List Int) × Unit)) → Option ((List UInt8) × Int × Unit)) : Option ((List UInt8) × Int × Unit) :=
  iter (fun (v : ((Unit × ((List Int) × Unit)) × Int)) r => record_Batch_s1 N x17 x18 v.1 v.2 (fun out x19 => (r (out, x19))) k0 k1) N (out, x19)

noncomputable def record_Batch_g1 (N : Nat) (i : ((List (Int × ((List UInt8) × (Int × (Int × ((List UInt8) × Unit)))))) × Int)) (v : ((Unit × ((List Int) × Unit)) × Int)) (r : ((Unit × ((List Int) × Unit)) × Int) → Option ((List UInt8) × Int × Unit)) (K : Ex → List A → Option ((List UInt8) × Int × Unit)) : Option ((List UInt8) × Int × Unit) :=
  record_Batch_s1 N i.1 i.2 v.1 v.2 (fun out x19 => (r (out, x19))) (fun a0 a1 => (K .ret (mkS [(2, .v .str), (0, .v (.int .i64))] 32 (a0, a1, ())))) (fun a0 => (K (.exit 0) (mkS [(4, .box (.pair (.self 53) (.pair (.own (.byt 5)) .unit)))] 31 (a0, ()))))

noncomputable def record_Batch_h1 (N : Nat) : Hd ((List UInt8) × Int × Unit) := fun st K => (unS [(4, .box (.pair (.self 53) (.pair (.own (.byt 5)) .unit))), (12, .v (.sl (.pair (.int .i64) (.pair .str (.pair (.int .i64) (.pair (.int .i64) (.pair .str .unit))))))), (0, .v (.int .i64)), (0, .v (.int .i64))] 16 (restr [19, 18, 17, 4] 0 st)).bind fun x => iter (fun v r => record_Batch_g1 N ((fun x => (x.2.1, x.2.2.1)) x) v r K) N ((fun x => (x.1, x.2.2.2.1)) x)

noncomputable def record_Batch_t1 (N : Nat) : Tab ((List UInt8) × Int × Unit) := []

theorem record_Batch_ok1 {N : Nat} {c : Ctx} (hb : Base Go.Proofs.Try.prog (record_Batch_E N) c) : CodeOk Go.Proofs.Try.prog c (nodeAt record_Batch_body [0, 1, 0, 1, 1, 1, 1]) (record_Batch_h1 N) :=
  loop_ok (s := [(4, .box (.pair (.self 53) (.pair (.own (.byt 5)) .unit))), (12, .v (.sl (.pair (.int .i64) (.pair .str (.pair (.int .i64) (.pair (.int .i64) (.pair .str .unit))))))), (0, .v (.int .i64)), (0, .v (.int .i64))]) (m := 16) (record_Batch_g1 N) [19, 18, 17, 4] N (fun x => (x.2.1, x.2.2.1)) (fun x => (x.1, x.2.2.2.1)) (fun i v => (v.1, i.1, i.2, v.2, ())) (fun _ => rfl) (evN_sound hb N (record_Batch_t1 N) record_Batch_L record_Batch_body TabOk.nil [0, 0, 1, 0, 1, 1, 1, 1] _ rfl) (fun i v r K => by kernel_rfl)

noncomputable def record_Batch (N : Nat) (l : (List (Int × ((List UInt8) × (Int × (Int × ((List UInt8) × Unit))))))) : Option ((List UInt8) × Int × Unit) :=
  cond (decide ((256 : Int) < (((List.length l) : Nat) : Int)))
  (some (([] : List UInt8), ((3 : Int), ())))
  ((field_Num N (Go.IntKind.wrap Go.IntKind.u64 (((List.length l) : Nat) : Int))).bind fun y =>
    (strings_Builder_WriteString N ((), (([] : List Int), ())) y).bind fun y1 =>
    record_Batch_p1 N y1.2.1 l (((List.length l) : Nat) : Int) (0 : Int)
    (fun x2 x3 => some (x2, (x3, ())))
    (fun out => (str_F (out, ())).bind fun y2 =>
      some (y2.1, ((0 : Int), ()))))

noncomputable def record_Batch_t (N : Nat) : Tab ((List UInt8) × Int × Unit) := [([0, 1, 0, 1, 1, 1, 1], record_Batch_h1 N)]

theorem record_Batch_link (N : Nat) (x : denS [(0, .v (.sl (.pair (.int .i64) (.pair .str (.pair (.int .i64) (.pair (.int .i64) (.pair .str .unit)))))))]) : evFX (record_Batch_E N) N (record_Batch_t N) record_Batch_L Go.Proofs.Try.f21 (mkS [(0, .v (.sl (.pair (.int .i64) (.pair .str (.pair (.int .i64) (.pair (.int .i64) (.pair .str .unit)))))))] 0 x) (kRes (.tup [.str, (.int .i64)]) 1) = record_Batch N x.1 := by kernel_rfl

noncomputable def record_Batch_res (N : Nat) : List A → Res := resOf [(0, .v (.sl (.pair (.int .i64) (.pair .str (.pair (.int .i64) (.pair (.int .i64) (.pair .str .unit)))))))] (fun x => record_Batch N x.1) (oRes (.tup [.str, (.int .i64)]) 1)

theorem record_Batch_ct (N : Nat) : Contract Go.Proofs.Try.prog noGlob 21 (record_Batch_res N) :=
  Contract.of (E := record_Batch_E N) (H := record_Batch_t N) (L := record_Batch_L) (N := N) (body := record_Batch_body) (K := (kRes (.tup [.str, (.int .i64)]) 1)) (record_Batch_Eok N) Go.Proofs.Try.func21 (by kernel_rfl) (by decide) (fun _ hb => (TabOk.cons (record_Batch_ok1 hb) TabOk.nil)) (fun x y h => by rw [record_Batch_link]; exact h) (kRes_ok (s := (.tup [.str, (.int .i64)])) (m := 1))

noncomputable def entry_Blocks_body : Code := (Go.Proofs.Try.f22.body).getD .skip

noncomputable def entry_Blocks_L : List (List Nat × List Nat) := [([0], [0]), ([0, 0, 1], [9, 0]), ([1, 0, 1], [0]), ([0, 0, 1, 0, 1], [2]), ([1, 0, 1, 0, 1], [2]), ([0, 1, 1], [3]), ([0, 1, 1, 1], [2]), ([1, 1, 1, 1], [2])]

noncomputable def entry_Blocks_E (N : Nat) : Env := mkEnv tys noGlob [] [] [] [] false [] []

theorem entry_Blocks_Eok (N : Nat) : EnvOk Go.Proofs.Try.prog (entry_Blocks_E N) := mkEnv_ok mixed tys_ok (FnsOk.nil) (ItsOk.nil)

noncomputable def entry_Blocks_p2 (N : Nat) (n : Int) (k0 : Bool → Option Int) : Option Int :=
  cond (decide (n < (0 : Int)))
  (k0 true)
  (k0 (decide ((65536 : Int) < n)))

noncomputable def entry_Blocks_g2 (N : Nat) (x : denS [(0, .v (.int .i64))]) (K : Ex → List A → Option Int) : Option Int :=
  entry_Blocks_p2 N x.1 (fun a1 => (K .normal (mkS [(0, .v (.int .i64)), (8, .v .bool)] 8 (x.1, a1, ()))))

noncomputable def entry_Blocks_h2 (N : Nat) : Hd Int := fun st K => (unS [(0, .v (.int .i64))] 17 (restr [0] 0 st)).bind fun x => entry_Blocks_g2 N x K

noncomputable def entry_Blocks_t2 (N : Nat) : Tab Int := []

theorem entry_Blocks_ok2 {N : Nat} {c : Ctx} (hb : Base Go.Proofs.Try.prog (entry_Blocks_E N) c) : CodeOk Go.Proofs.Try.prog c (nodeAt entry_Blocks_body [0, 0, 1]) (entry_Blocks_h2 N) :=
  piece_ok (s := [(0, .v (.int .i64))]) (m := 17) (g := entry_Blocks_g2 N) [0] (evN_sound hb N (entry_Blocks_t2 N) entry_Blocks_L entry_Blocks_body TabOk.nil [0, 0, 1] _ rfl) (fun x K => by kernel_rfl)

noncomputable def entry_Blocks_p1 (N : Nat) (n : Int) (k0 : Int → Option Int) (k1 : Option Int) : Option Int :=
  entry_Blocks_p2 N n
  (fun x9 => cond x9
    (k0 (0 : Int))
    (k1))

noncomputable def entry_Blocks_g1 (N : Nat) (x : denS [(0, .v (.int .i64))]) (K : Ex → List A → Option Int) : Option Int :=
  entry_Blocks_p1 N x.1 (fun a0 => (K .ret (mkS [(2, .v (.int .i64))] 15 (a0, ())))) (K .normal (mkS [(0, .v (.int .i64))] 17 (x.1, ())))

noncomputable def entry_Blocks_h1 (N : Nat) : Hd Int := fun st K => (unS [(0, .v (.int .i64))] 17 (restr [0] 0 st)).bind fun x => entry_Blocks_g1 N x K

noncomputable def entry_Blocks_t1 (N : Nat) : Tab Int := [([0, 0, 1], entry_Blocks_h2 N)]

theorem entry_Blocks_ok1 {N : Nat} {c : Ctx} (hb : Base Go.Proofs.Try.prog (entry_Blocks_E N) c) : CodeOk Go.Proofs.Try.prog c (nodeAt entry_Blocks_body [0, 1]) (entry_Blocks_h1 N) :=
  piece_ok (s := [(0, .v (.int .i64))]) (m := 17) (g := entry_Blocks_g1 N) [0] (evN_sound hb N (entry_Blocks_t1 N) entry_Blocks_L entry_Blocks_body (TabOk.cons (entry_Blocks_ok2 hb) TabOk.nil) [0, 1] _ rfl) (fun x K => by kernel_rfl)

noncomputable def entry_Blocks (N : Nat) (n : Int) : Option Int :=
  entry_Blocks_p1 N n
  (fun x2 => some x2)
  (some (Go.IntKind.wrap Go.IntKind.i64 ((1 : Int) + (Go.IntKind.wrap Go.IntKind.i64 (Int.tdiv (Go.IntKind.wrap Go.IntKind.i64 ((Go.IntKind.wrap Go.IntKind.i64 ((if ((0 : Int) > (Go.IntKind.wrap Go.IntKind.i64 (n - (102 : Int)))) then (0 : Int) else (Go.IntKind.wrap Go.IntKind.i64 (n - (102 : Int)))) + (110 : Int))) - (1 : Int))) (110 : Int))))))

noncomputable def entry_Blocks_t (N : Nat) : Tab Int := [([0, 1], entry_Blocks_h1 N)]

theorem entry_Blocks_link (N : Nat) (x : denS [(0, .v (.int .i64))]) : evFX (entry_Blocks_E N) N (entry_Blocks_t N) entry_Blocks_L Go.Proofs.Try.f22 (mkS [(0, .v (.int .i64))] 0 x) (kRes (.v (.int .i64)) 1) = entry_Blocks N x.1 := by kernel_rfl

noncomputable def entry_Blocks_res (N : Nat) : List A → Res := resOf [(0, .v (.int .i64))] (fun x => entry_Blocks N x.1) (oRes (.v (.int .i64)) 1)

theorem entry_Blocks_ct (N : Nat) : Contract Go.Proofs.Try.prog noGlob 22 (entry_Blocks_res N) :=
  Contract.of (E := entry_Blocks_E N) (H := entry_Blocks_t N) (L := entry_Blocks_L) (N := N) (body := entry_Blocks_body) (K := (kRes (.v (.int .i64)) 1)) (entry_Blocks_Eok N) Go.Proofs.Try.func22 (by kernel_rfl) (by decide) (fun _ hb => (TabOk.cons (entry_Blocks_ok1 hb) TabOk.nil)) (fun x y h => by rw [entry_Blocks_link]; exact h) (kRes_ok (s := (.v (.int .i64))) (m := 1))

noncomputable def bound_Image_body : Code := (Go.Proofs.Try.f13.body).getD .skip

noncomputable def bound_Image_L : List (List Nat × List Nat) := [([0], [1]), ([0, 1], [3]), ([0, 0, 1, 1], [10, 3]), ([1, 0, 1, 1], [3]), ([0, 0, 1, 0, 1, 1], [2]), ([1, 0, 1, 0, 1, 1], [2]), ([0, 1, 1, 1], [5, 4]), ([0, 0, 1, 1, 1, 1], [17, 4]), ([1, 0, 1, 1, 1, 1], [4]), ([0, 0, 1, 0, 1, 1, 1, 1], [2]), ([1, 0, 1, 0, 1, 1, 1, 1], [2]), ([0, 1, 1, 1, 1, 1], [2]), ([1, 1, 1, 1, 1, 1], [2])]

noncomputable def bound_Image_E (N : Nat) : Env := mkEnv tys noGlob [(22, entry_Blocks_res N), (21, record_Batch_res N), (20, plan_Image_res N)] [] [] [] false [] []

theorem bound_Image_Eok (N : Nat) : EnvOk Go.Proofs.Try.prog (bound_Image_E N) := mkEnv_ok mixed tys_ok (FnsOk.cons (entry_Blocks_ct N) (FnsOk.cons (record_Batch_ct N) (FnsOk.cons (plan_Image_ct N) (FnsOk.nil)))) (ItsOk.nil)

noncomputable def bound_Image (N : Nat) (s : ((List ((List UInt8) × (Int × (Int × ((List (Int × ((List UInt8) × Unit))) × Unit))))) × (Int × Unit))) : Option Int :=
  (plan_Image N s).bind fun y =>
  cond ((((List.length y) : Nat) : Int) == (0 : Int))
  (some (0 : Int))
  ((record_Batch N y).bind fun y1 =>
    cond (y1.2.1 != (0 : Int))
    (some (0 : Int))
    ((entry_Blocks N (((List.length y1.1) : Nat) : Int)).bind fun y2 =>
      some y2))

noncomputable def bound_Image_t (N : Nat) : Tab Int := []

theorem bound_Image_link (N : Nat) (x : denS [(0, .v (.pair (.sl (.pair .str (.pair (.int .i64) (.pair (.int .i64) (.pair (.sl (.pair (.int .i64) (.pair .str .unit))) .unit))))) (.pair (.int .i64) .unit)))]) : evFX (bound_Image_E N) N (bound_Image_t N) bound_Image_L Go.Proofs.Try.f13 (mkS [(0, .v (.pair (.sl (.pair .str (.pair (.int .i64) (.pair (.int .i64) (.pair (.sl (.pair (.int .i64) (.pair .str .unit))) .unit))))) (.pair (.int .i64) .unit)))] 0 x) (kRes (.v (.int .i64)) 1) = bound_Image N x.1 := by kernel_rfl

noncomputable def bound_Image_res (N : Nat) : List A → Res := resOf [(0, .v (.pair (.sl (.pair .str (.pair (.int .i64) (.pair (.int .i64) (.pair (.sl (.pair (.int .i64) (.pair .str .unit))) .unit))))) (.pair (.int .i64) .unit)))] (fun x => bound_Image N x.1) (oRes (.v (.int .i64)) 1)

theorem bound_Image_ct (N : Nat) : Contract Go.Proofs.Try.prog noGlob 13 (bound_Image_res N) :=
  Contract.of (E := bound_Image_E N) (H := bound_Image_t N) (L := bound_Image_L) (N := N) (body := bound_Image_body) (K := (kRes (.v (.int .i64)) 1)) (bound_Image_Eok N) Go.Proofs.Try.func13 (by kernel_rfl) (by decide) (fun _ hb => TabOk.nil) (fun x y h => by rw [bound_Image_link]; exact h) (kRes_ok (s := (.v (.int .i64))) (m := 1))

noncomputable def porterlaw48_works_body : Code := (Go.Proofs.Try.f5.body).getD .skip

noncomputable def porterlaw48_works_L : List (List Nat × List Nat) := [([0], []), ([0, 1], [0]), ([1, 1], [0])]

noncomputable def porterlaw48_works_E (N : Nat) : Env := mkEnv tys noGlob [(13, bound_Image_res N), (11, bound_Window_res N), (7, bound_Automata_res N), (6, bound_Tags_res N)] [] [] [] false [] []

theorem porterlaw48_works_Eok (N : Nat) : EnvOk Go.Proofs.Try.prog (porterlaw48_works_E N) := mkEnv_ok mixed tys_ok (FnsOk.cons (bound_Image_ct N) (FnsOk.cons (bound_Window_ct N) (FnsOk.cons (bound_Automata_ct N) (FnsOk.cons (bound_Tags_ct N) (FnsOk.nil))))) (ItsOk.nil)

noncomputable def porterlaw48_works (N : Nat) : Option Bool :=
  (bound_Image N (([] : List ((List UInt8) × (Int × (Int × ((List (Int × ((List UInt8) × Unit))) × Unit))))), ((0 : Int), ()))).bind fun y =>
  cond (y == (1 : Int))
  (some true)
  (some false)

noncomputable def porterlaw48_works_t (N : Nat) : Tab Bool := []

theorem porterlaw48_works_link (N : Nat) (x : denS []) : evFX (porterlaw48_works_E N) N (porterlaw48_works_t N) porterlaw48_works_L Go.Proofs.Try.f5 (mkS [] 0 x) (kRes (.v .bool) 0) = porterlaw48_works N := by kernel_rfl

noncomputable def porterlaw48_works_res (N : Nat) : List A → Res := resOf [] (fun x => porterlaw48_works N) (oRes (.v .bool) 0)

theorem porterlaw48_works_ct (N : Nat) : Contract Go.Proofs.Try.prog noGlob 5 (porterlaw48_works_res N) :=
  Contract.of (E := porterlaw48_works_E N) (H := porterlaw48_works_t N) (L := porterlaw48_works_L) (N := N) (body := porterlaw48_works_body) (K := (kRes (.v .bool) 0)) (porterlaw48_works_Eok N) Go.Proofs.Try.func5 (by kernel_rfl) (by decide) (fun _ hb => TabOk.nil) (fun x y h => by rw [porterlaw48_works_link]; exact h) (kRes_ok (s := (.v .bool)) (m := 0))

noncomputable def porterref48_up_body : Code := (Go.Proofs.Try.f18.body).getD .skip

noncomputable def porterref48_up_L : List (List Nat × List Nat) := [([0], [0]), ([0, 0, 1], [4, 0]), ([1, 0, 1], [0]), ([0, 0, 1, 0, 1], [2]), ([1, 0, 1, 0, 1], [2]), ([0, 1, 1], [2]), ([1, 1, 1], [2])]

noncomputable def porterref48_up_E (N : Nat) : Env := mkEnv tys noGlob [] [] [] [] false [] []

theorem porterref48_up_Eok (N : Nat) : EnvOk Go.Proofs.Try.prog (porterref48_up_E N) := mkEnv_ok mixed tys_ok (FnsOk.nil) (ItsOk.nil)

noncomputable def porterref48_up (N : Nat) (n : Int) : Option Int :=
  cond (decide (n < (0 : Int)))
  (some (0 : Int))
  (some n)

noncomputable def porterref48_up_t (N : Nat) : Tab Int := []

theorem porterref48_up_link (N : Nat) (x : denS [(0, .v (.int .i64))]) : evFX (porterref48_up_E N) N (porterref48_up_t N) porterref48_up_L Go.Proofs.Try.f18 (mkS [(0, .v (.int .i64))] 0 x) (kRes (.v (.int .i64)) 1) = porterref48_up N x.1 := by kernel_rfl

noncomputable def porterref48_up_res (N : Nat) : List A → Res := resOf [(0, .v (.int .i64))] (fun x => porterref48_up N x.1) (oRes (.v (.int .i64)) 1)

theorem porterref48_up_ct (N : Nat) : Contract Go.Proofs.Try.prog noGlob 18 (porterref48_up_res N) :=
  Contract.of (E := porterref48_up_E N) (H := porterref48_up_t N) (L := porterref48_up_L) (N := N) (body := porterref48_up_body) (K := (kRes (.v (.int .i64)) 1)) (porterref48_up_Eok N) Go.Proofs.Try.func18 (by kernel_rfl) (by decide) (fun _ hb => TabOk.nil) (fun x y h => by rw [porterref48_up_link]; exact h) (kRes_ok (s := (.v (.int .i64))) (m := 1))

noncomputable def porterref01_Add_body : Code := (Go.Proofs.Try.f19.body).getD .skip

noncomputable def porterref01_Add_L : List (List Nat × List Nat) := [([0], [1, 0]), ([0, 0, 1], [12, 1, 0]), ([1, 0, 1], [1, 0]), ([0, 0, 1, 0, 1], [4]), ([1, 0, 1, 0, 1], [4]), ([0, 0, 1, 1], [20, 0, 1]), ([1, 0, 1, 1], [0, 1]), ([0, 0, 1, 0, 1, 1], [4]), ([1, 0, 1, 0, 1, 1], [4]), ([0, 1, 1, 1], [4]), ([1, 1, 1, 1], [4])]

noncomputable def porterref01_Add_E (N : Nat) : Env := mkEnv tys noGlob [] [] [] [] false [] []

theorem porterref01_Add_Eok (N : Nat) : EnvOk Go.Proofs.Try.prog (porterref01_Add_E N) := mkEnv_ok mixed tys_ok (FnsOk.nil) (ItsOk.nil)

noncomputable def porterref01_Add_p2 (N : Nat) (a : Int) (b : Int) (k0 : Bool → Option Int) : Option Int :=
  cond (decide ((0 : Int) < b))
  (k0 (decide ((Go.IntKind.wrap Go.IntKind.i64 ((9223372036854775807 : Int) - b)) < a)))
  (k0 false)

noncomputable def porterref01_Add_g2 (N : Nat) (x : denS [(0, .v (.int .i64)), (0, .v (.int .i64))]) (K : Ex → List A → Option Int) : Option Int :=
  porterref01_Add_p2 N x.1 x.2.1 (fun a2 => (K .normal (mkS [(0, .v (.int .i64)), (0, .v (.int .i64)), (10, .v .bool)] 11 (x.1, x.2.1, a2, ()))))

noncomputable def porterref01_Add_h2 (N : Nat) : Hd Int := fun st K => (unS [(0, .v (.int .i64)), (0, .v (.int .i64))] 22 (restr [1, 0] 0 st)).bind fun x => porterref01_Add_g2 N x K

noncomputable def porterref01_Add_t2 (N : Nat) : Tab Int := []

theorem porterref01_Add_ok2 {N : Nat} {c : Ctx} (hb : Base Go.Proofs.Try.prog (porterref01_Add_E N) c) : CodeOk Go.Proofs.Try.prog c (nodeAt porterref01_Add_body [0, 0, 1]) (porterref01_Add_h2 N) :=
  piece_ok (s := [(0, .v (.int .i64)), (0, .v (.int .i64))]) (m := 22) (g := porterref01_Add_g2 N) [1, 0] (evN_sound hb N (porterref01_Add_t2 N) porterref01_Add_L porterref01_Add_body TabOk.nil [0, 0, 1] _ rfl) (fun x K => by kernel_rfl)

noncomputable def porterref01_Add_p1 (N : Nat) (a : Int) (b : Int) (k0 : Int → Option Int) (k1 : Option Int) : Option Int :=
  porterref01_Add_p2 N a b
  (fun x12 => cond x12
    (k0 (9223372036854775807 : Int))
    (k1))

noncomputable def porterref01_Add_g1 (N : Nat) (x : denS [(0, .v (.int .i64)), (0, .v (.int .i64))]) (K : Ex → List A → Option Int) : Option Int :=
  porterref01_Add_p1 N x.1 x.2.1 (fun a0 => (K .ret (mkS [(4, .v (.int .i64))] 19 (a0, ())))) (K .normal (mkS [(0, .v (.int .i64)), (0, .v (.int .i64))] 22 (x.1, x.2.1, ())))

noncomputable def porterref01_Add_h1 (N : Nat) : Hd Int := fun st K => (unS [(0, .v (.int .i64)), (0, .v (.int .i64))] 22 (restr [1, 0] 0 st)).bind fun x => porterref01_Add_g1 N x K

noncomputable def porterref01_Add_t1 (N : Nat) : Tab Int := [([0, 0, 1], porterref01_Add_h2 N)]

theorem porterref01_Add_ok1 {N : Nat} {c : Ctx} (hb : Base Go.Proofs.Try.prog (porterref01_Add_E N) c) : CodeOk Go.Proofs.Try.prog c (nodeAt porterref01_Add_body [0, 1]) (porterref01_Add_h1 N) :=
  piece_ok (s := [(0, .v (.int .i64)), (0, .v (.int .i64))]) (m := 22) (g := porterref01_Add_g1 N) [1, 0] (evN_sound hb N (porterref01_Add_t1 N) porterref01_Add_L porterref01_Add_body (TabOk.cons (porterref01_Add_ok2 hb) TabOk.nil) [0, 1] _ rfl) (fun x K => by kernel_rfl)

noncomputable def porterref01_Add_p4 (N : Nat) (a : Int) (b : Int) (k0 : Bool → Option Int) : Option Int :=
  cond (decide (b < (0 : Int)))
  (k0 (decide (a < (Go.IntKind.wrap Go.IntKind.i64 ((-(9223372036854775808 : Int)) - b)))))
  (k0 false)

noncomputable def porterref01_Add_g4 (N : Nat) (x : denS [(0, .v (.int .i64)), (0, .v (.int .i64))]) (K : Ex → List A → Option Int) : Option Int :=
  porterref01_Add_p4 N x.1 x.2.1 (fun a2 => (K .normal (mkS [(0, .v (.int .i64)), (0, .v (.int .i64)), (18, .v .bool)] 3 (x.1, x.2.1, a2, ()))))

noncomputable def porterref01_Add_h4 (N : Nat) : Hd Int := fun st K => (unS [(0, .v (.int .i64)), (0, .v (.int .i64))] 22 (restr [1, 0] 0 st)).bind fun x => porterref01_Add_g4 N x K

noncomputable def porterref01_Add_t4 (N : Nat) : Tab Int := []

theorem porterref01_Add_ok4 {N : Nat} {c : Ctx} (hb : Base Go.Proofs.Try.prog (porterref01_Add_E N) c) : CodeOk Go.Proofs.Try.prog c (nodeAt porterref01_Add_body [0, 0, 1, 1]) (porterref01_Add_h4 N) :=
  piece_ok (s := [(0, .v (.int .i64)), (0, .v (.int .i64))]) (m := 22) (g := porterref01_Add_g4 N) [1, 0] (evN_sound hb N (porterref01_Add_t4 N) porterref01_Add_L porterref01_Add_body TabOk.nil [0, 0, 1, 1] _ rfl) (fun x K => by kernel_rfl)

noncomputable def porterref01_Add_p3 (N : Nat) (a : Int) (b : Int) (k0 : Int → Option Int) (k1 : Option Int) : Option Int :=
  porterref01_Add_p4 N a b
  (fun x20 => cond x20
    (k0 (-(9223372036854775808 : Int)))
    (k1))

noncomputable def porterref01_Add_g3 (N : Nat) (x : denS [(0, .v (.int .i64)), (0, .v (.int .i64))]) (K : Ex → List A → Option Int) : Option Int :=
  porterref01_Add_p3 N x.1 x.2.1 (fun a0 => (K .ret (mkS [(4, .v (.int .i64))] 19 (a0, ())))) (K .normal (mkS [(0, .v (.int .i64)), (0, .v (.int .i64))] 22 (x.1, x.2.1, ())))

noncomputable def porterref01_Add_h3 (N : Nat) : Hd Int := fun st K => (unS [(0, .v (.int .i64)), (0, .v (.int .i64))] 22 (restr [1, 0] 0 st)).bind fun x => porterref01_Add_g3 N x K

noncomputable def porterref01_Add_t3 (N : Nat) : Tab Int := [([0, 0, 1, 1], porterref01_Add_h4 N)]

theorem porterref01_Add_ok3 {N : Nat} {c : Ctx} (hb : Base Go.Proofs.Try.prog (porterref01_Add_E N) c) : CodeOk Go.Proofs.Try.prog c (nodeAt porterref01_Add_body [0, 1, 1]) (porterref01_Add_h3 N) :=
  piece_ok (s := [(0, .v (.int .i64)), (0, .v (.int .i64))]) (m := 22) (g := porterref01_Add_g3 N) [1, 0] (evN_sound hb N (porterref01_Add_t3 N) porterref01_Add_L porterref01_Add_body (TabOk.cons (porterref01_Add_ok4 hb) TabOk.nil) [0, 1, 1] _ rfl) (fun x K => by kernel_rfl)

noncomputable def porterref01_Add (N : Nat) (a : Int) (b : Int) : Option Int :=
  porterref01_Add_p1 N a b
  (fun x4 => some x4)
  (porterref01_Add_p3 N a b
    (fun x41 => some x41)
    (some (Go.IntKind.wrap Go.IntKind.i64 (a + b))))

noncomputable def porterref01_Add_t (N : Nat) : Tab Int := [([0, 1], porterref01_Add_h1 N), ([0, 1, 1], porterref01_Add_h3 N)]

theorem porterref01_Add_link (N : Nat) (x : denS [(0, .v (.int .i64)), (0, .v (.int .i64))]) : evFX (porterref01_Add_E N) N (porterref01_Add_t N) porterref01_Add_L Go.Proofs.Try.f19 (mkS [(0, .v (.int .i64)), (0, .v (.int .i64))] 0 x) (kRes (.v (.int .i64)) 2) = porterref01_Add N x.1 x.2.1 := by kernel_rfl

noncomputable def porterref01_Add_res (N : Nat) : List A → Res := resOf [(0, .v (.int .i64)), (0, .v (.int .i64))] (fun x => porterref01_Add N x.1 x.2.1) (oRes (.v (.int .i64)) 2)

theorem porterref01_Add_ct (N : Nat) : Contract Go.Proofs.Try.prog noGlob 19 (porterref01_Add_res N) :=
  Contract.of (E := porterref01_Add_E N) (H := porterref01_Add_t N) (L := porterref01_Add_L) (N := N) (body := porterref01_Add_body) (K := (kRes (.v (.int .i64)) 2)) (porterref01_Add_Eok N) Go.Proofs.Try.func19 (by kernel_rfl) (by decide) (fun _ hb => (TabOk.cons (porterref01_Add_ok1 hb) (TabOk.cons (porterref01_Add_ok3 hb) TabOk.nil))) (fun x y h => by rw [porterref01_Add_link]; exact h) (kRes_ok (s := (.v (.int .i64))) (m := 2))

noncomputable def porterref01_Mul_body : Code := (Go.Proofs.Try.f10.body).getD .skip

noncomputable def porterref01_Mul_L : List (List Nat × List Nat) := [([0], [0, 1]), ([0, 0, 1], [10, 0, 1]), ([1, 0, 1], [0, 1]), ([0, 0, 1, 0, 1], [4]), ([1, 0, 1, 0, 1], [4]), ([0, 0, 1, 1], [22, 0, 1]), ([1, 0, 1, 1], [0, 1]), ([0, 0, 1, 0, 1, 1], [4]), ([1, 0, 1, 0, 1, 1], [4]), ([0, 0, 1, 1, 1], [34, 0, 1]), ([1, 0, 1, 1, 1], [0, 1]), ([0, 0, 1, 0, 1, 1, 1], [4]), ([1, 0, 1, 0, 1, 1, 1], [4]), ([0, 0, 1, 1, 1, 1], [60, 0, 1]), ([1, 0, 1, 1, 1, 1], [0, 1]), ([0, 0, 1, 0, 1, 1, 1, 1], [4]), ([1, 0, 1, 0, 1, 1, 1, 1], [4]), ([0, 1, 1, 1, 1, 1], [4]), ([1, 1, 1, 1, 1, 1], [4])]

noncomputable def porterref01_Mul_E (N : Nat) : Env := mkEnv tys noGlob [] [] [] [] false [] []

theorem porterref01_Mul_Eok (N : Nat) : EnvOk Go.Proofs.Try.prog (porterref01_Mul_E N) := mkEnv_ok mixed tys_ok (FnsOk.nil) (ItsOk.nil)

noncomputable def porterref01_Mul_p2 (N : Nat) (a : Int) (b : Int) (k0 : Bool → Option Int) : Option Int :=
  cond (a == (0 : Int))
  (k0 true)
  (k0 (b == (0 : Int)))

noncomputable def porterref01_Mul_g2 (N : Nat) (x : denS [(0, .v (.int .i64)), (0, .v (.int .i64))]) (K : Ex → List A → Option Int) : Option Int :=
  porterref01_Mul_p2 N x.1 x.2.1 (fun a2 => (K .normal (mkS [(0, .v (.int .i64)), (0, .v (.int .i64)), (8, .v .bool)] 53 (x.1, x.2.1, a2, ()))))

noncomputable def porterref01_Mul_h2 (N : Nat) : Hd Int := fun st K => (unS [(0, .v (.int .i64)), (0, .v (.int .i64))] 62 (restr [0, 1] 0 st)).bind fun x => porterref01_Mul_g2 N x K

noncomputable def porterref01_Mul_t2 (N : Nat) : Tab Int := []

theorem porterref01_Mul_ok2 {N : Nat} {c : Ctx} (hb : Base Go.Proofs.Try.prog (porterref01_Mul_E N) c) : CodeOk Go.Proofs.Try.prog c (nodeAt porterref01_Mul_body [0, 0, 1]) (porterref01_Mul_h2 N) :=
  piece_ok (s := [(0, .v (.int .i64)), (0, .v (.int .i64))]) (m := 62) (g := porterref01_Mul_g2 N) [0, 1] (evN_sound hb N (porterref01_Mul_t2 N) porterref01_Mul_L porterref01_Mul_body TabOk.nil [0, 0, 1] _ rfl) (fun x K => by kernel_rfl)

noncomputable def porterref01_Mul_p1 (N : Nat) (a : Int) (b : Int) (k0 : Int → Option Int) (k1 : Option Int) : Option Int :=
  porterref01_Mul_p2 N a b
  (fun x10 => cond x10
    (k0 (0 : Int))
    (k1))

noncomputable def porterref01_Mul_g1 (N : Nat) (x : denS [(0, .v (.int .i64)), (0, .v (.int .i64))]) (K : Ex → List A → Option Int) : Option Int :=
  porterref01_Mul_p1 N x.1 x.2.1 (fun a0 => (K .ret (mkS [(4, .v (.int .i64))] 59 (a0, ())))) (K .normal (mkS [(0, .v (.int .i64)), (0, .v (.int .i64))] 62 (x.1, x.2.1, ())))

noncomputable def porterref01_Mul_h1 (N : Nat) : Hd Int := fun st K => (unS [(0, .v (.int .i64)), (0, .v (.int .i64))] 62 (restr [0, 1] 0 st)).bind fun x => porterref01_Mul_g1 N x K

noncomputable def porterref01_Mul_t1 (N : Nat) : Tab Int := [([0, 0, 1], porterref01_Mul_h2 N)]

theorem porterref01_Mul_ok1 {N : Nat} {c : Ctx} (hb : Base Go.Proofs.Try.prog (porterref01_Mul_E N) c) : CodeOk Go.Proofs.Try.prog c (nodeAt porterref01_Mul_body [0, 1]) (porterref01_Mul_h1 N) :=
  piece_ok (s := [(0, .v (.int .i64)), (0, .v (.int .i64))]) (m := 62) (g := porterref01_Mul_g1 N) [0, 1] (evN_sound hb N (porterref01_Mul_t1 N) porterref01_Mul_L porterref01_Mul_body (TabOk.cons (porterref01_Mul_ok2 hb) TabOk.nil) [0, 1] _ rfl) (fun x K => by kernel_rfl)

noncomputable def porterref01_Mul_p4 (N : Nat) (a : Int) (b : Int) (k0 : Bool → Option Int) : Option Int :=
  cond (decide ((0 : Int) < a))
  (cond (decide ((0 : Int) < b))
    (cond (b == (0 : Int))
      (none)
      (k0 (decide ((Go.IntKind.wrap Go.IntKind.i64 (Int.tdiv (9223372036854775807 : Int) b)) < a))))
    (k0 false))
  (k0 false)

noncomputable def porterref01_Mul_g4 (N : Nat) (x : denS [(0, .v (.int .i64)), (0, .v (.int .i64))]) (K : Ex → List A → Option Int) : Option Int :=
  porterref01_Mul_p4 N x.1 x.2.1 (fun a2 => (K .normal (mkS [(0, .v (.int .i64)), (0, .v (.int .i64)), (20, .v .bool)] 41 (x.1, x.2.1, a2, ()))))

noncomputable def porterref01_Mul_h4 (N : Nat) : Hd Int := fun st K => (unS [(0, .v (.int .i64)), (0, .v (.int .i64))] 62 (restr [0, 1] 0 st)).bind fun x => porterref01_Mul_g4 N x K

noncomputable def porterref01_Mul_t4 (N : Nat) : Tab Int := []

theorem porterref01_Mul_ok4 {N : Nat} {c : Ctx} (hb : Base Go.Proofs.Try.prog (porterref01_Mul_E N) c) : CodeOk Go.Proofs.Try.prog c (nodeAt porterref01_Mul_body [0, 0, 1, 1]) (porterref01_Mul_h4 N) :=
  piece_ok (s := [(0, .v (.int .i64)), (0, .v (.int .i64))]) (m := 62) (g := porterref01_Mul_g4 N) [0, 1] (evN_sound hb N (porterref01_Mul_t4 N) porterref01_Mul_L porterref01_Mul_body TabOk.nil [0, 0, 1, 1] _ rfl) (fun x K => by kernel_rfl)

noncomputable def porterref01_Mul_p3 (N : Nat) (a : Int) (b : Int) (k0 : Int → Option Int) (k1 : Option Int) : Option Int :=
  porterref01_Mul_p4 N a b
  (fun x22 => cond x22
    (k0 (9223372036854775807 : Int))
    (k1))

noncomputable def porterref01_Mul_g3 (N : Nat) (x : denS [(0, .v (.int .i64)), (0, .v (.int .i64))]) (K : Ex → List A → Option Int) : Option Int :=
  porterref01_Mul_p3 N x.1 x.2.1 (fun a0 => (K .ret (mkS [(4, .v (.int .i64))] 59 (a0, ())))) (K .normal (mkS [(0, .v (.int .i64)), (0, .v (.int .i64))] 62 (x.1, x.2.1, ())))

noncomputable def porterref01_Mul_h3 (N : Nat) : Hd Int := fun st K => (unS [(0, .v (.int .i64)), (0, .v (.int .i64))] 62 (restr [0, 1] 0 st)).bind fun x => porterref01_Mul_g3 N x K

noncomputable def porterref01_Mul_t3 (N : Nat) : Tab Int := [([0, 0, 1, 1], porterref01_Mul_h4 N)]

theorem porterref01_Mul_ok3 {N : Nat} {c : Ctx} (hb : Base Go.Proofs.Try.prog (porterref01_Mul_E N) c) : CodeOk Go.Proofs.Try.prog c (nodeAt porterref01_Mul_body [0, 1, 1]) (porterref01_Mul_h3 N) :=
  piece_ok (s := [(0, .v (.int .i64)), (0, .v (.int .i64))]) (m := 62) (g := porterref01_Mul_g3 N) [0, 1] (evN_sound hb N (porterref01_Mul_t3 N) porterref01_Mul_L porterref01_Mul_body (TabOk.cons (porterref01_Mul_ok4 hb) TabOk.nil) [0, 1, 1] _ rfl) (fun x K => by kernel_rfl)

noncomputable def porterref01_Mul_p6 (N : Nat) (a : Int) (b : Int) (k0 : Bool → Option Int) : Option Int :=
  cond (decide (a < (0 : Int)))
  (cond (decide (b < (0 : Int)))
    (cond (b == (0 : Int))
      (none)
      (k0 (decide (a < (Go.IntKind.wrap Go.IntKind.i64 (Int.tdiv (9223372036854775807 : Int) b))))))
    (k0 false))
  (k0 false)

noncomputable def porterref01_Mul_g6 (N : Nat) (x : denS [(0, .v (.int .i64)), (0, .v (.int .i64))]) (K : Ex → List A → Option Int) : Option Int :=
  porterref01_Mul_p6 N x.1 x.2.1 (fun a2 => (K .normal (mkS [(0, .v (.int .i64)), (0, .v (.int .i64)), (32, .v .bool)] 29 (x.1, x.2.1, a2, ()))))

noncomputable def porterref01_Mul_h6 (N : Nat) : Hd Int := fun st K => (unS [(0, .v (.int .i64)), (0, .v (.int .i64))] 62 (restr [0, 1] 0 st)).bind fun x => porterref01_Mul_g6 N x K

noncomputable def porterref01_Mul_t6 (N : Nat) : Tab Int := []

theorem porterref01_Mul_ok6 {N : Nat} {c : Ctx} (hb : Base Go.Proofs.Try.prog (porterref01_Mul_E N) c) : CodeOk Go.Proofs.Try.prog c (nodeAt porterref01_Mul_body [0, 0, 1, 1, 1]) (porterref01_Mul_h6 N) :=
  piece_ok (s := [(0, .v (.int .i64)), (0, .v (.int .i64))]) (m := 62) (g := porterref01_Mul_g6 N) [0, 1] (evN_sound hb N (porterref01_Mul_t6 N) porterref01_Mul_L porterref01_Mul_body TabOk.nil [0, 0, 1, 1, 1] _ rfl) (fun x K => by kernel_rfl)

noncomputable def porterref01_Mul_p5 (N : Nat) (a : Int) (b : Int) (k0 : Int → Option Int) (k1 : Option Int) : Option Int :=
  porterref01_Mul_p6 N a b
  (fun x34 => cond x34
    (k0 (9223372036854775807 : Int))
    (k1))

noncomputable def porterref01_Mul_g5 (N : Nat) (x : denS [(0, .v (.int .i64)), (0, .v (.int .i64))]) (K : Ex → List A → Option Int) : Option Int :=
  porterref01_Mul_p5 N x.1 x.2.1 (fun a0 => (K .ret (mkS [(4, .v (.int .i64))] 59 (a0, ())))) (K .normal (mkS [(0, .v (.int .i64)), (0, .v (.int .i64))] 62 (x.1, x.2.1, ())))

noncomputable def porterref01_Mul_h5 (N : Nat) : Hd Int := fun st K => (unS [(0, .v (.int .i64)), (0, .v (.int .i64))] 62 (restr [0, 1] 0 st)).bind fun x => porterref01_Mul_g5 N x K

noncomputable def porterref01_Mul_t5 (N : Nat) : Tab Int := [([0, 0, 1, 1, 1], porterref01_Mul_h6 N)]

theorem porterref01_Mul_ok5 {N : Nat} {c : Ctx} (hb : Base Go.Proofs.Try.prog (porterref01_Mul_E N) c) : CodeOk Go.Proofs.Try.prog c (nodeAt porterref01_Mul_body [0, 1, 1, 1]) (porterref01_Mul_h5 N) :=
  piece_ok (s := [(0, .v (.int .i64)), (0, .v (.int .i64))]) (m := 62) (g := porterref01_Mul_g5 N) [0, 1] (evN_sound hb N (porterref01_Mul_t5 N) porterref01_Mul_L porterref01_Mul_body (TabOk.cons (porterref01_Mul_ok6 hb) TabOk.nil) [0, 1, 1, 1] _ rfl) (fun x K => by kernel_rfl)

noncomputable def porterref01_Mul_p8 (N : Nat) (a : Int) (b : Int) (k0 : Bool → Option Int) : Option Int :=
  cond (decide ((0 : Int) < a))
  (cond (decide (b < (0 : Int)))
    (cond (a == (0 : Int))
      (none)
      (cond (decide (b < (Go.IntKind.wrap Go.IntKind.i64 (Int.tdiv (-(9223372036854775808 : Int)) a))))
        (k0 true)
        (cond (decide (a < (0 : Int)))
          (cond (decide ((0 : Int) < b))
            (cond (b == (0 : Int))
              (none)
              (k0 (decide (a < (Go.IntKind.wrap Go.IntKind.i64 (Int.tdiv (-(9223372036854775808 : Int)) b))))))
            (k0 false))
          (k0 false))))
    (cond (decide (a < (0 : Int)))
      (cond (decide ((0 : Int) < b))
        (cond (b == (0 : Int))
          (none)
          (k0 (decide (a < (Go.IntKind.wrap Go.IntKind.i64 (Int.tdiv (-(9223372036854775808 : Int)) b))))))
        (k0 false))
      (k0 false)))
  (cond (decide (a < (0 : Int)))
    (cond (decide ((0 : Int) < b))
      (cond (b == (0 : Int))
        (none)
        (k0 (decide (a < (Go.IntKind.wrap Go.IntKind.i64 (Int.tdiv (-(9223372036854775808 : Int)) b))))))
      (k0 false))
    (k0 false))

noncomputable def porterref01_Mul_g8 (N : Nat) (x : denS [(0, .v (.int .i64)), (0, .v (.int .i64))]) (K : Ex → List A → Option Int) : Option Int :=
  porterref01_Mul_p8 N x.1 x.2.1 (fun a2 => (K .normal (mkS [(0, .v (.int .i64)), (0, .v (.int .i64)), (58, .v .bool)] 3 (x.1, x.2.1, a2, ()))))

noncomputable def porterref01_Mul_h8 (N : Nat) : Hd Int := fun st K => (unS [(0, .v (.int .i64)), (0, .v (.int .i64))] 62 (restr [0, 1] 0 st)).bind fun x => porterref01_Mul_g8 N x K

noncomputable def porterref01_Mul_t8 (N : Nat) : Tab Int := []

theorem porterref01_Mul_ok8 {N : Nat} {c : Ctx} (hb : Base Go.Proofs.Try.prog (porterref01_Mul_E N) c) : CodeOk Go.Proofs.Try.prog c (nodeAt porterref01_Mul_body [0, 0, 1, 1, 1, 1]) (porterref01_Mul_h8 N) :=
  piece_ok (s := [(0, .v (.int .i64)), (0, .v (.int .i64))]) (m := 62) (g := porterref01_Mul_g8 N) [0, 1] (evN_sound hb N (porterref01_Mul_t8 N) porterref01_Mul_L porterref01_Mul_body TabOk.nil [0, 0, 1, 1, 1, 1] _ rfl) (fun x K => by kernel_rfl)

noncomputable def porterref01_Mul_p7 (N : Nat) (a : Int) (b : Int) (k0 : Int → Option Int) (k1 : Option Int) : Option Int :=
  porterref01_Mul_p8 N a b
  (fun x60 => cond x60
    (k0 (-(9223372036854775808 : Int)))
    (k1))

noncomputable def porterref01_Mul_g7 (N : Nat) (x : denS [(0, .v (.int .i64)), (0, .v (.int .i64))]) (K : Ex → List A → Option Int) : Option Int :=
  porterref01_Mul_p7 N x.1 x.2.1 (fun a0 => (K .ret (mkS [(4, .v (.int .i64))] 59 (a0, ())))) (K .normal (mkS [(0, .v (.int .i64)), (0, .v (.int .i64))] 62 (x.1, x.2.1, ())))

noncomputable def porterref01_Mul_h7 (N : Nat) : Hd Int := fun st K => (unS [(0, .v (.int .i64)), (0, .v (.int .i64))] 62 (restr [0, 1] 0 st)).bind fun x => porterref01_Mul_g7 N x K

noncomputable def porterref01_Mul_t7 (N : Nat) : Tab Int := [([0, 0, 1, 1, 1, 1], porterref01_Mul_h8 N)]

theorem porterref01_Mul_ok7 {N : Nat} {c : Ctx} (hb : Base Go.Proofs.Try.prog (porterref01_Mul_E N) c) : CodeOk Go.Proofs.Try.prog c (nodeAt porterref01_Mul_body [0, 1, 1, 1, 1]) (porterref01_Mul_h7 N) :=
  piece_ok (s := [(0, .v (.int .i64)), (0, .v (.int .i64))]) (m := 62) (g := porterref01_Mul_g7 N) [0, 1] (evN_sound hb N (porterref01_Mul_t7 N) porterref01_Mul_L porterref01_Mul_body (TabOk.cons (porterref01_Mul_ok8 hb) TabOk.nil) [0, 1, 1, 1, 1] _ rfl) (fun x K => by kernel_rfl)

noncomputable def porterref01_Mul (N : Nat) (a : Int) (b : Int) : Option Int :=
  porterref01_Mul_p1 N a b
  (fun x4 => some x4)
  (porterref01_Mul_p3 N a b
    (fun x41 => some x41)
    (porterref01_Mul_p5 N a b
      (fun x42 => some x42)
      (porterref01_Mul_p7 N a b
        (fun x43 => some x43)
        (some (Go.IntKind.wrap Go.IntKind.i64 (a * b))))))

noncomputable def porterref01_Mul_t (N : Nat) : Tab Int := [([0, 1], porterref01_Mul_h1 N), ([0, 1, 1], porterref01_Mul_h3 N), ([0, 1, 1, 1], porterref01_Mul_h5 N), ([0, 1, 1, 1, 1], porterref01_Mul_h7 N)]

theorem porterref01_Mul_link (N : Nat) (x : denS [(0, .v (.int .i64)), (0, .v (.int .i64))]) : evFX (porterref01_Mul_E N) N (porterref01_Mul_t N) porterref01_Mul_L Go.Proofs.Try.f10 (mkS [(0, .v (.int .i64)), (0, .v (.int .i64))] 0 x) (kRes (.v (.int .i64)) 2) = porterref01_Mul N x.1 x.2.1 := by kernel_rfl

noncomputable def porterref01_Mul_res (N : Nat) : List A → Res := resOf [(0, .v (.int .i64)), (0, .v (.int .i64))] (fun x => porterref01_Mul N x.1 x.2.1) (oRes (.v (.int .i64)) 2)

theorem porterref01_Mul_ct (N : Nat) : Contract Go.Proofs.Try.prog noGlob 10 (porterref01_Mul_res N) :=
  Contract.of (E := porterref01_Mul_E N) (H := porterref01_Mul_t N) (L := porterref01_Mul_L) (N := N) (body := porterref01_Mul_body) (K := (kRes (.v (.int .i64)) 2)) (porterref01_Mul_Eok N) Go.Proofs.Try.func10 (by kernel_rfl) (by decide) (fun _ hb => (TabOk.cons (porterref01_Mul_ok1 hb) (TabOk.cons (porterref01_Mul_ok3 hb) (TabOk.cons (porterref01_Mul_ok5 hb) (TabOk.cons (porterref01_Mul_ok7 hb) TabOk.nil))))) (fun x y h => by rw [porterref01_Mul_link]; exact h) (kRes_ok (s := (.v (.int .i64))) (m := 2))

noncomputable def porterref48_Automata_body : Code := (Go.Proofs.Try.f8.body).getD .skip

noncomputable def porterref48_Automata_L : List (List Nat × List Nat) := [([0], [0]), ([0, 1], [2]), ([1, 1], [2])]

noncomputable def porterref48_Automata_E (N : Nat) : Env := mkEnv tys noGlob [(10, porterref01_Mul_res N), (19, porterref01_Add_res N), (18, porterref48_up_res N)] [] [] [] false [] []

theorem porterref48_Automata_Eok (N : Nat) : EnvOk Go.Proofs.Try.prog (porterref48_Automata_E N) := mkEnv_ok mixed tys_ok (FnsOk.cons (porterref01_Mul_ct N) (FnsOk.cons (porterref01_Add_ct N) (FnsOk.cons (porterref48_up_ct N) (FnsOk.nil)))) (ItsOk.nil)

noncomputable def porterref48_Automata (N : Nat) (n : Int) : Option Int :=
  (porterref48_up N n).bind fun y =>
  (porterref48_up N n).bind fun y1 =>
  (porterref01_Add N y1 (2 : Int)).bind fun y2 =>
  (porterref01_Mul N y y2).bind fun y3 =>
  some y3

noncomputable def porterref48_Automata_t (N : Nat) : Tab Int := []

theorem porterref48_Automata_link (N : Nat) (x : denS [(0, .v (.int .i64))]) : evFX (porterref48_Automata_E N) N (porterref48_Automata_t N) porterref48_Automata_L Go.Proofs.Try.f8 (mkS [(0, .v (.int .i64))] 0 x) (kRes (.v (.int .i64)) 1) = porterref48_Automata N x.1 := by kernel_rfl

noncomputable def porterref48_Automata_res (N : Nat) : List A → Res := resOf [(0, .v (.int .i64))] (fun x => porterref48_Automata N x.1) (oRes (.v (.int .i64)) 1)

theorem porterref48_Automata_ct (N : Nat) : Contract Go.Proofs.Try.prog noGlob 8 (porterref48_Automata_res N) :=
  Contract.of (E := porterref48_Automata_E N) (H := porterref48_Automata_t N) (L := porterref48_Automata_L) (N := N) (body := porterref48_Automata_body) (K := (kRes (.v (.int .i64)) 1)) (porterref48_Automata_Eok N) Go.Proofs.Try.func8 (by kernel_rfl) (by decide) (fun _ hb => TabOk.nil) (fun x y h => by rw [porterref48_Automata_link]; exact h) (kRes_ok (s := (.v (.int .i64))) (m := 1))

noncomputable def bound_States_body : Code := (Go.Proofs.Try.f9.body).getD .skip

noncomputable def bound_States_L : List (List Nat × List Nat) := [([0], [0]), ([0, 1], [2]), ([1, 1], [2])]

noncomputable def bound_States_E (N : Nat) : Env := mkEnv tys noGlob [(7, bound_Automata_res N), (16, sat_Mul_res N)] [] [] [] false [] []

theorem bound_States_Eok (N : Nat) : EnvOk Go.Proofs.Try.prog (bound_States_E N) := mkEnv_ok mixed tys_ok (FnsOk.cons (bound_Automata_ct N) (FnsOk.cons (sat_Mul_ct N) (FnsOk.nil))) (ItsOk.nil)

noncomputable def bound_States (N : Nat) (matchers : Int) : Option Int :=
  (bound_Automata N matchers).bind fun y =>
  (sat_Mul N (8192 : Int) y).bind fun y1 =>
  some y1

noncomputable def bound_States_t (N : Nat) : Tab Int := []

theorem bound_States_link (N : Nat) (x : denS [(0, .v (.int .i64))]) : evFX (bound_States_E N) N (bound_States_t N) bound_States_L Go.Proofs.Try.f9 (mkS [(0, .v (.int .i64))] 0 x) (kRes (.v (.int .i64)) 1) = bound_States N x.1 := by kernel_rfl

noncomputable def bound_States_res (N : Nat) : List A → Res := resOf [(0, .v (.int .i64))] (fun x => bound_States N x.1) (oRes (.v (.int .i64)) 1)

theorem bound_States_ct (N : Nat) : Contract Go.Proofs.Try.prog noGlob 9 (bound_States_res N) :=
  Contract.of (E := bound_States_E N) (H := bound_States_t N) (L := bound_States_L) (N := N) (body := bound_States_body) (K := (kRes (.v (.int .i64)) 1)) (bound_States_Eok N) Go.Proofs.Try.func9 (by kernel_rfl) (by decide) (fun _ hb => TabOk.nil) (fun x y h => by rw [bound_States_link]; exact h) (kRes_ok (s := (.v (.int .i64))) (m := 1))

noncomputable def porterref48_Window_body : Code := (Go.Proofs.Try.f12.body).getD .skip

noncomputable def porterref48_Window_L : List (List Nat × List Nat) := [([0], [2, 1]), ([0, 1], [4]), ([1, 1], [4])]

noncomputable def porterref48_Window_E (N : Nat) : Env := mkEnv tys noGlob [(10, porterref01_Mul_res N), (19, porterref01_Add_res N), (18, porterref48_up_res N)] [] [] [] false [] []

theorem porterref48_Window_Eok (N : Nat) : EnvOk Go.Proofs.Try.prog (porterref48_Window_E N) := mkEnv_ok mixed tys_ok (FnsOk.cons (porterref01_Mul_ct N) (FnsOk.cons (porterref01_Add_ct N) (FnsOk.cons (porterref48_up_ct N) (FnsOk.nil)))) (ItsOk.nil)

noncomputable def porterref48_Window (N : Nat) (c : ((List UInt8) × (Int × (Int × Unit)))) (ticks : Int) : Option Int :=
  (porterref48_up N c.2.1).bind fun y =>
  (porterref48_up N c.2.2.1).bind fun y1 =>
  (porterref48_up N ticks).bind fun y2 =>
  (porterref01_Mul N y1 y2).bind fun y3 =>
  (porterref01_Add N y y3).bind fun y4 =>
  some y4

noncomputable def porterref48_Window_t (N : Nat) : Tab Int := []

theorem porterref48_Window_link (N : Nat) (x : denS [(0, .v (.pair .str (.pair (.int .i64) (.pair (.int .i64) .unit)))), (0, .v (.int .i64))]) : evFX (porterref48_Window_E N) N (porterref48_Window_t N) porterref48_Window_L Go.Proofs.Try.f12 (mkS [(0, .v (.pair .str (.pair (.int .i64) (.pair (.int .i64) .unit)))), (0, .v (.int .i64))] 0 x) (kRes (.v (.int .i64)) 2) = porterref48_Window N x.1 x.2.1 := by kernel_rfl

noncomputable def porterref48_Window_res (N : Nat) : List A → Res := resOf [(0, .v (.pair .str (.pair (.int .i64) (.pair (.int .i64) .unit)))), (0, .v (.int .i64))] (fun x => porterref48_Window N x.1 x.2.1) (oRes (.v (.int .i64)) 2)

theorem porterref48_Window_ct (N : Nat) : Contract Go.Proofs.Try.prog noGlob 12 (porterref48_Window_res N) :=
  Contract.of (E := porterref48_Window_E N) (H := porterref48_Window_t N) (L := porterref48_Window_L) (N := N) (body := porterref48_Window_body) (K := (kRes (.v (.int .i64)) 2)) (porterref48_Window_Eok N) Go.Proofs.Try.func12 (by kernel_rfl) (by decide) (fun _ hb => TabOk.nil) (fun x y h => by rw [porterref48_Window_link]; exact h) (kRes_ok (s := (.v (.int .i64))) (m := 2))

noncomputable def porterref38_in_body : Code := (Go.Proofs.Try.f47.body).getD .skip

noncomputable def porterref38_in_L : List (List Nat × List Nat) := [([0], [0, 1]), ([0, 1], [4]), ([1, 1], [4])]

noncomputable def porterref38_in_E (N : Nat) : Env := mkEnv tys noGlob [] [] [] [] false [] []

theorem porterref38_in_Eok (N : Nat) : EnvOk Go.Proofs.Try.prog (porterref38_in_E N) := mkEnv_ok mixed tys_ok (FnsOk.nil) (ItsOk.nil)

noncomputable def porterref38_in (N : Nat) (n : Int) (first : Int) : Option Bool :=
  cond (decide (first ≤ n))
  (some (decide (n ≤ (1099511627776 : Int))))
  (some false)

noncomputable def porterref38_in_t (N : Nat) : Tab Bool := []

theorem porterref38_in_link (N : Nat) (x : denS [(0, .v (.int .i64)), (0, .v (.int .i64))]) : evFX (porterref38_in_E N) N (porterref38_in_t N) porterref38_in_L Go.Proofs.Try.f47 (mkS [(0, .v (.int .i64)), (0, .v (.int .i64))] 0 x) (kRes (.v .bool) 2) = porterref38_in N x.1 x.2.1 := by kernel_rfl

noncomputable def porterref38_in_res (N : Nat) : List A → Res := resOf [(0, .v (.int .i64)), (0, .v (.int .i64))] (fun x => porterref38_in N x.1 x.2.1) (oRes (.v .bool) 2)

theorem porterref38_in_ct (N : Nat) : Contract Go.Proofs.Try.prog noGlob 47 (porterref38_in_res N) :=
  Contract.of (E := porterref38_in_E N) (H := porterref38_in_t N) (L := porterref38_in_L) (N := N) (body := porterref38_in_body) (K := (kRes (.v .bool) 2)) (porterref38_in_Eok N) Go.Proofs.Try.func47 (by kernel_rfl) (by decide) (fun _ hb => TabOk.nil) (fun x y h => by rw [porterref38_in_link]; exact h) (kRes_ok (s := (.v .bool)) (m := 2))

noncomputable def porterref09_Word_body : Code := (Go.Proofs.Try.f48.body).getD .skip

noncomputable def porterref09_Word_L : List (List Nat × List Nat) := [([0], [0]), ([0, 0, 1], [13, 0]), ([1, 0, 1], [0]), ([0, 0, 1, 0, 1], [2]), ([1, 0, 1, 0, 1], [2]), ([0, 0, 1, 1], [3, 0]), ([0, 1, 0, 1, 1], [3, 0]), ([0, 0, 0, 0, 1, 0, 1, 1], [17, 0, 3]), ([1, 0, 0, 0, 1, 0, 1, 1], [0, 3]), ([1, 1, 0, 0, 0, 1, 0, 1, 1], []), ([0, 0, 0, 1, 0, 0, 1, 0, 1, 1], [0, 3, 4]), ([0, 1, 0, 0, 1, 0, 0, 1, 0, 1, 1], [4, 3, 5, 0]), ([0, 1, 1, 0, 0, 1, 0, 0, 1, 0, 1, 1], [55, 3, 0]), ([1, 1, 1, 0, 0, 1, 0, 0, 1, 0, 1, 1], [3, 0]), ([0, 0, 1, 1, 1, 0, 0, 1, 0, 0, 1, 0, 1, 1], [2]), ([1, 0, 1, 1, 1, 0, 0, 1, 0, 0, 1, 0, 1, 1], [2]), ([0, 1, 0, 0, 1, 0, 1, 1], [3, 0]), ([1, 1, 0, 0, 1, 0, 1, 1], [3, 0]), ([1, 0, 1, 1], []), ([0, 1, 1, 1], [2]), ([1, 1, 1, 1], [2])]

noncomputable def porterref09_Word_E (N : Nat) : Env := mkEnv tys noGlob [] [] [] [] false [] []

theorem porterref09_Word_Eok (N : Nat) : EnvOk Go.Proofs.Try.prog (porterref09_Word_E N) := mkEnv_ok mixed tys_ok (FnsOk.nil) (ItsOk.nil)

noncomputable def porterref09_Word_p2 (N : Nat) (s : (List UInt8)) (k0 : Bool → Option Bool) : Option Bool :=
  cond (decide ((((List.length s) : Nat) : Int) < (1 : Int)))
  (k0 true)
  (k0 (decide ((32 : Int) < (((List.length s) : Nat) : Int))))

noncomputable def porterref09_Word_g2 (N : Nat) (x : denS [(0, .v .str)]) (K : Ex → List A → Option Bool) : Option Bool :=
  porterref09_Word_p2 N x.1 (fun a1 => (K .normal (mkS [(0, .v .str), (12, .v .bool)] 42 (x.1, a1, ()))))

noncomputable def porterref09_Word_h2 (N : Nat) : Hd Bool := fun st K => (unS [(0, .v .str)] 55 (restr [0] 0 st)).bind fun x => porterref09_Word_g2 N x K

noncomputable def porterref09_Word_t2 (N : Nat) : Tab Bool := []

theorem porterref09_Word_ok2 {N : Nat} {c : Ctx} (hb : Base Go.Proofs.Try.prog (porterref09_Word_E N) c) : CodeOk Go.Proofs.Try.prog c (nodeAt porterref09_Word_body [0, 0, 1]) (porterref09_Word_h2 N) :=
  piece_ok (s := [(0, .v .str)]) (m := 55) (g := porterref09_Word_g2 N) [0] (evN_sound hb N (porterref09_Word_t2 N) porterref09_Word_L porterref09_Word_body TabOk.nil [0, 0, 1] _ rfl) (fun x K => by kernel_rfl)

noncomputable def porterref09_Word_p1 (N : Nat) (s : (List UInt8)) (k0 : Bool → Option Bool) (k1 : Option Bool) : Option Bool :=
  porterref09_Word_p2 N s
  (fun x13 => cond x13
    (k0 false)
    (k1))

noncomputable def porterref09_Word_g1 (N : Nat) (x : denS [(0, .v .str)]) (K : Ex → List A → Option Bool) : Option Bool :=
  porterref09_Word_p1 N x.1 (fun a0 => (K .ret (mkS [(2, .v .bool)] 53 (a0, ())))) (K .normal (mkS [(0, .v .str)] 55 (x.1, ())))

noncomputable def porterref09_Word_h1 (N : Nat) : Hd Bool := fun st K => (unS [(0, .v .str)] 55 (restr [0] 0 st)).bind fun x => porterref09_Word_g1 N x K

noncomputable def porterref09_Word_t1 (N : Nat) : Tab Bool := [([0, 0, 1], porterref09_Word_h2 N)]

theorem porterref09_Word_ok1 {N : Nat} {c : Ctx} (hb : Base Go.Proofs.Try.prog (porterref09_Word_E N) c) : CodeOk Go.Proofs.Try.prog c (nodeAt porterref09_Word_body [0, 1]) (porterref09_Word_h1 N) :=
  piece_ok (s := [(0, .v .str)]) (m := 55) (g := porterref09_Word_g1 N) [0] (evN_sound hb N (porterref09_Word_t1 N) porterref09_Word_L porterref09_Word_body (TabOk.cons (porterref09_Word_ok2 hb) TabOk.nil) [0, 1] _ rfl) (fun x K => by kernel_rfl)

noncomputable def porterref09_Word_p5 (N : Nat) (s : (List UInt8)) (i : Int) (k0 : Bool → Option Bool) : Option Bool :=
  cond (Go.Lift.inR i (List.length s))
  (cond (decide ((97 : Int) ≤ (((UInt8.toNat (List.getD s (Int.toNat i) (0 : UInt8))) : Nat) : Int)))
    (cond (Go.Lift.inR i (List.length s))
      (k0 (decide ((((UInt8.toNat (List.getD s (Int.toNat i) (0 : UInt8))) : Nat) : Int) ≤ (122 : Int))))
      (none))
    (k0 false))
  (none)

noncomputable def porterref09_Word_g5 (N : Nat) (x : denS [(0, .v .str), (2, .v (.int .i64))]) (K : Ex → List A → Option Bool) : Option Bool :=
  porterref09_Word_p5 N x.1 x.2.1 (fun a2 => (K .normal (mkS [(0, .v .str), (2, .v (.int .i64)), (0, .v .bool)] 51 (x.1, x.2.1, a2, ()))))

noncomputable def porterref09_Word_h5 (N : Nat) : Hd Bool := fun st K => (unS [(0, .v .str), (2, .v (.int .i64))] 52 (restr [0, 3] 0 st)).bind fun x => porterref09_Word_g5 N x K

noncomputable def porterref09_Word_t5 (N : Nat) : Tab Bool := []

theorem porterref09_Word_ok5 {N : Nat} {c : Ctx} (hb : Base Go.Proofs.Try.prog (porterref09_Word_E N) c) : CodeOk Go.Proofs.Try.prog c (nodeAt porterref09_Word_body [0, 0, 0, 1, 0, 0, 1, 0, 1, 1]) (porterref09_Word_h5 N) :=
  piece_ok (s := [(0, .v .str), (2, .v (.int .i64))]) (m := 52) (g := porterref09_Word_g5 N) [0, 3] (evN_sound hb N (porterref09_Word_t5 N) porterref09_Word_L porterref09_Word_body TabOk.nil [0, 0, 0, 1, 0, 0, 1, 0, 1, 1] _ rfl) (fun x K => by kernel_rfl)

noncomputable def porterref09_Word_p6 (N : Nat) (s : (List UInt8)) (i : Int) (small : Bool) (k0 : Bool → Option Bool) : Option Bool :=
  cond (Go.Lift.inR i (List.length s))
  (cond ((((UInt8.toNat (List.getD s (Int.toNat i) (0 : UInt8))) : Nat) : Int) == (45 : Int))
    (k0 true)
    (cond (Go.Lift.inR i (List.length s))
      (cond (decide ((48 : Int) ≤ (((UInt8.toNat (List.getD s (Int.toNat i) (0 : UInt8))) : Nat) : Int)))
        (cond (Go.Lift.inR i (List.length s))
          (k0 (decide ((((UInt8.toNat (List.getD s (Int.toNat i) (0 : UInt8))) : Nat) : Int) ≤ (57 : Int))))
          (none))
        (k0 false))
      (none)))
  (none)

noncomputable def porterref09_Word_g6 (N : Nat) (x : denS [(0, .v .str), (2, .v (.int .i64)), (0, .v .bool)]) (K : Ex → List A → Option Bool) : Option Bool :=
  porterref09_Word_p6 N x.1 x.2.1 x.2.2.1 (fun a3 => (K .normal (mkS [(0, .v .str), (2, .v (.int .i64)), (0, .v .bool), (0, .v .bool)] 50 (x.1, x.2.1, x.2.2.1, a3, ()))))

noncomputable def porterref09_Word_h6 (N : Nat) : Hd Bool := fun st K => (unS [(0, .v .str), (2, .v (.int .i64)), (0, .v .bool)] 51 (restr [0, 3, 4] 0 st)).bind fun x => porterref09_Word_g6 N x K

noncomputable def porterref09_Word_t6 (N : Nat) : Tab Bool := []

theorem porterref09_Word_ok6 {N : Nat} {c : Ctx} (hb : Base Go.Proofs.Try.prog (porterref09_Word_E N) c) : CodeOk Go.Proofs.Try.prog c (nodeAt porterref09_Word_body [0, 1, 0, 0, 1, 0, 0, 1, 0, 1, 1]) (porterref09_Word_h6 N) :=
  piece_ok (s := [(0, .v .str), (2, .v (.int .i64)), (0, .v .bool)]) (m := 51) (g := porterref09_Word_g6 N) [0, 3, 4] (evN_sound hb N (porterref09_Word_t6 N) porterref09_Word_L porterref09_Word_body TabOk.nil [0, 1, 0, 0, 1, 0, 0, 1, 0, 1, 1] _ rfl) (fun x K => by kernel_rfl)

noncomputable def porterref09_Word_p7 (N : Nat) (s : (List UInt8)) (i : Int) (small : Bool) (other : Bool) (k0 : Bool → Option Bool) : Option Bool :=
  cond (!small)
  (cond (i == (0 : Int))
    (k0 true)
    (k0 (!other)))
  (k0 false)

noncomputable def porterref09_Word_g7 (N : Nat) (x : denS [(0, .v .str), (2, .v (.int .i64)), (0, .v .bool), (0, .v .bool)]) (K : Ex → List A → Option Bool) : Option Bool :=
  porterref09_Word_p7 N x.1 x.2.1 x.2.2.1 x.2.2.2.1 (fun a2 => (K .normal (mkS [(0, .v .str), (2, .v (.int .i64)), (51, .v .bool)] 0 (x.1, x.2.1, a2, ()))))

noncomputable def porterref09_Word_h7 (N : Nat) : Hd Bool := fun st K => (unS [(0, .v .str), (2, .v (.int .i64)), (0, .v .bool), (0, .v .bool)] 50 (restr [4, 3, 5, 0] 0 st)).bind fun x => porterref09_Word_g7 N x K

noncomputable def porterref09_Word_t7 (N : Nat) : Tab Bool := []

theorem porterref09_Word_ok7 {N : Nat} {c : Ctx} (hb : Base Go.Proofs.Try.prog (porterref09_Word_E N) c) : CodeOk Go.Proofs.Try.prog c (nodeAt porterref09_Word_body [0, 1, 1, 0, 0, 1, 0, 0, 1, 0, 1, 1]) (porterref09_Word_h7 N) :=
  piece_ok (s := [(0, .v .str), (2, .v (.int .i64)), (0, .v .bool), (0, .v .bool)]) (m := 50) (g := porterref09_Word_g7 N) [4, 3, 5, 0] (evN_sound hb N (porterref09_Word_t7 N) porterref09_Word_L porterref09_Word_body TabOk.nil [0, 1, 1, 0, 0, 1, 0, 0, 1, 0, 1, 1] _ rfl) (fun x K => by kernel_rfl)

noncomputable def porterref09_Word_p4 (N : Nat) (s : (List UInt8)) (i : Int) (k0 : Bool → Option Bool) (k1 : Option Bool) : Option Bool :=
  porterref09_Word_p5 N s i
  (fun small => porterref09_Word_p6 N s i small
    (fun other => porterref09_Word_p7 N s i small other
      (fun x55 => cond x55
        (k0 false)
        (k1))))

noncomputable def porterref09_Word_g4 (N : Nat) (x : denS [(0, .v .str), (2, .v (.int .i64))]) (K : Ex → List A → Option Bool) : Option Bool :=
  porterref09_Word_p4 N x.1 x.2.1 (fun a0 => (K .ret (mkS [(2, .v .bool)] 53 (a0, ())))) (K .normal (mkS [(0, .v .str), (2, .v (.int .i64))] 52 (x.1, x.2.1, ())))

noncomputable def porterref09_Word_h4 (N : Nat) : Hd Bool := fun st K => (unS [(0, .v .str), (2, .v (.int .i64))] 52 (restr [0, 3] 0 st)).bind fun x => porterref09_Word_g4 N x K

noncomputable def porterref09_Word_t4 (N : Nat) : Tab Bool := [([0, 0, 0, 1, 0, 0, 1, 0, 1, 1], porterref09_Word_h5 N), ([0, 1, 0, 0, 1, 0, 0, 1, 0, 1, 1], porterref09_Word_h6 N), ([0, 1, 1, 0, 0, 1, 0, 0, 1, 0, 1, 1], porterref09_Word_h7 N)]

theorem porterref09_Word_ok4 {N : Nat} {c : Ctx} (hb : Base Go.Proofs.Try.prog (porterref09_Word_E N) c) : CodeOk Go.Proofs.Try.prog c (nodeAt porterref09_Word_body [0, 1, 0, 0, 1, 0, 1, 1]) (porterref09_Word_h4 N) :=
  piece_ok (s := [(0, .v .str), (2, .v (.int .i64))]) (m := 52) (g := porterref09_Word_g4 N) [0, 3] (evN_sound hb N (porterref09_Word_t4 N) porterref09_Word_L porterref09_Word_body (TabOk.cons (porterref09_Word_ok5 hb) (TabOk.cons (porterref09_Word_ok6 hb) (TabOk.cons (porterref09_Word_ok7 hb) TabOk.nil))) [0, 1, 0, 0, 1, 0, 1, 1] _ rfl) (fun x K => by kernel_rfl)

noncomputable def porterref09_Word_s3 (N : Nat) (s : (List UInt8)) (i : Int) (rec : Int → Option Bool) (k0 : Bool → Option Bool) (k1 : Option Bool) : Option Bool :=
  cond (decide (i < (((List.length s) : Nat) : Int)))
  (porterref09_Word_p4 N s i
    (fun x2 => k0 x2)
    (rec (Go.IntKind.wrap Go.IntKind.i64 (i + (1 : Int)))))
  (k1)

noncomputable def porterref09_Word_p3 (N : Nat) (s : (List UInt8)) (i : Int) (k0 : Bool → Option Bool) (k1 : Option Bool) : Option Bool :=
  iter (fun (v : Int) r => porterref09_Word_s3 N s v (fun i => (r i)) k0 k1) N i

noncomputable def porterref09_Word_g3 (N : Nat) (i : (List UInt8)) (v : Int) (r : Int → Option Bool) (K : Ex → List A → Option Bool) : Option Bool :=
  porterref09_Word_s3 N i v (fun i => (r i)) (fun a0 => (K .ret (mkS [(2, .v .bool)] 53 (a0, ())))) (K (.exit 0) (mkS [] 56 ()))

noncomputable def porterref09_Word_h3 (N : Nat) : Hd Bool := fun st K => (unS [(0, .v .str), (2, .v (.int .i64))] 52 (restr [3, 0] 0 st)).bind fun x => iter (fun v r => porterref09_Word_g3 N ((fun x => x.1) x) v r K) N ((fun x => x.2.1) x)

noncomputable def porterref09_Word_t3 (N : Nat) : Tab Bool := [([0, 1, 0, 0, 1, 0, 1, 1], porterref09_Word_h4 N)]

theorem porterref09_Word_ok3 {N : Nat} {c : Ctx} (hb : Base Go.Proofs.Try.prog (porterref09_Word_E N) c) : CodeOk Go.Proofs.Try.prog c (nodeAt porterref09_Word_body [0, 1, 0, 1, 1]) (porterref09_Word_h3 N) :=
  loop_ok (s := [(0, .v .str), (2, .v (.int .i64))]) (m := 52) (porterref09_Word_g3 N) [3, 0] N (fun x => x.1) (fun x => x.2.1) (fun i v => (i, v, ())) (fun _ => rfl) (evN_sound hb N (porterref09_Word_t3 N) porterref09_Word_L porterref09_Word_body (TabOk.cons (porterref09_Word_ok4 hb) TabOk.nil) [0, 0, 1, 0, 1, 1] _ rfl) (fun i v r K => by kernel_rfl)

noncomputable def porterref09_Word (N : Nat) (s : (List UInt8)) : Option Bool :=
  porterref09_Word_p1 N s
  (fun x2 => some x2)
  (porterref09_Word_p3 N s (0 : Int)
    (fun x21 => some x21)
    (some true))

noncomputable def porterref09_Word_t (N : Nat) : Tab Bool := [([0, 1], porterref09_Word_h1 N), ([0, 1, 0, 1, 1], porterref09_Word_h3 N)]

theorem porterref09_Word_link (N : Nat) (x : denS [(0, .v .str)]) : evFX (porterref09_Word_E N) N (porterref09_Word_t N) porterref09_Word_L Go.Proofs.Try.f48 (mkS [(0, .v .str)] 0 x) (kRes (.v .bool) 1) = porterref09_Word N x.1 := by kernel_rfl

noncomputable def porterref09_Word_res (N : Nat) : List A → Res := resOf [(0, .v .str)] (fun x => porterref09_Word N x.1) (oRes (.v .bool) 1)

theorem porterref09_Word_ct (N : Nat) : Contract Go.Proofs.Try.prog noGlob 48 (porterref09_Word_res N) :=
  Contract.of (E := porterref09_Word_E N) (H := porterref09_Word_t N) (L := porterref09_Word_L) (N := N) (body := porterref09_Word_body) (K := (kRes (.v .bool) 1)) (porterref09_Word_Eok N) Go.Proofs.Try.func48 (by kernel_rfl) (by decide) (fun _ hb => (TabOk.cons (porterref09_Word_ok1 hb) (TabOk.cons (porterref09_Word_ok3 hb) TabOk.nil))) (fun x y h => by rw [porterref09_Word_link]; exact h) (kRes_ok (s := (.v .bool)) (m := 1))

noncomputable def porterref02_Compare_body : Code := (Go.Proofs.Try.f49.body).getD .skip

noncomputable def porterref02_Compare_L : List (List Nat × List Nat) := [([0], [0, 1]), ([0, 0, 1], [5, 0, 1]), ([0, 1, 0, 1], [5, 0, 1]), ([0, 0, 0, 0, 1, 0, 1], [15, 0, 5, 1]), ([1, 0, 0, 0, 1, 0, 1], [0, 5, 1]), ([1, 1, 0, 0, 0, 1, 0, 1], [0, 1]), ([0, 0, 0, 0, 1, 0, 0, 1, 0, 1], [24, 0, 5, 1]), ([1, 0, 0, 0, 1, 0, 0, 1, 0, 1], [0, 5, 1]), ([0, 0, 1, 0, 0, 0, 1, 0, 0, 1, 0, 1], [4]), ([1, 0, 1, 0, 0, 0, 1, 0, 0, 1, 0, 1], [4]), ([0, 1, 0, 0, 1, 0, 0, 1, 0, 1], [31, 5, 0, 1]), ([1, 1, 0, 0, 1, 0, 0, 1, 0, 1], [5, 0, 1]), ([0, 0, 1, 1, 0, 0, 1, 0, 0, 1, 0, 1], [4]), ([1, 0, 1, 1, 0, 0, 1, 0, 0, 1, 0, 1], [4]), ([0, 1, 0, 0, 1, 0, 1], [5, 0, 1]), ([1, 1, 0, 0, 1, 0, 1], [5, 0, 1]), ([1, 0, 1], [0, 1]), ([0, 0, 1, 1], [36, 0, 1]), ([1, 0, 1, 1], [0, 1]), ([0, 0, 1, 0, 1, 1], [4]), ([1, 0, 1, 0, 1, 1], [4]), ([0, 0, 1, 1, 1], [41]), ([1, 0, 1, 1, 1], []), ([0, 0, 1, 0, 1, 1, 1], [4]), ([1, 0, 1, 0, 1, 1, 1], [4]), ([0, 1, 1, 1, 1], [4]), ([1, 1, 1, 1, 1], [4])]

noncomputable def porterref02_Compare_E (N : Nat) : Env := mkEnv tys noGlob [] [] [] [] false [] []

theorem porterref02_Compare_Eok (N : Nat) : EnvOk Go.Proofs.Try.prog (porterref02_Compare_E N) := mkEnv_ok mixed tys_ok (FnsOk.nil) (ItsOk.nil)

noncomputable def porterref02_Compare_p3 (N : Nat) (a : (List UInt8)) (b : (List UInt8)) (i : Int) (k0 : Option Int) (k1 : Option Int) : Option Int :=
  cond (decide (i < (((List.length a) : Nat) : Int)))
  (cond (decide (i < (((List.length b) : Nat) : Int)))
    (k0)
    (k1))
  (k1)

noncomputable def porterref02_Compare_g3 (N : Nat) (x : denS [(0, .v .str), (0, .v .str), (3, .v (.int .i64))]) (K : Ex → List A → Option Int) : Option Int :=
  porterref02_Compare_p3 N x.1 x.2.1 x.2.2.1 (K .normal (mkS [(0, .v .str), (0, .v .str), (3, .v (.int .i64))] 36 (x.1, x.2.1, x.2.2.1, ()))) (K (.exit 0) (mkS [(0, .v .str), (0, .v .str)] 40 (x.1, x.2.1, ())))

noncomputable def porterref02_Compare_h3 (N : Nat) : Hd Int := fun st K => (unS [(0, .v .str), (0, .v .str), (3, .v (.int .i64))] 36 (restr [5, 0, 1] 0 st)).bind fun x => porterref02_Compare_g3 N x K

noncomputable def porterref02_Compare_t3 (N : Nat) : Tab Int := []

theorem porterref02_Compare_ok3 {N : Nat} {c : Ctx} (hb : Base Go.Proofs.Try.prog (porterref02_Compare_E N) c) : CodeOk Go.Proofs.Try.prog c (nodeAt porterref02_Compare_body [0, 0, 0, 1, 0, 1]) (porterref02_Compare_h3 N) :=
  piece_ok (s := [(0, .v .str), (0, .v .str), (3, .v (.int .i64))]) (m := 36) (g := porterref02_Compare_g3 N) [5, 0, 1] (evN_sound hb N (porterref02_Compare_t3 N) porterref02_Compare_L porterref02_Compare_body TabOk.nil [0, 0, 0, 1, 0, 1] _ rfl) (fun x K => by kernel_rfl)

noncomputable def porterref02_Compare_s2 (N : Nat) (a : (List UInt8)) (b : (List UInt8)) (i : Int) (rec : Int → Option Int) (k0 : Int → Option Int) (k1 : Option Int) : Option Int :=
  porterref02_Compare_p3 N a b i
  (cond (Go.Lift.inR i (List.length a))
    (cond (Go.Lift.inR i (List.length b))
      (cond (decide ((((UInt8.toNat (List.getD a (Int.toNat i) (0 : UInt8))) : Nat) : Int) < (((UInt8.toNat (List.getD b (Int.toNat i) (0 : UInt8))) : Nat) : Int)))
        (k0 (-(1 : Int)))
        (cond (Go.Lift.inR i (List.length a))
          (cond (Go.Lift.inR i (List.length b))
            (cond (decide ((((UInt8.toNat (List.getD b (Int.toNat i) (0 : UInt8))) : Nat) : Int) < (((UInt8.toNat (List.getD a (Int.toNat i) (0 : UInt8))) : Nat) : Int)))
              (k0 (1 : Int))
              (rec (Go.IntKind.wrap Go.IntKind.i64 (i + (1 : Int)))))
            (none))
          (none)))
      (none))
    (none))
  (k1)

noncomputable def porterref02_Compare_p2 (N : Nat) (a : (List UInt8)) (b : (List UInt8)) (i : Int) (k0 : Int → Option Int) (k1 : Option Int) : Option Int :=
  iter (fun (v : Int) r => porterref02_Compare_s2 N a b v (fun i => (r i)) k0 k1) N i

noncomputable def porterref02_Compare_g2 (N : Nat) (i : ((List UInt8) × (List UInt8))) (v : Int) (r : Int → Option Int) (K : Ex → List A → Option Int) : Option Int :=
  porterref02_Compare_s2 N i.1 i.2 v (fun i => (r i)) (fun a0 => (K .ret (mkS [(4, .v (.int .i64))] 37 (a0, ())))) (K (.exit 0) (mkS [(0, .v .str), (0, .v .str)] 40 (i.1, i.2, ())))

noncomputable def porterref02_Compare_h2 (N : Nat) : Hd Int := fun st K => (unS [(0, .v .str), (0, .v .str), (3, .v (.int .i64))] 36 (restr [5, 0, 1] 0 st)).bind fun x => iter (fun v r => porterref02_Compare_g2 N ((fun x => (x.1, x.2.1)) x) v r K) N ((fun x => x.2.2.1) x)

noncomputable def porterref02_Compare_t2 (N : Nat) : Tab Int := [([0, 0, 0, 1, 0, 1], porterref02_Compare_h3 N)]

theorem porterref02_Compare_ok2 {N : Nat} {c : Ctx} (hb : Base Go.Proofs.Try.prog (porterref02_Compare_E N) c) : CodeOk Go.Proofs.Try.prog c (nodeAt porterref02_Compare_body [0, 1, 0, 1]) (porterref02_Compare_h2 N) :=
  loop_ok (s := [(0, .v .str), (0, .v .str), (3, .v (.int .i64))]) (m := 36) (porterref02_Compare_g2 N) [5, 0, 1] N (fun x => (x.1, x.2.1)) (fun x => x.2.2.1) (fun i v => (i.1, i.2, v, ())) (fun _ => rfl) (evN_sound hb N (porterref02_Compare_t2 N) porterref02_Compare_L porterref02_Compare_body (TabOk.cons (porterref02_Compare_ok3 hb) TabOk.nil) [0, 0, 1, 0, 1] _ rfl) (fun i v r K => by kernel_rfl)

noncomputable def porterref02_Compare_p1 (N : Nat) (a : (List UInt8)) (b : (List UInt8)) (k0 : Int → Option Int) (k1 : Option Int) : Option Int :=
  porterref02_Compare_p2 N a b (0 : Int)
  (fun x4 => k0 x4)
  (k1)

noncomputable def porterref02_Compare_g1 (N : Nat) (x : denS [(0, .v .str), (0, .v .str)]) (K : Ex → List A → Option Int) : Option Int :=
  porterref02_Compare_p1 N x.1 x.2.1 (fun a0 => (K .ret (mkS [(4, .v (.int .i64))] 37 (a0, ())))) (K .normal (mkS [(0, .v .str), (0, .v .str)] 40 (x.1, x.2.1, ())))

noncomputable def porterref02_Compare_h1 (N : Nat) : Hd Int := fun st K => (unS [(0, .v .str), (0, .v .str)] 40 (restr [0, 1] 0 st)).bind fun x => porterref02_Compare_g1 N x K

noncomputable def porterref02_Compare_t1 (N : Nat) : Tab Int := [([0, 1, 0, 1], porterref02_Compare_h2 N)]

theorem porterref02_Compare_ok1 {N : Nat} {c : Ctx} (hb : Base Go.Proofs.Try.prog (porterref02_Compare_E N) c) : CodeOk Go.Proofs.Try.prog c (nodeAt porterref02_Compare_body [0, 1]) (porterref02_Compare_h1 N) :=
  piece_ok (s := [(0, .v .str), (0, .v .str)]) (m := 40) (g := porterref02_Compare_g1 N) [0, 1] (evN_sound hb N (porterref02_Compare_t1 N) porterref02_Compare_L porterref02_Compare_body (TabOk.cons (porterref02_Compare_ok2 hb) TabOk.nil) [0, 1] _ rfl) (fun x K => by kernel_rfl)

noncomputable def porterref02_Compare (N : Nat) (a : (List UInt8)) (b : (List UInt8)) : Option Int :=
  porterref02_Compare_p1 N a b
  (fun x4 => some x4)
  (cond (decide ((((List.length a) : Nat) : Int) < (((List.length b) : Nat) : Int)))
    (some (-(1 : Int)))
    (cond (decide ((((List.length b) : Nat) : Int) < (((List.length a) : Nat) : Int)))
      (some (1 : Int))
      (some (0 : Int))))

noncomputable def porterref02_Compare_t (N : Nat) : Tab Int := [([0, 1], porterref02_Compare_h1 N)]

theorem porterref02_Compare_link (N : Nat) (x : denS [(0, .v .str), (0, .v .str)]) : evFX (porterref02_Compare_E N) N (porterref02_Compare_t N) porterref02_Compare_L Go.Proofs.Try.f49 (mkS [(0, .v .str), (0, .v .str)] 0 x) (kRes (.v (.int .i64)) 2) = porterref02_Compare N x.1 x.2.1 := by kernel_rfl

noncomputable def porterref02_Compare_res (N : Nat) : List A → Res := resOf [(0, .v .str), (0, .v .str)] (fun x => porterref02_Compare N x.1 x.2.1) (oRes (.v (.int .i64)) 2)

theorem porterref02_Compare_ct (N : Nat) : Contract Go.Proofs.Try.prog noGlob 49 (porterref02_Compare_res N) :=
  Contract.of (E := porterref02_Compare_E N) (H := porterref02_Compare_t N) (L := porterref02_Compare_L) (N := N) (body := porterref02_Compare_body) (K := (kRes (.v (.int .i64)) 2)) (porterref02_Compare_Eok N) Go.Proofs.Try.func49 (by kernel_rfl) (by decide) (fun _ hb => (TabOk.cons (porterref02_Compare_ok1 hb) TabOk.nil)) (fun x y h => by rw [porterref02_Compare_link]; exact h) (kRes_ok (s := (.v (.int .i64))) (m := 2))

noncomputable def porterref38_Right_body : Code := (Go.Proofs.Try.f36.body).getD .skip

noncomputable def porterref38_Right_L : List (List Nat × List Nat) := [([0], [1]), ([0, 0, 1], [15, 1]), ([1, 0, 1], [1]), ([0, 0, 1, 0, 1], [2]), ([1, 0, 1, 0, 1], [2]), ([0, 0, 1, 1], [3, 1]), ([0, 1, 0, 1, 1], [3, 1]), ([0, 0, 0, 0, 1, 0, 1, 1], [20, 1, 3]), ([1, 0, 0, 0, 1, 0, 1, 1], [1, 3]), ([1, 1, 0, 0, 0, 1, 0, 1, 1], []), ([0, 0, 0, 1, 0, 0, 1, 0, 1, 1], [4, 3, 1]), ([0, 0, 1, 0, 0, 1, 0, 0, 1, 0, 1, 1], [66, 4, 3, 1]), ([1, 0, 1, 0, 0, 1, 0, 0, 1, 0, 1, 1], [4, 3, 1]), ([0, 0, 1, 0, 1, 0, 0, 1, 0, 0, 1, 0, 1, 1], [2]), ([1, 0, 1, 0, 1, 0, 0, 1, 0, 0, 1, 0, 1, 1], [2]), ([0, 1, 1, 0, 0, 1, 0, 0, 1, 0, 1, 1], [5, 4, 3, 1]), ([0, 1, 1, 1, 0, 0, 1, 0, 0, 1, 0, 1, 1], [5, 4, 3, 1]), ([0, 0, 0, 0, 1, 1, 1, 0, 0, 1, 0, 0, 1, 0, 1, 1], [71, 4, 5, 3, 1]), ([1, 0, 0, 0, 1, 1, 1, 0, 0, 1, 0, 0, 1, 0, 1, 1], [4, 5, 3, 1]), ([1, 1, 0, 0, 0, 1, 1, 1, 0, 0, 1, 0, 0, 1, 0, 1, 1], [3, 1]), ([0, 0, 0, 1, 0, 0, 1, 1, 1, 0, 0, 1, 0, 0, 1, 0, 1, 1], [121, 5, 4, 3, 1]), ([1, 0, 0, 1, 0, 0, 1, 1, 1, 0, 0, 1, 0, 0, 1, 0, 1, 1], [5, 4, 3, 1]), ([0, 0, 1, 0, 0, 1, 0, 0, 1, 1, 1, 0, 0, 1, 0, 0, 1, 0, 1, 1], [2]), ([1, 0, 1, 0, 0, 1, 0, 0, 1, 1, 1, 0, 0, 1, 0, 0, 1, 0, 1, 1], [2]), ([0, 1, 0, 0, 1, 1, 1, 0, 0, 1, 0, 0, 1, 0, 1, 1], [5, 4, 3, 1]), ([1, 1, 0, 0, 1, 1, 1, 0, 0, 1, 0, 0, 1, 0, 1, 1], [5, 4, 3, 1]), ([1, 1, 1, 0, 0, 1, 0, 0, 1, 0, 1, 1], [3, 1]), ([0, 1, 0, 0, 1, 0, 1, 1], [3, 1]), ([1, 1, 0, 0, 1, 0, 1, 1], [3, 1]), ([1, 0, 1, 1], []), ([0, 1, 1, 1], [2]), ([1, 1, 1, 1], [2])]

noncomputable def porterref38_Right_E (N : Nat) : Env := mkEnv tys noGlob [(49, porterref02_Compare_res N), (48, porterref09_Word_res N), (47, porterref38_in_res N)] [] [] [] false [] []

theorem porterref38_Right_Eok (N : Nat) : EnvOk Go.Proofs.Try.prog (porterref38_Right_E N) := mkEnv_ok mixed tys_ok (FnsOk.cons (porterref02_Compare_ct N) (FnsOk.cons (porterref09_Word_ct N) (FnsOk.cons (porterref38_in_ct N) (FnsOk.nil)))) (ItsOk.nil)

noncomputable def porterref38_Right_p2 (N : Nat) (s : ((List ((List UInt8) × (Int × (Int × ((List (Int × ((List UInt8) × Unit))) × Unit))))) × (Int × Unit))) (k0 : Bool → Option Bool) : Option Bool :=
  cond (decide ((16 : Int) < (((List.length s.1) : Nat) : Int)))
  (k0 true)
  ((porterref38_in N s.2.1 (0 : Int)).bind fun y =>
    k0 (!y))

noncomputable def porterref38_Right_g2 (N : Nat) (x : denS [(1, .box (.pair (.sl (.pair .str (.pair (.int .i64) (.pair (.int .i64) (.pair (.sl (.pair (.int .i64) (.pair .str .unit))) .unit))))) (.pair (.int .i64) .unit)))]) (K : Ex → List A → Option Bool) : Option Bool :=
  porterref38_Right_p2 N x.1 (fun a1 => (K .normal (mkS [(1, .box (.pair (.sl (.pair .str (.pair (.int .i64) (.pair (.int .i64) (.pair (.sl (.pair (.int .i64) (.pair .str .unit))) .unit))))) (.pair (.int .i64) .unit))), (13, .v .bool)] 106 (x.1, a1, ()))))

noncomputable def porterref38_Right_h2 (N : Nat) : Hd Bool := fun st K => (unS [(1, .box (.pair (.sl (.pair .str (.pair (.int .i64) (.pair (.int .i64) (.pair (.sl (.pair (.int .i64) (.pair .str .unit))) .unit))))) (.pair (.int .i64) .unit)))] 120 (restr [1] 0 st)).bind fun x => porterref38_Right_g2 N x K

noncomputable def porterref38_Right_t2 (N : Nat) : Tab Bool := []

theorem porterref38_Right_ok2 {N : Nat} {c : Ctx} (hb : Base Go.Proofs.Try.prog (porterref38_Right_E N) c) : CodeOk Go.Proofs.Try.prog c (nodeAt porterref38_Right_body [0, 0, 1]) (porterref38_Right_h2 N) :=
  piece_ok (s := [(1, .box (.pair (.sl (.pair .str (.pair (.int .i64) (.pair (.int .i64) (.pair (.sl (.pair (.int .i64) (.pair .str .unit))) .unit))))) (.pair (.int .i64) .unit)))]) (m := 120) (g := porterref38_Right_g2 N) [1] (evN_sound hb N (porterref38_Right_t2 N) porterref38_Right_L porterref38_Right_body TabOk.nil [0, 0, 1] _ rfl) (fun x K => by kernel_rfl)

noncomputable def porterref38_Right_p1 (N : Nat) (s : ((List ((List UInt8) × (Int × (Int × ((List (Int × ((List UInt8) × Unit))) × Unit))))) × (Int × Unit))) (k0 : Bool → Option Bool) (k1 : Option Bool) : Option Bool :=
  porterref38_Right_p2 N s
  (fun x15 => cond x15
    (k0 false)
    (k1))

noncomputable def porterref38_Right_g1 (N : Nat) (x : denS [(1, .box (.pair (.sl (.pair .str (.pair (.int .i64) (.pair (.int .i64) (.pair (.sl (.pair (.int .i64) (.pair .str .unit))) .unit))))) (.pair (.int .i64) .unit)))]) (K : Ex → List A → Option Bool) : Option Bool :=
  porterref38_Right_p1 N x.1 (fun a0 => (K .ret (mkS [(2, .v .bool)] 119 (a0, ())))) (K .normal (mkS [(1, .box (.pair (.sl (.pair .str (.pair (.int .i64) (.pair (.int .i64) (.pair (.sl (.pair (.int .i64) (.pair .str .unit))) .unit))))) (.pair (.int .i64) .unit)))] 120 (x.1, ())))

noncomputable def porterref38_Right_h1 (N : Nat) : Hd Bool := fun st K => (unS [(1, .box (.pair (.sl (.pair .str (.pair (.int .i64) (.pair (.int .i64) (.pair (.sl (.pair (.int .i64) (.pair .str .unit))) .unit))))) (.pair (.int .i64) .unit)))] 120 (restr [1] 0 st)).bind fun x => porterref38_Right_g1 N x K

noncomputable def porterref38_Right_t1 (N : Nat) : Tab Bool := [([0, 0, 1], porterref38_Right_h2 N)]

theorem porterref38_Right_ok1 {N : Nat} {c : Ctx} (hb : Base Go.Proofs.Try.prog (porterref38_Right_E N) c) : CodeOk Go.Proofs.Try.prog c (nodeAt porterref38_Right_body [0, 1]) (porterref38_Right_h1 N) :=
  piece_ok (s := [(1, .box (.pair (.sl (.pair .str (.pair (.int .i64) (.pair (.int .i64) (.pair (.sl (.pair (.int .i64) (.pair .str .unit))) .unit))))) (.pair (.int .i64) .unit)))]) (m := 120) (g := porterref38_Right_g1 N) [1] (evN_sound hb N (porterref38_Right_t1 N) porterref38_Right_L porterref38_Right_body (TabOk.cons (porterref38_Right_ok2 hb) TabOk.nil) [0, 1] _ rfl) (fun x K => by kernel_rfl)

noncomputable def porterref38_Right_p6 (N : Nat) (s : ((List ((List UInt8) × (Int × (Int × ((List (Int × ((List UInt8) × Unit))) × Unit))))) × (Int × Unit))) (i : Int) (t : ((List UInt8) × (Int × (Int × ((List (Int × ((List UInt8) × Unit))) × Unit))))) (k0 : Bool → Option Bool) : Option Bool :=
  (porterref09_Word N t.1).bind fun y =>
  cond (!y)
  (k0 true)
  ((porterref38_in N t.2.1 (0 : Int)).bind fun y1 =>
    cond (!y1)
    (k0 true)
    ((porterref38_in N t.2.2.1 (1 : Int)).bind fun y2 =>
      cond (!y2)
      (k0 true)
      (cond (decide ((8 : Int) < (((List.length t.2.2.2.1) : Nat) : Int)))
        (k0 true)
        (cond (decide ((0 : Int) < i))
          (cond (Go.Lift.inR (Go.IntKind.wrap Go.IntKind.i64 (i - (1 : Int))) (List.length s.1))
            ((porterref02_Compare N (List.getD s.1 (Int.toNat (Go.IntKind.wrap Go.IntKind.i64 (i - (1 : Int)))) (([] : List UInt8), ((0 : Int), ((0 : Int), (([] : List (Int × ((List UInt8) × Unit))), ()))))).1 t.1).bind fun y3 =>
              k0 (decide ((0 : Int) ≤ y3)))
            (none))
          (k0 false)))))

noncomputable def porterref38_Right_g6 (N : Nat) (x : denS [(1, .box (.pair (.sl (.pair .str (.pair (.int .i64) (.pair (.int .i64) (.pair (.sl (.pair (.int .i64) (.pair .str .unit))) .unit))))) (.pair (.int .i64) .unit))), (1, .v (.int .i64)), (0, .box (.pair .str (.pair (.int .i64) (.pair (.int .i64) (.pair (.sl (.pair (.int .i64) (.pair .str .unit))) .unit)))))]) (K : Ex → List A → Option Bool) : Option Bool :=
  porterref38_Right_p6 N x.1 x.2.1 x.2.2.1 (fun a3 => (K .normal (mkS [(1, .box (.pair (.sl (.pair .str (.pair (.int .i64) (.pair (.int .i64) (.pair (.sl (.pair (.int .i64) (.pair .str .unit))) .unit))))) (.pair (.int .i64) .unit))), (1, .v (.int .i64)), (0, .box (.pair .str (.pair (.int .i64) (.pair (.int .i64) (.pair (.sl (.pair (.int .i64) (.pair .str .unit))) .unit))))), (61, .v .bool)] 55 (x.1, x.2.1, x.2.2.1, a3, ()))))

noncomputable def porterref38_Right_h6 (N : Nat) : Hd Bool := fun st K => (unS [(1, .box (.pair (.sl (.pair .str (.pair (.int .i64) (.pair (.int .i64) (.pair (.sl (.pair (.int .i64) (.pair .str .unit))) .unit))))) (.pair (.int .i64) .unit))), (1, .v (.int .i64)), (0, .box (.pair .str (.pair (.int .i64) (.pair (.int .i64) (.pair (.sl (.pair (.int .i64) (.pair .str .unit))) .unit)))))] 117 (restr [4, 3, 1] 0 st)).bind fun x => porterref38_Right_g6 N x K

noncomputable def porterref38_Right_t6 (N : Nat) : Tab Bool := []

theorem porterref38_Right_ok6 {N : Nat} {c : Ctx} (hb : Base Go.Proofs.Try.prog (porterref38_Right_E N) c) : CodeOk Go.Proofs.Try.prog c (nodeAt porterref38_Right_body [0, 0, 1, 0, 0, 1, 0, 0, 1, 0, 1, 1]) (porterref38_Right_h6 N) :=
  piece_ok (s := [(1, .box (.pair (.sl (.pair .str (.pair (.int .i64) (.pair (.int .i64) (.pair (.sl (.pair (.int .i64) (.pair .str .unit))) .unit))))) (.pair (.int .i64) .unit))), (1, .v (.int .i64)), (0, .box (.pair .str (.pair (.int .i64) (.pair (.int .i64) (.pair (.sl (.pair (.int .i64) (.pair .str .unit))) .unit)))))]) (m := 117) (g := porterref38_Right_g6 N) [4, 3, 1] (evN_sound hb N (porterref38_Right_t6 N) porterref38_Right_L porterref38_Right_body TabOk.nil [0, 0, 1, 0, 0, 1, 0, 0, 1, 0, 1, 1] _ rfl) (fun x K => by kernel_rfl)

noncomputable def porterref38_Right_p5 (N : Nat) (s : ((List ((List UInt8) × (Int × (Int × ((List (Int × ((List UInt8) × Unit))) × Unit))))) × (Int × Unit))) (i : Int) (t : ((List UInt8) × (Int × (Int × ((List (Int × ((List UInt8) × Unit))) × Unit))))) (k0 : Bool → Option Bool) (k1 : Option Bool) : Option Bool :=
  porterref38_Right_p6 N s i t
  (fun x66 => cond x66
    (k0 false)
    (k1))

noncomputable def porterref38_Right_g5 (N : Nat) (x : denS [(1, .box (.pair (.sl (.pair .str (.pair (.int .i64) (.pair (.int .i64) (.pair (.sl (.pair (.int .i64) (.pair .str .unit))) .unit))))) (.pair (.int .i64) .unit))), (1, .v (.int .i64)), (0, .box (.pair .str (.pair (.int .i64) (.pair (.int .i64) (.pair (.sl (.pair (.int .i64) (.pair .str .unit))) .unit)))))]) (K : Ex → List A → Option Bool) : Option Bool :=
  porterref38_Right_p5 N x.1 x.2.1 x.2.2.1 (fun a0 => (K .ret (mkS [(2, .v .bool)] 119 (a0, ())))) (K .normal (mkS [(1, .box (.pair (.sl (.pair .str (.pair (.int .i64) (.pair (.int .i64) (.pair (.sl (.pair (.int .i64) (.pair .str .unit))) .unit))))) (.pair (.int .i64) .unit))), (1, .v (.int .i64)), (0, .box (.pair .str (.pair (.int .i64) (.pair (.int .i64) (.pair (.sl (.pair (.int .i64) (.pair .str .unit))) .unit)))))] 117 (x.1, x.2.1, x.2.2.1, ())))

noncomputable def porterref38_Right_h5 (N : Nat) : Hd Bool := fun st K => (unS [(1, .box (.pair (.sl (.pair .str (.pair (.int .i64) (.pair (.int .i64) (.pair (.sl (.pair (.int .i64) (.pair .str .unit))) .unit))))) (.pair (.int .i64) .unit))), (1, .v (.int .i64)), (0, .box (.pair .str (.pair (.int .i64) (.pair (.int .i64) (.pair (.sl (.pair (.int .i64) (.pair .str .unit))) .unit)))))] 117 (restr [4, 3, 1] 0 st)).bind fun x => porterref38_Right_g5 N x K

noncomputable def porterref38_Right_t5 (N : Nat) : Tab Bool := [([0, 0, 1, 0, 0, 1, 0, 0, 1, 0, 1, 1], porterref38_Right_h6 N)]

theorem porterref38_Right_ok5 {N : Nat} {c : Ctx} (hb : Base Go.Proofs.Try.prog (porterref38_Right_E N) c) : CodeOk Go.Proofs.Try.prog c (nodeAt porterref38_Right_body [0, 1, 0, 0, 1, 0, 0, 1, 0, 1, 1]) (porterref38_Right_h5 N) :=
  piece_ok (s := [(1, .box (.pair (.sl (.pair .str (.pair (.int .i64) (.pair (.int .i64) (.pair (.sl (.pair (.int .i64) (.pair .str .unit))) .unit))))) (.pair (.int .i64) .unit))), (1, .v (.int .i64)), (0, .box (.pair .str (.pair (.int .i64) (.pair (.int .i64) (.pair (.sl (.pair (.int .i64) (.pair .str .unit))) .unit)))))]) (m := 117) (g := porterref38_Right_g5 N) [4, 3, 1] (evN_sound hb N (porterref38_Right_t5 N) porterref38_Right_L porterref38_Right_body (TabOk.cons (porterref38_Right_ok6 hb) TabOk.nil) [0, 1, 0, 0, 1, 0, 0, 1, 0, 1, 1] _ rfl) (fun x K => by kernel_rfl)

noncomputable def porterref38_Right_p9 (N : Nat) (s : ((List ((List UInt8) × (Int × (Int × ((List (Int × ((List UInt8) × Unit))) × Unit))))) × (Int × Unit))) (i : Int) (t : ((List UInt8) × (Int × (Int × ((List (Int × ((List UInt8) × Unit))) × Unit))))) (k : Int) (k0 : Bool → Option Bool) : Option Bool :=
  cond (Go.Lift.inR k (List.length t.2.2.2.1))
  (cond (decide ((List.getD t.2.2.2.1 (Int.toNat k) ((0 : Int), (([] : List UInt8), ()))).1 < (1 : Int)))
    (k0 true)
    (cond (Go.Lift.inR k (List.length t.2.2.2.1))
      (cond (decide (t.2.2.1 ≤ (List.getD t.2.2.2.1 (Int.toNat k) ((0 : Int), (([] : List UInt8), ()))).1))
        (k0 true)
        (cond (Go.Lift.inR k (List.length t.2.2.2.1))
          (cond ((((List.length (List.getD t.2.2.2.1 (Int.toNat k) ((0 : Int), (([] : List UInt8), ()))).2.1) : Nat) : Int) != (32 : Int))
            (k0 true)
            (cond (decide ((0 : Int) < k))
              (cond (Go.Lift.inR (Go.IntKind.wrap Go.IntKind.i64 (k - (1 : Int))) (List.length t.2.2.2.1))
                (cond (Go.Lift.inR k (List.length t.2.2.2.1))
                  (k0 (decide ((List.getD t.2.2.2.1 (Int.toNat k) ((0 : Int), (([] : List UInt8), ()))).1 ≤ (List.getD t.2.2.2.1 (Int.toNat (Go.IntKind.wrap Go.IntKind.i64 (k - (1 : Int)))) ((0 : Int), (([] : List UInt8), ()))).1)))
                  (none))
                (none))
              (k0 false)))
          (none)))
      (none)))
  (none)

noncomputable def porterref38_Right_g9 (N : Nat) (x : denS [(1, .box (.pair (.sl (.pair .str (.pair (.int .i64) (.pair (.int .i64) (.pair (.sl (.pair (.int .i64) (.pair .str .unit))) .unit))))) (.pair (.int .i64) .unit))), (1, .v (.int .i64)), (0, .box (.pair .str (.pair (.int .i64) (.pair (.int .i64) (.pair (.sl (.pair (.int .i64) (.pair .str .unit))) .unit))))), (0, .v (.int .i64))]) (K : Ex → List A → Option Bool) : Option Bool :=
  porterref38_Right_p9 N x.1 x.2.1 x.2.2.1 x.2.2.2.1 (fun a4 => (K .normal (mkS [(1, .box (.pair (.sl (.pair .str (.pair (.int .i64) (.pair (.int .i64) (.pair (.sl (.pair (.int .i64) (.pair .str .unit))) .unit))))) (.pair (.int .i64) .unit))), (1, .v (.int .i64)), (0, .box (.pair .str (.pair (.int .i64) (.pair (.int .i64) (.pair (.sl (.pair (.int .i64) (.pair .str .unit))) .unit))))), (0, .v (.int .i64)), (115, .v .bool)] 0 (x.1, x.2.1, x.2.2.1, x.2.2.2.1, a4, ()))))

noncomputable def porterref38_Right_h9 (N : Nat) : Hd Bool := fun st K => (unS [(1, .box (.pair (.sl (.pair .str (.pair (.int .i64) (.pair (.int .i64) (.pair (.sl (.pair (.int .i64) (.pair .str .unit))) .unit))))) (.pair (.int .i64) .unit))), (1, .v (.int .i64)), (0, .box (.pair .str (.pair (.int .i64) (.pair (.int .i64) (.pair (.sl (.pair (.int .i64) (.pair .str .unit))) .unit))))), (0, .v (.int .i64))] 116 (restr [4, 5, 3, 1] 0 st)).bind fun x => porterref38_Right_g9 N x K

noncomputable def porterref38_Right_t9 (N : Nat) : Tab Bool := []

theorem porterref38_Right_ok9 {N : Nat} {c : Ctx} (hb : Base Go.Proofs.Try.prog (porterref38_Right_E N) c) : CodeOk Go.Proofs.Try.prog c (nodeAt porterref38_Right_body [0, 0, 0, 1, 0, 0, 1, 1, 1, 0, 0, 1, 0, 0, 1, 0, 1, 1]) (porterref38_Right_h9 N) :=
  piece_ok (s := [(1, .box (.pair (.sl (.pair .str (.pair (.int .i64) (.pair (.int .i64) (.pair (.sl (.pair (.int .i64) (.pair .str .unit))) .unit))))) (.pair (.int .i64) .unit))), (1, .v (.int .i64)), (0, .box (.pair .str (.pair (.int .i64) (.pair (.int .i64) (.pair (.sl (.pair (.int .i64) (.pair .str .unit))) .unit))))), (0, .v (.int .i64))]) (m := 116) (g := porterref38_Right_g9 N) [4, 5, 3, 1] (evN_sound hb N (porterref38_Right_t9 N) porterref38_Right_L porterref38_Right_body TabOk.nil [0, 0, 0, 1, 0, 0, 1, 1, 1, 0, 0, 1, 0, 0, 1, 0, 1, 1] _ rfl) (fun x K => by kernel_rfl)

noncomputable def porterref38_Right_p8 (N : Nat) (s : ((List ((List UInt8) × (Int × (Int × ((List (Int × ((List UInt8) × Unit))) × Unit))))) × (Int × Unit))) (i : Int) (t : ((List UInt8) × (Int × (Int × ((List (Int × ((List UInt8) × Unit))) × Unit))))) (k : Int) (k0 : Bool → Option Bool) (k1 : Option Bool) : Option Bool :=
  porterref38_Right_p9 N s i t k
  (fun x121 => cond x121
    (k0 false)
    (k1))

noncomputable def porterref38_Right_g8 (N : Nat) (x : denS [(1, .box (.pair (.sl (.pair .str (.pair (.int .i64) (.pair (.int .i64) (.pair (.sl (.pair (.int .i64) (.pair .str .unit))) .unit))))) (.pair (.int .i64) .unit))), (1, .v (.int .i64)), (0, .box (.pair .str (.pair (.int .i64) (.pair (.int .i64) (.pair (.sl (.pair (.int .i64) (.pair .str .unit))) .unit))))), (0, .v (.int .i64))]) (K : Ex → List A → Option Bool) : Option Bool :=
  porterref38_Right_p8 N x.1 x.2.1 x.2.2.1 x.2.2.2.1 (fun a0 => (K .ret (mkS [(2, .v .bool)] 119 (a0, ())))) (K .normal (mkS [(1, .box (.pair (.sl (.pair .str (.pair (.int .i64) (.pair (.int .i64) (.pair (.sl (.pair (.int .i64) (.pair .str .unit))) .unit))))) (.pair (.int .i64) .unit))), (1, .v (.int .i64)), (0, .box (.pair .str (.pair (.int .i64) (.pair (.int .i64) (.pair (.sl (.pair (.int .i64) (.pair .str .unit))) .unit))))), (0, .v (.int .i64))] 116 (x.1, x.2.1, x.2.2.1, x.2.2.2.1, ())))

noncomputable def porterref38_Right_h8 (N : Nat) : Hd Bool := fun st K => (unS [(1, .box (.pair (.sl (.pair .str (.pair (.int .i64) (.pair (.int .i64) (.pair (.sl (.pair (.int .i64) (.pair .str .unit))) .unit))))) (.pair (.int .i64) .unit))), (1, .v (.int .i64)), (0, .box (.pair .str (.pair (.int .i64) (.pair (.int .i64) (.pair (.sl (.pair (.int .i64) (.pair .str .unit))) .unit))))), (0, .v (.int .i64))] 116 (restr [4, 5, 3, 1] 0 st)).bind fun x => porterref38_Right_g8 N x K

noncomputable def porterref38_Right_t8 (N : Nat) : Tab Bool := [([0, 0, 0, 1, 0, 0, 1, 1, 1, 0, 0, 1, 0, 0, 1, 0, 1, 1], porterref38_Right_h9 N)]

theorem porterref38_Right_ok8 {N : Nat} {c : Ctx} (hb : Base Go.Proofs.Try.prog (porterref38_Right_E N) c) : CodeOk Go.Proofs.Try.prog c (nodeAt porterref38_Right_body [0, 1, 0, 0, 1, 1, 1, 0, 0, 1, 0, 0, 1, 0, 1, 1]) (porterref38_Right_h8 N) :=
  piece_ok (s := [(1, .box (.pair (.sl (.pair .str (.pair (.int .i64) (.pair (.int .i64) (.pair (.sl (.pair (.int .i64) (.pair .str .unit))) .unit))))) (.pair (.int .i64) .unit))), (1, .v (.int .i64)), (0, .box (.pair .str (.pair (.int .i64) (.pair (.int .i64) (.pair (.sl (.pair (.int .i64) (.pair .str .unit))) .unit))))), (0, .v (.int .i64))]) (m := 116) (g := porterref38_Right_g8 N) [4, 5, 3, 1] (evN_sound hb N (porterref38_Right_t8 N) porterref38_Right_L porterref38_Right_body (TabOk.cons (porterref38_Right_ok9 hb) TabOk.nil) [0, 1, 0, 0, 1, 1, 1, 0, 0, 1, 0, 0, 1, 0, 1, 1] _ rfl) (fun x K => by kernel_rfl)

noncomputable def porterref38_Right_s7 (N : Nat) (s : ((List ((List UInt8) × (Int × (Int × ((List (Int × ((List UInt8) × Unit))) × Unit))))) × (Int × Unit))) (i : Int) (t : ((List UInt8) × (Int × (Int × ((List (Int × ((List UInt8) × Unit))) × Unit))))) (k : Int) (rec : Int → Option Bool) (k0 : Bool → Option Bool) (k1 : Option Bool) : Option Bool :=
  cond (decide (k < (((List.length t.2.2.2.1) : Nat) : Int)))
  (porterref38_Right_p8 N s i t k
    (fun x2 => k0 x2)
    (rec (Go.IntKind.wrap Go.IntKind.i64 (k + (1 : Int)))))
  (k1)

noncomputable def porterref38_Right_p7 (N : Nat) (s : ((List ((List UInt8) × (Int × (Int × ((List (Int × ((List UInt8) × Unit))) × Unit))))) × (Int × Unit))) (i : Int) (t : ((List UInt8) × (Int × (Int × ((List (Int × ((List UInt8) × Unit))) × Unit))))) (k : Int) (k0 : Bool → Option Bool) (k1 : Option Bool) : Option Bool :=
  iter (fun (v : Int) r => porterref38_Right_s7 N s i t v (fun k => (r k)) k0 k1) N k

noncomputable def porterref38_Right_g7 (N : Nat) (i : (((List ((List UInt8) × (Int × (Int × ((List (Int × ((List UInt8) × Unit))) × Unit))))) × (Int × Unit)) × Int × ((List UInt8) × (Int × (Int × ((List (Int × ((List UInt8) × Unit))) × Unit)))))) (v : Int) (r : Int → Option Bool) (K : Ex → List A → Option Bool) : Option Bool :=
  porterref38_Right_s7 N i.1 i.2.1 i.2.2 v (fun k => (r k)) (fun a0 => (K .ret (mkS [(2, .v .bool)] 119 (a0, ())))) (K (.exit 2) (mkS [(1, .box (.pair (.sl (.pair .str (.pair (.int .i64) (.pair (.int .i64) (.pair (.sl (.pair (.int .i64) (.pair .str .unit))) .unit))))) (.pair (.int .i64) .unit))), (1, .v (.int .i64))] 118 (i.1, i.2.1, ())))

noncomputable def porterref38_Right_h7 (N : Nat) : Hd Bool := fun st K => (unS [(1, .box (.pair (.sl (.pair .str (.pair (.int .i64) (.pair (.int .i64) (.pair (.sl (.pair (.int .i64) (.pair .str .unit))) .unit))))) (.pair (.int .i64) .unit))), (1, .v (.int .i64)), (0, .box (.pair .str (.pair (.int .i64) (.pair (.int .i64) (.pair (.sl (.pair (.int .i64) (.pair .str .unit))) .unit))))), (0, .v (.int .i64))] 116 (restr [5, 4, 3, 1] 0 st)).bind fun x => iter (fun v r => porterref38_Right_g7 N ((fun x => (x.1, x.2.1, x.2.2.1)) x) v r K) N ((fun x => x.2.2.2.1) x)

noncomputable def porterref38_Right_t7 (N : Nat) : Tab Bool := [([0, 1, 0, 0, 1, 1, 1, 0, 0, 1, 0, 0, 1, 0, 1, 1], porterref38_Right_h8 N)]

theorem porterref38_Right_ok7 {N : Nat} {c : Ctx} (hb : Base Go.Proofs.Try.prog (porterref38_Right_E N) c) : CodeOk Go.Proofs.Try.prog c (nodeAt porterref38_Right_body [0, 1, 1, 1, 0, 0, 1, 0, 0, 1, 0, 1, 1]) (porterref38_Right_h7 N) :=
  loop_ok (s := [(1, .box (.pair (.sl (.pair .str (.pair (.int .i64) (.pair (.int .i64) (.pair (.sl (.pair (.int .i64) (.pair .str .unit))) .unit))))) (.pair (.int .i64) .unit))), (1, .v (.int .i64)), (0, .box (.pair .str (.pair (.int .i64) (.pair (.int .i64) (.pair (.sl (.pair (.int .i64) (.pair .str .unit))) .unit))))), (0, .v (.int .i64))]) (m := 116) (porterref38_Right_g7 N) [5, 4, 3, 1] N (fun x => (x.1, x.2.1, x.2.2.1)) (fun x => x.2.2.2.1) (fun i v => (i.1, i.2.1, i.2.2, v, ())) (fun _ => rfl) (evN_sound hb N (porterref38_Right_t7 N) porterref38_Right_L porterref38_Right_body (TabOk.cons (porterref38_Right_ok8 hb) TabOk.nil) [0, 0, 1, 1, 1, 0, 0, 1, 0, 0, 1, 0, 1, 1] _ rfl) (fun i v r K => by kernel_rfl)

noncomputable def porterref38_Right_p4 (N : Nat) (s : ((List ((List UInt8) × (Int × (Int × ((List (Int × ((List UInt8) × Unit))) × Unit))))) × (Int × Unit))) (i : Int) (k0 : Bool → Option Bool) (k1 : Option Bool) : Option Bool :=
  cond (Go.Lift.inR i (List.length s.1))
  (porterref38_Right_p5 N s i (List.getD s.1 (Int.toNat i) (([] : List UInt8), ((0 : Int), ((0 : Int), (([] : List (Int × ((List UInt8) × Unit))), ())))))
    (fun x2 => k0 x2)
    (porterref38_Right_p7 N s i (List.getD s.1 (Int.toNat i) (([] : List UInt8), ((0 : Int), ((0 : Int), (([] : List (Int × ((List UInt8) × Unit))), ()))))) (0 : Int)
      (fun x21 => k0 x21)
      (k1)))
  (none)

noncomputable def porterref38_Right_g4 (N : Nat) (x : denS [(1, .box (.pair (.sl (.pair .str (.pair (.int .i64) (.pair (.int .i64) (.pair (.sl (.pair (.int .i64) (.pair .str .unit))) .unit))))) (.pair (.int .i64) .unit))), (1, .v (.int .i64))]) (K : Ex → List A → Option Bool) : Option Bool :=
  porterref38_Right_p4 N x.1 x.2.1 (fun a0 => (K .ret (mkS [(2, .v .bool)] 119 (a0, ())))) (K .normal (mkS [(1, .box (.pair (.sl (.pair .str (.pair (.int .i64) (.pair (.int .i64) (.pair (.sl (.pair (.int .i64) (.pair .str .unit))) .unit))))) (.pair (.int .i64) .unit))), (1, .v (.int .i64))] 118 (x.1, x.2.1, ())))

noncomputable def porterref38_Right_h4 (N : Nat) : Hd Bool := fun st K => (unS [(1, .box (.pair (.sl (.pair .str (.pair (.int .i64) (.pair (.int .i64) (.pair (.sl (.pair (.int .i64) (.pair .str .unit))) .unit))))) (.pair (.int .i64) .unit))), (1, .v (.int .i64))] 118 (restr [1, 3] 0 st)).bind fun x => porterref38_Right_g4 N x K

noncomputable def porterref38_Right_t4 (N : Nat) : Tab Bool := [([0, 1, 0, 0, 1, 0, 0, 1, 0, 1, 1], porterref38_Right_h5 N), ([0, 1, 1, 1, 0, 0, 1, 0, 0, 1, 0, 1, 1], porterref38_Right_h7 N)]

theorem porterref38_Right_ok4 {N : Nat} {c : Ctx} (hb : Base Go.Proofs.Try.prog (porterref38_Right_E N) c) : CodeOk Go.Proofs.Try.prog c (nodeAt porterref38_Right_body [0, 1, 0, 0, 1, 0, 1, 1]) (porterref38_Right_h4 N) :=
  piece_ok (s := [(1, .box (.pair (.sl (.pair .str (.pair (.int .i64) (.pair (.int .i64) (.pair (.sl (.pair (.int .i64) (.pair .str .unit))) .unit))))) (.pair (.int .i64) .unit))), (1, .v (.int .i64))]) (m := 118) (g := porterref38_Right_g4 N) [1, 3] (evN_sound hb N (porterref38_Right_t4 N) porterref38_Right_L porterref38_Right_body (TabOk.cons (porterref38_Right_ok5 hb) (TabOk.cons (porterref38_Right_ok7 hb) TabOk.nil)) [0, 1, 0, 0, 1, 0, 1, 1] _ rfl) (fun x K => by kernel_rfl)

noncomputable def porterref38_Right_s3 (N : Nat) (s : ((List ((List UInt8) × (Int × (Int × ((List (Int × ((List UInt8) × Unit))) × Unit))))) × (Int × Unit))) (i : Int) (rec : Int → Option Bool) (k0 : Bool → Option Bool) (k1 : Option Bool) : Option Bool :=
  cond (decide (i < (((List.length s.1) : Nat) : Int)))
  (porterref38_Right_p4 N s i
    (fun x2 => k0 x2)
    (rec (Go.IntKind.wrap Go.IntKind.i64 (i + (1 : Int)))))
  (k1)

noncomputable def porterref38_Right_p3 (N : Nat) (s : ((List ((List UInt8) × (Int × (Int × ((List (Int × ((List UInt8) × Unit))) × Unit))))) × (Int × Unit))) (i : Int) (k0 : Bool → Option Bool) (k1 : Option Bool) : Option Bool :=
  iter (fun (v : Int) r => porterref38_Right_s3 N s v (fun i => (r i)) k0 k1) N i

noncomputable def porterref38_Right_g3 (N : Nat) (i : ((List ((List UInt8) × (Int × (Int × ((List (Int × ((List UInt8) × Unit))) × Unit))))) × (Int × Unit))) (v : Int) (r : Int → Option Bool) (K : Ex → List A → Option Bool) : Option Bool :=
  porterref38_Right_s3 N i v (fun i => (r i)) (fun a0 => (K .ret (mkS [(2, .v .bool)] 119 (a0, ())))) (K (.exit 0) (mkS [] 122 ()))

noncomputable def porterref38_Right_h3 (N : Nat) : Hd Bool := fun st K => (unS [(1, .box (.pair (.sl (.pair .str (.pair (.int .i64) (.pair (.int .i64) (.pair (.sl (.pair (.int .i64) (.pair .str .unit))) .unit))))) (.pair (.int .i64) .unit))), (1, .v (.int .i64))] 118 (restr [3, 1] 0 st)).bind fun x => iter (fun v r => porterref38_Right_g3 N ((fun x => x.1) x) v r K) N ((fun x => x.2.1) x)

noncomputable def porterref38_Right_t3 (N : Nat) : Tab Bool := [([0, 1, 0, 0, 1, 0, 1, 1], porterref38_Right_h4 N)]

theorem porterref38_Right_ok3 {N : Nat} {c : Ctx} (hb : Base Go.Proofs.Try.prog (porterref38_Right_E N) c) : CodeOk Go.Proofs.Try.prog c (nodeAt porterref38_Right_body [0, 1, 0, 1, 1]) (porterref38_Right_h3 N) :=
  loop_ok (s := [(1, .box (.pair (.sl (.pair .str (.pair (.int .i64) (.pair (.int .i64) (.pair (.sl (.pair (.int .i64) (.pair .str .unit))) .unit))))) (.pair (.int .i64) .unit))), (1, .v (.int .i64))]) (m := 118) (porterref38_Right_g3 N) [3, 1] N (fun x => x.1) (fun x => x.2.1) (fun i v => (i, v, ())) (fun _ => rfl) (evN_sound hb N (porterref38_Right_t3 N) porterref38_Right_L porterref38_Right_body (TabOk.cons (porterref38_Right_ok4 hb) TabOk.nil) [0, 0, 1, 0, 1, 1] _ rfl) (fun i v r K => by kernel_rfl)

noncomputable def porterref38_Right (N : Nat) (s : ((List ((List UInt8) × (Int × (Int × ((List (Int × ((List UInt8) × Unit))) × Unit))))) × (Int × Unit))) : Option Bool :=
  porterref38_Right_p1 N s
  (fun x2 => some x2)
  (porterref38_Right_p3 N s (0 : Int)
    (fun x21 => some x21)
    (some true))

noncomputable def porterref38_Right_t (N : Nat) : Tab Bool := [([0, 1], porterref38_Right_h1 N), ([0, 1, 0, 1, 1], porterref38_Right_h3 N)]

theorem porterref38_Right_link (N : Nat) (x : denS [(0, .v (.pair (.sl (.pair .str (.pair (.int .i64) (.pair (.int .i64) (.pair (.sl (.pair (.int .i64) (.pair .str .unit))) .unit))))) (.pair (.int .i64) .unit)))]) : evFX (porterref38_Right_E N) N (porterref38_Right_t N) porterref38_Right_L Go.Proofs.Try.f36 (mkS [(0, .v (.pair (.sl (.pair .str (.pair (.int .i64) (.pair (.int .i64) (.pair (.sl (.pair (.int .i64) (.pair .str .unit))) .unit))))) (.pair (.int .i64) .unit)))] 0 x) (kRes (.v .bool) 1) = porterref38_Right N x.1 := by kernel_rfl

noncomputable def porterref38_Right_res (N : Nat) : List A → Res := resOf [(0, .v (.pair (.sl (.pair .str (.pair (.int .i64) (.pair (.int .i64) (.pair (.sl (.pair (.int .i64) (.pair .str .unit))) .unit))))) (.pair (.int .i64) .unit)))] (fun x => porterref38_Right N x.1) (oRes (.v .bool) 1)

theorem porterref38_Right_ct (N : Nat) : Contract Go.Proofs.Try.prog noGlob 36 (porterref38_Right_res N) :=
  Contract.of (E := porterref38_Right_E N) (H := porterref38_Right_t N) (L := porterref38_Right_L) (N := N) (body := porterref38_Right_body) (K := (kRes (.v .bool) 1)) (porterref38_Right_Eok N) Go.Proofs.Try.func36 (by kernel_rfl) (by decide) (fun _ hb => (TabOk.cons (porterref38_Right_ok1 hb) (TabOk.cons (porterref38_Right_ok3 hb) TabOk.nil))) (fun x y h => by rw [porterref38_Right_link]; exact h) (kRes_ok (s := (.v .bool)) (m := 1))

noncomputable def porterref40_Image_body : Code := (Go.Proofs.Try.f23.body).getD .skip

noncomputable def porterref40_Image_L : List (List Nat × List Nat) := [([0], [1]), ([0, 0, 1], [9, 1]), ([1, 0, 1], [1]), ([0, 0, 1, 0, 1], [2]), ([1, 0, 1, 0, 1], [2]), ([0, 1, 1], [1, 3]), ([0, 0, 1, 1, 1], [4, 1, 3]), ([0, 1, 0, 1, 1, 1], [4, 1, 3]), ([0, 0, 0, 0, 1, 0, 1, 1, 1], [14, 1, 4, 3]), ([1, 0, 0, 0, 1, 0, 1, 1, 1], [1, 4, 3]), ([1, 1, 0, 0, 0, 1, 0, 1, 1, 1], [3, 1]), ([0, 0, 0, 1, 0, 0, 1, 0, 1, 1, 1], [3, 5, 4, 1]), ([0, 1, 0, 0, 1, 0, 0, 1, 0, 1, 1, 1], [5, 3, 4, 1]), ([0, 1, 1, 0, 0, 1, 0, 0, 1, 0, 1, 1, 1], [6, 5, 3, 4, 1]), ([0, 1, 1, 1, 0, 0, 1, 0, 0, 1, 0, 1, 1, 1], [6, 5, 3, 4, 1]), ([0, 0, 0, 0, 1, 1, 1, 0, 0, 1, 0, 0, 1, 0, 1, 1, 1], [36, 3, 5, 6, 4, 1]), ([1, 0, 0, 0, 1, 1, 1, 0, 0, 1, 0, 0, 1, 0, 1, 1, 1], [3, 5, 6, 4, 1]), ([1, 1, 0, 0, 0, 1, 1, 1, 0, 0, 1, 0, 0, 1, 0, 1, 1, 1], [4, 1, 3]), ([0, 0, 1, 0, 0, 1, 1, 1, 0, 0, 1, 0, 0, 1, 0, 1, 1, 1], [6, 5, 3, 4, 1]), ([0, 1, 0, 0, 1, 1, 1, 0, 0, 1, 0, 0, 1, 0, 1, 1, 1], [6, 5, 3, 4, 1]), ([1, 1, 0, 0, 1, 1, 1, 0, 0, 1, 0, 0, 1, 0, 1, 1, 1], [6, 5, 3, 4, 1]), ([1, 1, 1, 0, 0, 1, 0, 0, 1, 0, 1, 1, 1], [4, 1, 3]), ([0, 1, 0, 0, 1, 0, 1, 1, 1], [4, 1, 3]), ([1, 1, 0, 0, 1, 0, 1, 1, 1], [4, 1, 3]), ([1, 0, 1, 1, 1], [3, 1]), ([0, 1, 1, 1, 1], [2]), ([1, 1, 1, 1, 1], [2])]

noncomputable def porterref40_Image_E (N : Nat) : Env := mkEnv tys noGlob [(36, porterref38_Right_res N)] [(3, (.pair (.int .i64) (.pair .str (.pair (.int .i64) (.pair (.int .i64) (.pair .str .unit)))))), (2, (.pair (.int .i64) (.pair .str (.pair (.int .i64) (.pair (.int .i64) (.pair .str .unit))))))] [] [] false [] []

theorem porterref40_Image_Eok (N : Nat) : EnvOk Go.Proofs.Try.prog (porterref40_Image_E N) := mkEnv_ok mixed tys_ok (FnsOk.cons (porterref38_Right_ct N) (FnsOk.nil)) (ItsOk.nil)

noncomputable def porterref40_Image_s2 (N : Nat) (s : ((List ((List UInt8) × (Int × (Int × ((List (Int × ((List UInt8) × Unit))) × Unit))))) × (Int × Unit))) (i : Int) (t : ((List UInt8) × (Int × (Int × ((List (Int × ((List UInt8) × Unit))) × Unit))))) (out : (List (Int × ((List UInt8) × (Int × (Int × ((List UInt8) × Unit))))))) (k : Int) (rec : (List (Int × ((List UInt8) × (Int × (Int × ((List UInt8) × Unit)))))) → Int → Option (List (Int × ((List UInt8) × (Int × (Int × ((List UInt8) × Unit))))))) (k0 : (List (Int × ((List UInt8) × (Int × (Int × ((List UInt8) × Unit)))))) → Option (List (Int × ((List UInt8) × (Int × (Int × ((List UInt8) × Unit))))))) : Option (List (Int × ((List UInt8) × (Int × (Int × ((List UInt8) × Unit)))))) :=
  cond (decide (k < (((List.length t.2.2.2.1) : Nat) : Int)))
  (cond (Go.Lift.inR k (List.length t.2.2.2.1))
    (cond (Go.Lift.inR k (List.length t.2.2.2.1))
      (cond (decide ((((List.length out) + 1) * 56) ≤ 70368744177664))
        (rec (out ++ ([((2 : Int), (t.1, ((List.getD t.2.2.2.1 (Int.toNat k) ((0 : Int), (([] : List UInt8), ()))).1, ((0 : Int), ((List.getD t.2.2.2.1 (Int.toNat k) ((0 : Int), (([] : List UInt8), ()))).2.1, ())))))] : List (Int × ((List UInt8) × (Int × (Int × ((List UInt8) × Unit))))))) (Go.IntKind.wrap Go.IntKind.i64 (k + (1 : Int))))
        (none))
      (none))
    (none))
  (k0 out)

noncomputable def porterref40_Image_p2 (N : Nat) (s : ((List ((List UInt8) × (Int × (Int × ((List (Int × ((List UInt8) × Unit))) × Unit))))) × (Int × Unit))) (out : (List (Int × ((List UInt8) × (Int × (Int × ((List UInt8) × Unit))))))) (i : Int) (t : ((List UInt8) × (Int × (Int × ((List (Int × ((List UInt8) × Unit))) × Unit))))) (k : Int) (k0 : (List (Int × ((List UInt8) × (Int × (Int × ((List UInt8) × Unit)))))) → Option (List (Int × ((List UInt8) × (Int × (Int × ((List UInt8) × Unit))))))) : Option (List (Int × ((List UInt8) × (Int × (Int × ((List UInt8) × Unit)))))) :=
  iter (fun (v : ((List (Int × ((List UInt8) × (Int × (Int × ((List UInt8) × Unit)))))) × Int)) r => porterref40_Image_s2 N s i t v.1 v.2 (fun out k => (r (out, k))) k0) N (out, k)

noncomputable def porterref40_Image_g2 (N : Nat) (i : (((List ((List UInt8) × (Int × (Int × ((List (Int × ((List UInt8) × Unit))) × Unit))))) × (Int × Unit)) × Int × ((List UInt8) × (Int × (Int × ((List (Int × ((List UInt8) × Unit))) × Unit)))))) (v : ((List (Int × ((List UInt8) × (Int × (Int × ((List UInt8) × Unit)))))) × Int)) (r : ((List (Int × ((List UInt8) × (Int × (Int × ((List UInt8) × Unit)))))) × Int) → Option (List (Int × ((List UInt8) × (Int × (Int × ((List UInt8) × Unit))))))) (K : Ex → List A → Option (List (Int × ((List UInt8) × (Int × (Int × ((List UInt8) × Unit))))))) : Option (List (Int × ((List UInt8) × (Int × (Int × ((List UInt8) × Unit)))))) :=
  porterref40_Image_s2 N i.1 i.2.1 i.2.2 v.1 v.2 (fun out k => (r (out, k))) (fun a1 => (K (.exit 2) (mkS [(1, .box (.pair (.sl (.pair .str (.pair (.int .i64) (.pair (.int .i64) (.pair (.sl (.pair (.int .i64) (.pair .str .unit))) .unit))))) (.pair (.int .i64) .unit))), (1, .row (.pair (.int .i64) (.pair .str (.pair (.int .i64) (.pair (.int .i64) (.pair .str .unit)))))), (0, .v (.int .i64))] 58 (i.1, a1, i.2.1, ()))))

noncomputable def porterref40_Image_h2 (N : Nat) : Hd (List (Int × ((List UInt8) × (Int × (Int × ((List UInt8) × Unit)))))) := fun st K => (unS [(1, .box (.pair (.sl (.pair .str (.pair (.int .i64) (.pair (.int .i64) (.pair (.sl (.pair (.int .i64) (.pair .str .unit))) .unit))))) (.pair (.int .i64) .unit))), (1, .row (.pair (.int .i64) (.pair .str (.pair (.int .i64) (.pair (.int .i64) (.pair .str .unit)))))), (0, .v (.int .i64)), (0, .box (.pair .str (.pair (.int .i64) (.pair (.int .i64) (.pair (.sl (.pair (.int .i64) (.pair .str .unit))) .unit))))), (0, .v (.int .i64))] 56 (restr [6, 5, 3, 4, 1] 0 st)).bind fun x => iter (fun v r => porterref40_Image_g2 N ((fun x => (x.1, x.2.2.1, x.2.2.2.1)) x) v r K) N ((fun x => (x.2.1, x.2.2.2.2.1)) x)

noncomputable def porterref40_Image_t2 (N : Nat) : Tab (List (Int × ((List UInt8) × (Int × (Int × ((List UInt8) × Unit)))))) := []

theorem porterref40_Image_ok2 {N : Nat} {c : Ctx} (hb : Base Go.Proofs.Try.prog (porterref40_Image_E N) c) : CodeOk Go.Proofs.Try.prog c (nodeAt porterref40_Image_body [0, 1, 1, 1, 0, 0, 1, 0, 0, 1, 0, 1, 1, 1]) (porterref40_Image_h2 N) :=
  loop_ok (s := [(1, .box (.pair (.sl (.pair .str (.pair (.int .i64) (.pair (.int .i64) (.pair (.sl (.pair (.int .i64) (.pair .str .unit))) .unit))))) (.pair (.int .i64) .unit))), (1, .row (.pair (.int .i64) (.pair .str (.pair (.int .i64) (.pair (.int .i64) (.pair .str .unit)))))), (0, .v (.int .i64)), (0, .box (.pair .str (.pair (.int .i64) (.pair (.int .i64) (.pair (.sl (.pair (.int .i64) (.pair .str .unit))) .unit))))), (0, .v (.int .i64))]) (m := 56) (porterref40_Image_g2 N) [6, 5, 3, 4, 1] N (fun x => (x.1, x.2.2.1, x.2.2.2.1)) (fun x => (x.2.1, x.2.2.2.2.1)) (fun i v => (i.1, v.1, i.2.1, i.2.2, v.2, ())) (fun _ => rfl) (evN_sound hb N (porterref40_Image_t2 N) porterref40_Image_L porterref40_Image_body TabOk.nil [0, 0, 1, 1, 1, 0, 0, 1, 0, 0, 1, 0, 1, 1, 1] _ rfl) (fun i v r K => by kernel_rfl)

noncomputable def porterref40_Image_s1 (N : Nat) (s : ((List ((List UInt8) × (Int × (Int × ((List (Int × ((List UInt8) × Unit))) × Unit))))) × (Int × Unit))) (out : (List (Int × ((List UInt8) × (Int × (Int × ((List UInt8) × Unit))))))) (i : Int) (rec : (List (Int × ((List UInt8) × (Int × (Int × ((List UInt8) × Unit)))))) → Int → Option (List (Int × ((List UInt8) × (Int × (Int × ((List UInt8) × Unit))))))) (k0 : (List (Int × ((List UInt8) × (Int × (Int × ((List UInt8) × Unit)))))) → Option (List (Int × ((List UInt8) × (Int × (Int × ((List UInt8) × Unit))))))) : Option (List (Int × ((List UInt8) × (Int × (Int × ((List UInt8) × Unit)))))) :=
  cond (decide (i < (((List.length s.1) : Nat) : Int)))
  (cond (Go.Lift.inR i (List.length s.1))
    (cond (decide ((((List.length out) + 1) * 56) ≤ 70368744177664))
      (porterref40_Image_p2 N s (out ++ ([((1 : Int), ((List.getD s.1 (Int.toNat i) (([] : List UInt8), ((0 : Int), ((0 : Int), (([] : List (Int × ((List UInt8) × Unit))), ()))))).1, ((List.getD s.1 (Int.toNat i) (([] : List UInt8), ((0 : Int), ((0 : Int), (([] : List (Int × ((List UInt8) × Unit))), ()))))).2.2.1, ((List.getD s.1 (Int.toNat i) (([] : List UInt8), ((0 : Int), ((0 : Int), (([] : List (Int × ((List UInt8) × Unit))), ()))))).2.1, (([] : List UInt8), ())))))] : List (Int × ((List UInt8) × (Int × (Int × ((List UInt8) × Unit))))))) i (List.getD s.1 (Int.toNat i) (([] : List UInt8), ((0 : Int), ((0 : Int), (([] : List (Int × ((List UInt8) × Unit))), ()))))) (0 : Int)
        (fun out1 => rec out1 (Go.IntKind.wrap Go.IntKind.i64 (i + (1 : Int)))))
      (none))
    (none))
  (k0 out)

noncomputable def porterref40_Image_p1 (N : Nat) (s : ((List ((List UInt8) × (Int × (Int × ((List (Int × ((List UInt8) × Unit))) × Unit))))) × (Int × Unit))) (out : (List (Int × ((List UInt8) × (Int × (Int × ((List UInt8) × Unit))))))) (i : Int) (k0 : (List (Int × ((List UInt8) × (Int × (Int × ((List UInt8) × Unit)))))) → Option (List (Int × ((List UInt8) × (Int × (Int × ((List UInt8) × Unit))))))) : Option (List (Int × ((List UInt8) × (Int × (Int × ((List UInt8) × Unit)))))) :=
  iter (fun (v : ((List (Int × ((List UInt8) × (Int × (Int × ((List UInt8) × Unit)))))) × Int)) r => porterref40_Image_s1 N s v.1 v.2 (fun out i => (r (out, i))) k0) N (out, i)

noncomputable def porterref40_Image_g1 (N : Nat) (i : ((List ((List UInt8) × (Int × (Int × ((List (Int × ((List UInt8) × Unit))) × Unit))))) × (Int × Unit))) (v : ((List (Int × ((List UInt8) × (Int × (Int × ((List UInt8) × Unit)))))) × Int)) (r : ((List (Int × ((List UInt8) × (Int × (Int × ((List UInt8) × Unit)))))) × Int) → Option (List (Int × ((List UInt8) × (Int × (Int × ((List UInt8) × Unit))))))) (K : Ex → List A → Option (List (Int × ((List UInt8) × (Int × (Int × ((List UInt8) × Unit))))))) : Option (List (Int × ((List UInt8) × (Int × (Int × ((List UInt8) × Unit)))))) :=
  porterref40_Image_s1 N i v.1 v.2 (fun out i => (r (out, i))) (fun a1 => (K (.exit 0) (mkS [(1, .box (.pair (.sl (.pair .str (.pair (.int .i64) (.pair (.int .i64) (.pair (.sl (.pair (.int .i64) (.pair .str .unit))) .unit))))) (.pair (.int .i64) .unit))), (1, .row (.pair (.int .i64) (.pair .str (.pair (.int .i64) (.pair (.int .i64) (.pair .str .unit))))))] 59 (i, a1, ()))))

noncomputable def porterref40_Image_h1 (N : Nat) : Hd (List (Int × ((List UInt8) × (Int × (Int × ((List UInt8) × Unit)))))) := fun st K => (unS [(1, .box (.pair (.sl (.pair .str (.pair (.int .i64) (.pair (.int .i64) (.pair (.sl (.pair (.int .i64) (.pair .str .unit))) .unit))))) (.pair (.int .i64) .unit))), (1, .row (.pair (.int .i64) (.pair .str (.pair (.int .i64) (.pair (.int .i64) (.pair .str .unit)))))), (0, .v (.int .i64))] 58 (restr [4, 1, 3] 0 st)).bind fun x => iter (fun v r => porterref40_Image_g1 N ((fun x => x.1) x) v r K) N ((fun x => (x.2.1, x.2.2.1)) x)

noncomputable def porterref40_Image_t1 (N : Nat) : Tab (List (Int × ((List UInt8) × (Int × (Int × ((List UInt8) × Unit)))))) := [([0, 1, 1, 1, 0, 0, 1, 0, 0, 1, 0, 1, 1, 1], porterref40_Image_h2 N)]

theorem porterref40_Image_ok1 {N : Nat} {c : Ctx} (hb : Base Go.Proofs.Try.prog (porterref40_Image_E N) c) : CodeOk Go.Proofs.Try.prog c (nodeAt porterref40_Image_body [0, 1, 0, 1, 1, 1]) (porterref40_Image_h1 N) :=
  loop_ok (s := [(1, .box (.pair (.sl (.pair .str (.pair (.int .i64) (.pair (.int .i64) (.pair (.sl (.pair (.int .i64) (.pair .str .unit))) .unit))))) (.pair (.int .i64) .unit))), (1, .row (.pair (.int .i64) (.pair .str (.pair (.int .i64) (.pair (.int .i64) (.pair .str .unit)))))), (0, .v (.int .i64))]) (m := 58) (porterref40_Image_g1 N) [4, 1, 3] N (fun x => x.1) (fun x => (x.2.1, x.2.2.1)) (fun i v => (i, v.1, v.2, ())) (fun _ => rfl) (evN_sound hb N (porterref40_Image_t1 N) porterref40_Image_L porterref40_Image_body (TabOk.cons (porterref40_Image_ok2 hb) TabOk.nil) [0, 0, 1, 0, 1, 1, 1] _ rfl) (fun i v r K => by kernel_rfl)

noncomputable def porterref40_Image (N : Nat) (s : ((List ((List UInt8) × (Int × (Int × ((List (Int × ((List UInt8) × Unit))) × Unit))))) × (Int × Unit))) : Option (List (Int × ((List UInt8) × (Int × (Int × ((List UInt8) × Unit)))))) :=
  (porterref38_Right N s).bind fun y =>
  cond (!y)
  (some ([] : List (Int × ((List UInt8) × (Int × (Int × ((List UInt8) × Unit)))))))
  (porterref40_Image_p1 N s ([] : List (Int × ((List UInt8) × (Int × (Int × ((List UInt8) × Unit)))))) (0 : Int)
    (fun out => cond (decide ((((List.length out) + 1) * 56) ≤ 70368744177664))
      (some (out ++ ([((4 : Int), (([] : List UInt8), (s.2.1, ((0 : Int), (([] : List UInt8), ())))))] : List (Int × ((List UInt8) × (Int × (Int × ((List UInt8) × Unit))))))))
      (none)))

noncomputable def porterref40_Image_t (N : Nat) : Tab (List (Int × ((List UInt8) × (Int × (Int × ((List UInt8) × Unit)))))) := [([0, 1, 0, 1, 1, 1], porterref40_Image_h1 N)]

theorem porterref40_Image_link (N : Nat) (x : denS [(0, .v (.pair (.sl (.pair .str (.pair (.int .i64) (.pair (.int .i64) (.pair (.sl (.pair (.int .i64) (.pair .str .unit))) .unit))))) (.pair (.int .i64) .unit)))]) : evFX (porterref40_Image_E N) N (porterref40_Image_t N) porterref40_Image_L Go.Proofs.Try.f23 (mkS [(0, .v (.pair (.sl (.pair .str (.pair (.int .i64) (.pair (.int .i64) (.pair (.sl (.pair (.int .i64) (.pair .str .unit))) .unit))))) (.pair (.int .i64) .unit)))] 0 x) (kRes (.v (.sl (.pair (.int .i64) (.pair .str (.pair (.int .i64) (.pair (.int .i64) (.pair .str .unit))))))) 1) = porterref40_Image N x.1 := by kernel_rfl

noncomputable def porterref40_Image_res (N : Nat) : List A → Res := resOf [(0, .v (.pair (.sl (.pair .str (.pair (.int .i64) (.pair (.int .i64) (.pair (.sl (.pair (.int .i64) (.pair .str .unit))) .unit))))) (.pair (.int .i64) .unit)))] (fun x => porterref40_Image N x.1) (oRes (.v (.sl (.pair (.int .i64) (.pair .str (.pair (.int .i64) (.pair (.int .i64) (.pair .str .unit))))))) 1)

theorem porterref40_Image_ct (N : Nat) : Contract Go.Proofs.Try.prog noGlob 23 (porterref40_Image_res N) :=
  Contract.of (E := porterref40_Image_E N) (H := porterref40_Image_t N) (L := porterref40_Image_L) (N := N) (body := porterref40_Image_body) (K := (kRes (.v (.sl (.pair (.int .i64) (.pair .str (.pair (.int .i64) (.pair (.int .i64) (.pair .str .unit))))))) 1)) (porterref40_Image_Eok N) Go.Proofs.Try.func23 (by kernel_rfl) (by decide) (fun _ hb => (TabOk.cons (porterref40_Image_ok1 hb) TabOk.nil)) (fun x y h => by rw [porterref40_Image_link]; exact h) (kRes_ok (s := (.v (.sl (.pair (.int .i64) (.pair .str (.pair (.int .i64) (.pair (.int .i64) (.pair .str .unit)))))))) (m := 1))

noncomputable def porterref02_Byte_body : Code := (Go.Proofs.Try.f50.body).getD .skip

noncomputable def porterref02_Byte_L : List (List Nat × List Nat) := [([0], [0]), ([0, 1], [3]), ([0, 1, 1], [2]), ([1, 1, 1], [2])]

noncomputable def porterref02_Byte_E (N : Nat) : Env := mkEnv tys noGlob [] [] [] [] false [] []

theorem porterref02_Byte_Eok (N : Nat) : EnvOk Go.Proofs.Try.prog (porterref02_Byte_E N) := mkEnv_ok mixed tys_ok (FnsOk.nil) (ItsOk.nil)

noncomputable def porterref02_Byte (N : Nat) (n : Int) : Option (List UInt8) :=
  some (Go.Lift.toStr ([(Go.IntKind.wrap Go.IntKind.u8 n)] : List Int))

noncomputable def porterref02_Byte_t (N : Nat) : Tab (List UInt8) := []

theorem porterref02_Byte_link (N : Nat) (x : denS [(0, .v (.int .i64))]) : evFX (porterref02_Byte_E N) N (porterref02_Byte_t N) porterref02_Byte_L Go.Proofs.Try.f50 (mkS [(0, .v (.int .i64))] 0 x) (kRes (.v .str) 1) = porterref02_Byte N x.1 := by kernel_rfl

noncomputable def porterref02_Byte_res (N : Nat) : List A → Res := resOf [(0, .v (.int .i64))] (fun x => porterref02_Byte N x.1) (oRes (.v .str) 1)

theorem porterref02_Byte_ct (N : Nat) : Contract Go.Proofs.Try.prog noGlob 50 (porterref02_Byte_res N) :=
  Contract.of (E := porterref02_Byte_E N) (H := porterref02_Byte_t N) (L := porterref02_Byte_L) (N := N) (body := porterref02_Byte_body) (K := (kRes (.v .str) 1)) (porterref02_Byte_Eok N) Go.Proofs.Try.func50 (by kernel_rfl) (by decide) (fun _ hb => TabOk.nil) (fun x y h => by rw [porterref02_Byte_link]; exact h) (kRes_ok (s := (.v .str)) (m := 1))

noncomputable def porterref07_Put_body : Code := (Go.Proofs.Try.f37.body).getD .skip

noncomputable def porterref07_Put_L : List (List Nat × List Nat) := [([0], [0]), ([0, 0, 1], [4, 0]), ([1, 0, 1], [0]), ([0, 0, 1, 0, 1], [2]), ([1, 0, 1, 0, 1], [2]), ([0, 1, 1], [2]), ([1, 1, 1], [2])]

noncomputable def porterref07_Put_E (N : Nat) (self : Int → Option (List UInt8)) : Env := mkEnv tys noGlob [(50, porterref02_Byte_res N), (37, resOf [(0, .v (.int .u64))] (fun x => self x.1) (oRes (.v .str) 1))] [] [] [] false [] []

theorem porterref07_Put_Eok (N : Nat) (self : Int → Option (List UInt8)) (hself : Contract Go.Proofs.Try.prog noGlob 37 (resOf [(0, .v (.int .u64))] (fun x => self x.1) (oRes (.v .str) 1))) : EnvOk Go.Proofs.Try.prog (porterref07_Put_E N self) := mkEnv_ok mixed tys_ok (FnsOk.cons (porterref02_Byte_ct N) (FnsOk.cons (hself) (FnsOk.nil))) (ItsOk.nil)

noncomputable def porterref07_Put_F (N : Nat) (self : Int → Option (List UInt8)) (n : Int) : Option (List UInt8) :=
  cond (decide (n < (128 : Int)))
  (some (Go.Lift.toStr ([(Go.IntKind.wrap Go.IntKind.u8 (Go.IntKind.wrap Go.IntKind.i64 n))] : List Int)))
  ((self (Go.IntKind.wrap Go.IntKind.u64 (Int.tdiv n (128 : Int)))).bind fun y =>
    cond (decide (((List.length (Go.Lift.toStr ([(Go.IntKind.wrap Go.IntKind.u8 (Go.IntKind.wrap Go.IntKind.i64 ((Go.IntKind.wrap Go.IntKind.i64 (Int.tmod n (128 : Int))) + (128 : Int))))] : List Int))) + (List.length y)) ≤ 9223372036854775807))
    (some ((Go.Lift.toStr ([(Go.IntKind.wrap Go.IntKind.u8 (Go.IntKind.wrap Go.IntKind.i64 ((Go.IntKind.wrap Go.IntKind.i64 (Int.tmod n (128 : Int))) + (128 : Int))))] : List Int)) ++ y))
    (none))

noncomputable def porterref07_Put_t (N : Nat) (self : Int → Option (List UInt8)) : Tab (List UInt8) := []

theorem porterref07_Put_link (N : Nat) (self : Int → Option (List UInt8)) (x : denS [(0, .v (.int .u64))]) : evFX (porterref07_Put_E N self) N (porterref07_Put_t N self) porterref07_Put_L Go.Proofs.Try.f37 (mkS [(0, .v (.int .u64))] 0 x) (kRes (.v .str) 1) = porterref07_Put_F N self x.1 := by kernel_rfl

noncomputable def porterref07_Put : Nat → Int → Option (List UInt8)
  | 0 => fun _ => none
  | N + 1 => porterref07_Put_F (N + 1) (porterref07_Put N)

noncomputable def porterref07_Put_res (N : Nat) : List A → Res := resOf [(0, .v (.int .u64))] (fun x => porterref07_Put N x.1) (oRes (.v .str) 1)

theorem porterref07_Put_ct : ∀ N : Nat, Contract Go.Proofs.Try.prog noGlob 37 (porterref07_Put_res N)
  | 0 => Contract.zero Go.Proofs.Try.func37 (body := porterref07_Put_body) (by kernel_rfl) (by decide) (fun _ => rfl)
  | N + 1 => Contract.of (E := porterref07_Put_E (N + 1) (porterref07_Put N)) (H := porterref07_Put_t (N + 1) (porterref07_Put N)) (L := porterref07_Put_L) (N := (N + 1)) (body := porterref07_Put_body) (K := (kRes (.v .str) 1)) (porterref07_Put_Eok (N + 1) (porterref07_Put N) (porterref07_Put_ct N)) Go.Proofs.Try.func37 (by kernel_rfl) (by decide) (fun _ hb => TabOk.nil) (fun x y h => by rw [porterref07_Put_link]; exact h) (kRes_ok (s := (.v .str)) (m := 1))

noncomputable def porterref38_Form_body : Code := (Go.Proofs.Try.f51.body).getD .skip

noncomputable def porterref38_Form_L : List (List Nat × List Nat) := [([0], [1]), ([0, 0, 1], [41, 1]), ([1, 0, 1], [1]), ([0, 0, 1, 0, 1], [2]), ([1, 0, 1, 0, 1], [2]), ([0, 0, 1, 1], [44, 1]), ([1, 0, 1, 1], [1]), ([0, 0, 1, 0, 1, 1], [2]), ([1, 0, 1, 0, 1, 1], [2]), ([0, 1, 1, 1], [2]), ([1, 1, 1, 1], [2])]

noncomputable def porterref38_Form_E (N : Nat) : Env := mkEnv tys noGlob [(48, porterref09_Word_res N), (47, porterref38_in_res N)] [] [] [] false [] []

theorem porterref38_Form_Eok (N : Nat) : EnvOk Go.Proofs.Try.prog (porterref38_Form_E N) := mkEnv_ok mixed tys_ok (FnsOk.cons (porterref09_Word_ct N) (FnsOk.cons (porterref38_in_ct N) (FnsOk.nil))) (ItsOk.nil)

noncomputable def porterref38_Form_p2 (N : Nat) (e : (Int × ((List UInt8) × (Int × (Int × ((List UInt8) × Unit)))))) (k0 : Bool → Option Bool) : Option Bool :=
  cond (decide (e.1 < (1 : Int)))
  (k0 true)
  (cond (decide ((4 : Int) < e.1))
    (k0 true)
    (cond (e.1 != (1 : Int))
      (cond (e.2.2.2.1 != (0 : Int))
        (k0 true)
        (cond (e.1 != (2 : Int))
          (cond (!(e.2.2.2.2.1 == ([] : List UInt8)))
            (k0 true)
            (cond (e.1 == (2 : Int))
              (k0 ((((List.length e.2.2.2.2.1) : Nat) : Int) != (32 : Int)))
              (k0 false)))
          (cond (e.1 == (2 : Int))
            (k0 ((((List.length e.2.2.2.2.1) : Nat) : Int) != (32 : Int)))
            (k0 false))))
      (cond (e.1 != (2 : Int))
        (cond (!(e.2.2.2.2.1 == ([] : List UInt8)))
          (k0 true)
          (cond (e.1 == (2 : Int))
            (k0 ((((List.length e.2.2.2.2.1) : Nat) : Int) != (32 : Int)))
            (k0 false)))
        (cond (e.1 == (2 : Int))
          (k0 ((((List.length e.2.2.2.2.1) : Nat) : Int) != (32 : Int)))
          (k0 false)))))

noncomputable def porterref38_Form_g2 (N : Nat) (x : denS [(1, .box (.pair (.int .i64) (.pair .str (.pair (.int .i64) (.pair (.int .i64) (.pair .str .unit))))))]) (K : Ex → List A → Option Bool) : Option Bool :=
  porterref38_Form_p2 N x.1 (fun a1 => (K .normal (mkS [(1, .box (.pair (.int .i64) (.pair .str (.pair (.int .i64) (.pair (.int .i64) (.pair .str .unit)))))), (39, .v .bool)] 24 (x.1, a1, ()))))

noncomputable def porterref38_Form_h2 (N : Nat) : Hd Bool := fun st K => (unS [(1, .box (.pair (.int .i64) (.pair .str (.pair (.int .i64) (.pair (.int .i64) (.pair .str .unit))))))] 64 (restr [1] 0 st)).bind fun x => porterref38_Form_g2 N x K

noncomputable def porterref38_Form_t2 (N : Nat) : Tab Bool := []

theorem porterref38_Form_ok2 {N : Nat} {c : Ctx} (hb : Base Go.Proofs.Try.prog (porterref38_Form_E N) c) : CodeOk Go.Proofs.Try.prog c (nodeAt porterref38_Form_body [0, 0, 1]) (porterref38_Form_h2 N) :=
  piece_ok (s := [(1, .box (.pair (.int .i64) (.pair .str (.pair (.int .i64) (.pair (.int .i64) (.pair .str .unit))))))]) (m := 64) (g := porterref38_Form_g2 N) [1] (evN_sound hb N (porterref38_Form_t2 N) porterref38_Form_L porterref38_Form_body TabOk.nil [0, 0, 1] _ rfl) (fun x K => by kernel_rfl)

noncomputable def porterref38_Form_p1 (N : Nat) (e : (Int × ((List UInt8) × (Int × (Int × ((List UInt8) × Unit)))))) (k0 : Bool → Option Bool) (k1 : Option Bool) : Option Bool :=
  porterref38_Form_p2 N e
  (fun x41 => cond x41
    (k0 false)
    (k1))

noncomputable def porterref38_Form_g1 (N : Nat) (x : denS [(1, .box (.pair (.int .i64) (.pair .str (.pair (.int .i64) (.pair (.int .i64) (.pair .str .unit))))))]) (K : Ex → List A → Option Bool) : Option Bool :=
  porterref38_Form_p1 N x.1 (fun a0 => (K .ret (mkS [(2, .v .bool)] 63 (a0, ())))) (K .normal (mkS [(1, .box (.pair (.int .i64) (.pair .str (.pair (.int .i64) (.pair (.int .i64) (.pair .str .unit))))))] 64 (x.1, ())))

noncomputable def porterref38_Form_h1 (N : Nat) : Hd Bool := fun st K => (unS [(1, .box (.pair (.int .i64) (.pair .str (.pair (.int .i64) (.pair (.int .i64) (.pair .str .unit))))))] 64 (restr [1] 0 st)).bind fun x => porterref38_Form_g1 N x K

noncomputable def porterref38_Form_t1 (N : Nat) : Tab Bool := [([0, 0, 1], porterref38_Form_h2 N)]

theorem porterref38_Form_ok1 {N : Nat} {c : Ctx} (hb : Base Go.Proofs.Try.prog (porterref38_Form_E N) c) : CodeOk Go.Proofs.Try.prog c (nodeAt porterref38_Form_body [0, 1]) (porterref38_Form_h1 N) :=
  piece_ok (s := [(1, .box (.pair (.int .i64) (.pair .str (.pair (.int .i64) (.pair (.int .i64) (.pair .str .unit))))))]) (m := 64) (g := porterref38_Form_g1 N) [1] (evN_sound hb N (porterref38_Form_t1 N) porterref38_Form_L porterref38_Form_body (TabOk.cons (porterref38_Form_ok2 hb) TabOk.nil) [0, 1] _ rfl) (fun x K => by kernel_rfl)

noncomputable def porterref38_Form (N : Nat) (e : (Int × ((List UInt8) × (Int × (Int × ((List UInt8) × Unit)))))) : Option Bool :=
  porterref38_Form_p1 N e
  (fun x2 => some x2)
  (cond (e.1 == (4 : Int))
    (cond (e.2.1 == ([] : List UInt8))
      ((porterref38_in N e.2.2.1 (0 : Int)).bind fun y =>
        some y)
      (some false))
    ((porterref09_Word N e.2.1).bind fun y1 =>
      cond y1
      ((porterref38_in N e.2.2.1 (1 : Int)).bind fun y2 =>
        cond y2
        ((porterref38_in N e.2.2.2.1 (0 : Int)).bind fun y3 =>
          some y3)
        (some false))
      (some false)))

noncomputable def porterref38_Form_t (N : Nat) : Tab Bool := [([0, 1], porterref38_Form_h1 N)]

theorem porterref38_Form_link (N : Nat) (x : denS [(0, .v (.pair (.int .i64) (.pair .str (.pair (.int .i64) (.pair (.int .i64) (.pair .str .unit))))))]) : evFX (porterref38_Form_E N) N (porterref38_Form_t N) porterref38_Form_L Go.Proofs.Try.f51 (mkS [(0, .v (.pair (.int .i64) (.pair .str (.pair (.int .i64) (.pair (.int .i64) (.pair .str .unit))))))] 0 x) (kRes (.v .bool) 1) = porterref38_Form N x.1 := by kernel_rfl

noncomputable def porterref38_Form_res (N : Nat) : List A → Res := resOf [(0, .v (.pair (.int .i64) (.pair .str (.pair (.int .i64) (.pair (.int .i64) (.pair .str .unit))))))] (fun x => porterref38_Form N x.1) (oRes (.v .bool) 1)

theorem porterref38_Form_ct (N : Nat) : Contract Go.Proofs.Try.prog noGlob 51 (porterref38_Form_res N) :=
  Contract.of (E := porterref38_Form_E N) (H := porterref38_Form_t N) (L := porterref38_Form_L) (N := N) (body := porterref38_Form_body) (K := (kRes (.v .bool) 1)) (porterref38_Form_Eok N) Go.Proofs.Try.func51 (by kernel_rfl) (by decide) (fun _ hb => (TabOk.cons (porterref38_Form_ok1 hb) TabOk.nil)) (fun x y h => by rw [porterref38_Form_link]; exact h) (kRes_ok (s := (.v .bool)) (m := 1))

noncomputable def porterref08_Text_body : Code := (Go.Proofs.Try.f39.body).getD .skip

noncomputable def porterref08_Text_L : List (List Nat × List Nat) := [([0], [0]), ([0, 1], [2]), ([1, 1], [2])]

noncomputable def porterref08_Text_E (N : Nat) : Env := mkEnv tys noGlob [(37, porterref07_Put_res N)] [] [] [] false [] []

theorem porterref08_Text_Eok (N : Nat) : EnvOk Go.Proofs.Try.prog (porterref08_Text_E N) := mkEnv_ok mixed tys_ok (FnsOk.cons (porterref07_Put_ct N) (FnsOk.nil)) (ItsOk.nil)

noncomputable def porterref08_Text (N : Nat) (s : (List UInt8)) : Option (List UInt8) :=
  (porterref07_Put N (Go.IntKind.wrap Go.IntKind.u64 (((List.length s) : Nat) : Int))).bind fun y =>
  cond (decide (((List.length y) + (List.length s)) ≤ 9223372036854775807))
  (some (y ++ s))
  (none)

noncomputable def porterref08_Text_t (N : Nat) : Tab (List UInt8) := []

theorem porterref08_Text_link (N : Nat) (x : denS [(0, .v .str)]) : evFX (porterref08_Text_E N) N (porterref08_Text_t N) porterref08_Text_L Go.Proofs.Try.f39 (mkS [(0, .v .str)] 0 x) (kRes (.v .str) 1) = porterref08_Text N x.1 := by kernel_rfl

noncomputable def porterref08_Text_res (N : Nat) : List A → Res := resOf [(0, .v .str)] (fun x => porterref08_Text N x.1) (oRes (.v .str) 1)

theorem porterref08_Text_ct (N : Nat) : Contract Go.Proofs.Try.prog noGlob 39 (porterref08_Text_res N) :=
  Contract.of (E := porterref08_Text_E N) (H := porterref08_Text_t N) (L := porterref08_Text_L) (N := N) (body := porterref08_Text_body) (K := (kRes (.v .str) 1)) (porterref08_Text_Eok N) Go.Proofs.Try.func39 (by kernel_rfl) (by decide) (fun _ hb => TabOk.nil) (fun x y h => by rw [porterref08_Text_link]; exact h) (kRes_ok (s := (.v .str)) (m := 1))

noncomputable def porterref39_Put_body : Code := (Go.Proofs.Try.f38.body).getD .skip

noncomputable def porterref39_Put_L : List (List Nat × List Nat) := [([0], [1]), ([0, 0, 1], [6, 1]), ([1, 0, 1], [1]), ([0, 0, 1, 0, 1], [2, 3]), ([1, 0, 1, 0, 1], [2, 3]), ([0, 1, 1], [2, 3]), ([1, 1, 1], [2, 3])]

noncomputable def porterref39_Put_E (N : Nat) : Env := mkEnv tys noGlob [(39, porterref08_Text_res N), (51, porterref38_Form_res N), (37, porterref07_Put_res N), (50, porterref02_Byte_res N)] [] [] [] false [] []

theorem porterref39_Put_Eok (N : Nat) : EnvOk Go.Proofs.Try.prog (porterref39_Put_E N) := mkEnv_ok mixed tys_ok (FnsOk.cons (porterref08_Text_ct N) (FnsOk.cons (porterref38_Form_ct N) (FnsOk.cons (porterref07_Put_ct N) (FnsOk.cons (porterref02_Byte_ct N) (FnsOk.nil))))) (ItsOk.nil)

noncomputable def porterref39_Put (N : Nat) (e : (Int × ((List UInt8) × (Int × (Int × ((List UInt8) × Unit)))))) : Option ((List UInt8) × Int × Unit) :=
  (porterref38_Form N e).bind fun y =>
  cond (!y)
  (some (([] : List UInt8), ((2 : Int), ())))
  ((porterref08_Text N e.2.1).bind fun y1 =>
    cond (decide (((List.length (Go.Lift.toStr ([(Go.IntKind.wrap Go.IntKind.u8 e.1)] : List Int))) + (List.length y1)) ≤ 9223372036854775807))
    ((porterref07_Put N (Go.IntKind.wrap Go.IntKind.u64 e.2.2.2.1)).bind fun y2 =>
      cond (decide (((List.length ((Go.Lift.toStr ([(Go.IntKind.wrap Go.IntKind.u8 e.1)] : List Int)) ++ y1)) + (List.length y2)) ≤ 9223372036854775807))
      ((porterref07_Put N (Go.IntKind.wrap Go.IntKind.u64 e.2.2.1)).bind fun y3 =>
        cond (decide (((List.length (((Go.Lift.toStr ([(Go.IntKind.wrap Go.IntKind.u8 e.1)] : List Int)) ++ y1) ++ y2)) + (List.length y3)) ≤ 9223372036854775807))
        ((porterref08_Text N e.2.2.2.2.1).bind fun y4 =>
          cond (decide (((List.length ((((Go.Lift.toStr ([(Go.IntKind.wrap Go.IntKind.u8 e.1)] : List Int)) ++ y1) ++ y2) ++ y3)) + (List.length y4)) ≤ 9223372036854775807))
          (some ((((((Go.Lift.toStr ([(Go.IntKind.wrap Go.IntKind.u8 e.1)] : List Int)) ++ y1) ++ y2) ++ y3) ++ y4), ((0 : Int), ())))
          (none))
        (none))
      (none))
    (none))

noncomputable def porterref39_Put_t (N : Nat) : Tab ((List UInt8) × Int × Unit) := []

theorem porterref39_Put_link (N : Nat) (x : denS [(0, .v (.pair (.int .i64) (.pair .str (.pair (.int .i64) (.pair (.int .i64) (.pair .str .unit))))))]) : evFX (porterref39_Put_E N) N (porterref39_Put_t N) porterref39_Put_L Go.Proofs.Try.f38 (mkS [(0, .v (.pair (.int .i64) (.pair .str (.pair (.int .i64) (.pair (.int .i64) (.pair .str .unit))))))] 0 x) (kRes (.tup [.str, (.int .i64)]) 1) = porterref39_Put N x.1 := by kernel_rfl

noncomputable def porterref39_Put_res (N : Nat) : List A → Res := resOf [(0, .v (.pair (.int .i64) (.pair .str (.pair (.int .i64) (.pair (.int .i64) (.pair .str .unit))))))] (fun x => porterref39_Put N x.1) (oRes (.tup [.str, (.int .i64)]) 1)

theorem porterref39_Put_ct (N : Nat) : Contract Go.Proofs.Try.prog noGlob 38 (porterref39_Put_res N) :=
  Contract.of (E := porterref39_Put_E N) (H := porterref39_Put_t N) (L := porterref39_Put_L) (N := N) (body := porterref39_Put_body) (K := (kRes (.tup [.str, (.int .i64)]) 1)) (porterref39_Put_Eok N) Go.Proofs.Try.func38 (by kernel_rfl) (by decide) (fun _ hb => TabOk.nil) (fun x y h => by rw [porterref39_Put_link]; exact h) (kRes_ok (s := (.tup [.str, (.int .i64)])) (m := 1))

noncomputable def porterref39_Batch_body : Code := (Go.Proofs.Try.f24.body).getD .skip

noncomputable def porterref39_Batch_L : List (List Nat × List Nat) := [([0], [0]), ([0, 0, 1], [10, 0]), ([1, 0, 1], [0]), ([0, 0, 1, 0, 1], [2, 3]), ([1, 0, 1, 0, 1], [2, 3]), ([0, 1, 1], [0, 4]), ([0, 0, 1, 1, 1], [5, 0, 4]), ([0, 1, 0, 1, 1, 1], [5, 0, 4]), ([0, 0, 0, 0, 1, 0, 1, 1, 1], [18, 0, 5, 4]), ([1, 0, 0, 0, 1, 0, 1, 1, 1], [0, 5, 4]), ([1, 1, 0, 0, 0, 1, 0, 1, 1, 1], [4]), ([0, 0, 0, 1, 0, 0, 1, 0, 1, 1, 1], [7, 4, 6, 5, 0]), ([0, 0, 1, 0, 0, 1, 0, 0, 1, 0, 1, 1, 1], [30, 7, 4, 6, 5, 0]), ([1, 0, 1, 0, 0, 1, 0, 0, 1, 0, 1, 1, 1], [4, 6, 5, 0]), ([0, 0, 1, 0, 1, 0, 0, 1, 0, 0, 1, 0, 1, 1, 1], [2, 3]), ([1, 0, 1, 0, 1, 0, 0, 1, 0, 0, 1, 0, 1, 1, 1], [2, 3]), ([1, 1, 0, 0, 1, 0, 0, 1, 0, 1, 1, 1], [5, 0, 4]), ([0, 1, 0, 0, 1, 0, 1, 1, 1], [5, 0, 4]), ([1, 1, 0, 0, 1, 0, 1, 1, 1], [5, 0, 4]), ([1, 0, 1, 1, 1], [4]), ([0, 1, 1, 1, 1], [2, 3]), ([1, 1, 1, 1, 1], [2, 3])]

noncomputable def porterref39_Batch_E (N : Nat) : Env := mkEnv tys noGlob [(38, porterref39_Put_res N), (39, porterref08_Text_res N), (37, porterref07_Put_res N)] [] [] [] false [] []

theorem porterref39_Batch_Eok (N : Nat) : EnvOk Go.Proofs.Try.prog (porterref39_Batch_E N) := mkEnv_ok mixed tys_ok (FnsOk.cons (porterref39_Put_ct N) (FnsOk.cons (porterref08_Text_ct N) (FnsOk.cons (porterref07_Put_ct N) (FnsOk.nil)))) (ItsOk.nil)

noncomputable def porterref39_Batch_s1 (N : Nat) (l : (List (Int × ((List UInt8) × (Int × (Int × ((List UInt8) × Unit))))))) (out : (List UInt8)) (i : Int) (rec : (List UInt8) → Int → Option ((List UInt8) × Int × Unit)) (k0 : (List UInt8) → Int → Option ((List UInt8) × Int × Unit)) (k1 : (List UInt8) → Option ((List UInt8) × Int × Unit)) : Option ((List UInt8) × Int × Unit) :=
  cond (decide (i < (((List.length l) : Nat) : Int)))
  (cond (Go.Lift.inR i (List.length l))
    ((porterref39_Put N (List.getD l (Int.toNat i) ((0 : Int), (([] : List UInt8), ((0 : Int), ((0 : Int), (([] : List UInt8), ()))))))).bind fun y =>
      cond (y.2.1 != (0 : Int))
      (k0 ([] : List UInt8) y.2.1)
      ((porterref08_Text N y.1).bind fun y1 =>
        cond (decide (((List.length out) + (List.length y1)) ≤ 9223372036854775807))
        (rec (out ++ y1) (Go.IntKind.wrap Go.IntKind.i64 (i + (1 : Int))))
        (none)))
    (none))
  (k1 out)

noncomputable def porterref39_Batch_p1 (N : Nat) (l : (List (Int × ((List UInt8) × (Int × (Int × ((List UInt8) × Unit))))))) (out : (List UInt8)) (i : Int) (k0 : (List UInt8) → Int → Option ((List UInt8) × Int × Unit)) (k1 : (List UInt8) → Option ((List UInt8) × Int × Unit)) : Option ((List UInt8) × Int × Unit) :=
  iter (fun (v : ((List UInt8) × Int)) r => porterref39_Batch_s1 N l v.1 v.2 (fun out i => (r (out, i))) k0 k1) N (out, i)

noncomputable def porterref39_Batch_g1 (N : Nat) (i : (List (Int × ((List UInt8) × (Int × (Int × ((List UInt8) × Unit))))))) (v : ((List UInt8) × Int)) (r : ((List UInt8) × Int) → Option ((List UInt8) × Int × Unit)) (K : Ex → List A → Option ((List UInt8) × Int × Unit)) : Option ((List UInt8) × Int × Unit) :=
  porterref39_Batch_s1 N i v.1 v.2 (fun out i => (r (out, i))) (fun a0 a1 => (K .ret (mkS [(2, .v .str), (0, .v (.int .i64))] 33 (a0, a1, ())))) (fun a0 => (K (.exit 0) (mkS [(4, .v .str)] 32 (a0, ()))))

noncomputable def porterref39_Batch_h1 (N : Nat) : Hd ((List UInt8) × Int × Unit) := fun st K => (unS [(0, .v (.sl (.pair (.int .i64) (.pair .str (.pair (.int .i64) (.pair (.int .i64) (.pair .str .unit))))))), (3, .v .str), (0, .v (.int .i64))] 31 (restr [5, 0, 4] 0 st)).bind fun x => iter (fun v r => porterref39_Batch_g1 N ((fun x => x.1) x) v r K) N ((fun x => (x.2.1, x.2.2.1)) x)

noncomputable def porterref39_Batch_t1 (N : Nat) : Tab ((List UInt8) × Int × Unit) := []

theorem porterref39_Batch_ok1 {N : Nat} {c : Ctx} (hb : Base Go.Proofs.Try.prog (porterref39_Batch_E N) c) : CodeOk Go.Proofs.Try.prog c (nodeAt porterref39_Batch_body [0, 1, 0, 1, 1, 1]) (porterref39_Batch_h1 N) :=
  loop_ok (s := [(0, .v (.sl (.pair (.int .i64) (.pair .str (.pair (.int .i64) (.pair (.int .i64) (.pair .str .unit))))))), (3, .v .str), (0, .v (.int .i64))]) (m := 31) (porterref39_Batch_g1 N) [5, 0, 4] N (fun x => x.1) (fun x => (x.2.1, x.2.2.1)) (fun i v => (i, v.1, v.2, ())) (fun _ => rfl) (evN_sound hb N (porterref39_Batch_t1 N) porterref39_Batch_L porterref39_Batch_body TabOk.nil [0, 0, 1, 0, 1, 1, 1] _ rfl) (fun i v r K => by kernel_rfl)

noncomputable def porterref39_Batch (N : Nat) (l : (List (Int × ((List UInt8) × (Int × (Int × ((List UInt8) × Unit))))))) : Option ((List UInt8) × Int × Unit) :=
  cond (decide ((256 : Int) < (((List.length l) : Nat) : Int)))
  (some (([] : List UInt8), ((3 : Int), ())))
  ((porterref07_Put N (Go.IntKind.wrap Go.IntKind.u64 (((List.length l) : Nat) : Int))).bind fun y =>
    porterref39_Batch_p1 N l y (0 : Int)
    (fun x2 x3 => some (x2, (x3, ())))
    (fun out => some (out, ((0 : Int), ()))))

noncomputable def porterref39_Batch_t (N : Nat) : Tab ((List UInt8) × Int × Unit) := [([0, 1, 0, 1, 1, 1], porterref39_Batch_h1 N)]

theorem porterref39_Batch_link (N : Nat) (x : denS [(0, .v (.sl (.pair (.int .i64) (.pair .str (.pair (.int .i64) (.pair (.int .i64) (.pair .str .unit)))))))]) : evFX (porterref39_Batch_E N) N (porterref39_Batch_t N) porterref39_Batch_L Go.Proofs.Try.f24 (mkS [(0, .v (.sl (.pair (.int .i64) (.pair .str (.pair (.int .i64) (.pair (.int .i64) (.pair .str .unit)))))))] 0 x) (kRes (.tup [.str, (.int .i64)]) 1) = porterref39_Batch N x.1 := by kernel_rfl

noncomputable def porterref39_Batch_res (N : Nat) : List A → Res := resOf [(0, .v (.sl (.pair (.int .i64) (.pair .str (.pair (.int .i64) (.pair (.int .i64) (.pair .str .unit)))))))] (fun x => porterref39_Batch N x.1) (oRes (.tup [.str, (.int .i64)]) 1)

theorem porterref39_Batch_ct (N : Nat) : Contract Go.Proofs.Try.prog noGlob 24 (porterref39_Batch_res N) :=
  Contract.of (E := porterref39_Batch_E N) (H := porterref39_Batch_t N) (L := porterref39_Batch_L) (N := N) (body := porterref39_Batch_body) (K := (kRes (.tup [.str, (.int .i64)]) 1)) (porterref39_Batch_Eok N) Go.Proofs.Try.func24 (by kernel_rfl) (by decide) (fun _ hb => (TabOk.cons (porterref39_Batch_ok1 hb) TabOk.nil)) (fun x y h => by rw [porterref39_Batch_link]; exact h) (kRes_ok (s := (.tup [.str, (.int .i64)])) (m := 1))

noncomputable def porterref43_Blocks_body : Code := (Go.Proofs.Try.f25.body).getD .skip

noncomputable def porterref43_Blocks_L : List (List Nat × List Nat) := [([0], [0]), ([0, 0, 1], [10, 0]), ([1, 0, 1], [0]), ([0, 0, 1, 0, 1], [2]), ([1, 0, 1, 0, 1], [2]), ([0, 1, 1], [0, 3]), ([0, 1, 1, 1], [4, 3]), ([0, 0, 1, 1, 1, 1], [4, 3]), ([0, 0, 0, 0, 0, 1, 1, 1, 1], [14, 3, 4]), ([1, 0, 0, 0, 0, 1, 1, 1, 1], [3, 4]), ([1, 1, 0, 0, 0, 0, 1, 1, 1, 1], [3]), ([0, 0, 1, 0, 0, 0, 1, 1, 1, 1], [4, 3]), ([1, 0, 1, 0, 0, 0, 1, 1, 1, 1], [4, 3]), ([1, 0, 0, 0, 1, 1, 1, 1], [4, 3]), ([0, 1, 1, 1, 1], [3]), ([0, 1, 1, 1, 1, 1], [2]), ([1, 1, 1, 1, 1, 1], [2])]

noncomputable def porterref43_Blocks_E (N : Nat) : Env := mkEnv tys noGlob [] [] [] [] false [] []

theorem porterref43_Blocks_Eok (N : Nat) : EnvOk Go.Proofs.Try.prog (porterref43_Blocks_E N) := mkEnv_ok mixed tys_ok (FnsOk.nil) (ItsOk.nil)

noncomputable def porterref43_Blocks_p2 (N : Nat) (n : Int) (k0 : Bool → Option Int) : Option Int :=
  cond (decide (n < (0 : Int)))
  (k0 true)
  (k0 (decide ((65536 : Int) < n)))

noncomputable def porterref43_Blocks_g2 (N : Nat) (x : denS [(0, .v (.int .i64))]) (K : Ex → List A → Option Int) : Option Int :=
  porterref43_Blocks_p2 N x.1 (fun a1 => (K .normal (mkS [(0, .v (.int .i64)), (9, .v .bool)] 9 (x.1, a1, ()))))

noncomputable def porterref43_Blocks_h2 (N : Nat) : Hd Int := fun st K => (unS [(0, .v (.int .i64))] 19 (restr [0] 0 st)).bind fun x => porterref43_Blocks_g2 N x K

noncomputable def porterref43_Blocks_t2 (N : Nat) : Tab Int := []

theorem porterref43_Blocks_ok2 {N : Nat} {c : Ctx} (hb : Base Go.Proofs.Try.prog (porterref43_Blocks_E N) c) : CodeOk Go.Proofs.Try.prog c (nodeAt porterref43_Blocks_body [0, 0, 1]) (porterref43_Blocks_h2 N) :=
  piece_ok (s := [(0, .v (.int .i64))]) (m := 19) (g := porterref43_Blocks_g2 N) [0] (evN_sound hb N (porterref43_Blocks_t2 N) porterref43_Blocks_L porterref43_Blocks_body TabOk.nil [0, 0, 1] _ rfl) (fun x K => by kernel_rfl)

noncomputable def porterref43_Blocks_p1 (N : Nat) (n : Int) (k0 : Int → Option Int) (k1 : Option Int) : Option Int :=
  porterref43_Blocks_p2 N n
  (fun x10 => cond x10
    (k0 (0 : Int))
    (k1))

noncomputable def porterref43_Blocks_g1 (N : Nat) (x : denS [(0, .v (.int .i64))]) (K : Ex → List A → Option Int) : Option Int :=
  porterref43_Blocks_p1 N x.1 (fun a0 => (K .ret (mkS [(2, .v (.int .i64))] 17 (a0, ())))) (K .normal (mkS [(0, .v (.int .i64))] 19 (x.1, ())))

noncomputable def porterref43_Blocks_h1 (N : Nat) : Hd Int := fun st K => (unS [(0, .v (.int .i64))] 19 (restr [0] 0 st)).bind fun x => porterref43_Blocks_g1 N x K

noncomputable def porterref43_Blocks_t1 (N : Nat) : Tab Int := [([0, 0, 1], porterref43_Blocks_h2 N)]

theorem porterref43_Blocks_ok1 {N : Nat} {c : Ctx} (hb : Base Go.Proofs.Try.prog (porterref43_Blocks_E N) c) : CodeOk Go.Proofs.Try.prog c (nodeAt porterref43_Blocks_body [0, 1]) (porterref43_Blocks_h1 N) :=
  piece_ok (s := [(0, .v (.int .i64))]) (m := 19) (g := porterref43_Blocks_g1 N) [0] (evN_sound hb N (porterref43_Blocks_t1 N) porterref43_Blocks_L porterref43_Blocks_body (TabOk.cons (porterref43_Blocks_ok2 hb) TabOk.nil) [0, 1] _ rfl) (fun x K => by kernel_rfl)

noncomputable def porterref43_Blocks_s3 (N : Nat) (k : Int) (left : Int) (rec : Int → Int → Option Int) (k0 : Int → Option Int) : Option Int :=
  cond (decide ((0 : Int) < left))
  (rec (Go.IntKind.wrap Go.IntKind.i64 (k + (1 : Int))) (Go.IntKind.wrap Go.IntKind.i64 (left - (110 : Int))))
  (k0 k)

noncomputable def porterref43_Blocks_p3 (N : Nat) (k : Int) (left : Int) (k0 : Int → Option Int) : Option Int :=
  iter (fun (v : (Int × Int)) r => porterref43_Blocks_s3 N v.1 v.2 (fun k left => (r (k, left))) k0) N (k, left)

noncomputable def porterref43_Blocks_g3 (N : Nat) (i : Unit) (v : (Int × Int)) (r : (Int × Int) → Option Int) (K : Ex → List A → Option Int) : Option Int :=
  porterref43_Blocks_s3 N v.1 v.2 (fun k left => (r (k, left))) (fun a0 => (K (.exit 0) (mkS [(3, .v (.int .i64))] 16 (a0, ()))))

noncomputable def porterref43_Blocks_h3 (N : Nat) : Hd Int := fun st K => (unS [(3, .v (.int .i64)), (0, .v (.int .i64))] 15 (restr [4, 3] 0 st)).bind fun x => iter (fun v r => porterref43_Blocks_g3 N ((fun x => ()) x) v r K) N ((fun x => (x.1, x.2.1)) x)

noncomputable def porterref43_Blocks_t3 (N : Nat) : Tab Int := []

theorem porterref43_Blocks_ok3 {N : Nat} {c : Ctx} (hb : Base Go.Proofs.Try.prog (porterref43_Blocks_E N) c) : CodeOk Go.Proofs.Try.prog c (nodeAt porterref43_Blocks_body [0, 0, 1, 1, 1, 1]) (porterref43_Blocks_h3 N) :=
  loop_ok (s := [(3, .v (.int .i64)), (0, .v (.int .i64))]) (m := 15) (porterref43_Blocks_g3 N) [4, 3] N (fun x => ()) (fun x => (x.1, x.2.1)) (fun i v => (v.1, v.2, ())) (fun _ => rfl) (evN_sound hb N (porterref43_Blocks_t3 N) porterref43_Blocks_L porterref43_Blocks_body TabOk.nil [0, 0, 0, 1, 1, 1, 1] _ rfl) (fun i v r K => by kernel_rfl)

noncomputable def porterref43_Blocks (N : Nat) (n : Int) : Option Int :=
  porterref43_Blocks_p1 N n
  (fun x2 => some x2)
  (porterref43_Blocks_p3 N (1 : Int) (Go.IntKind.wrap Go.IntKind.i64 (n - (102 : Int)))
    (fun k => some k))

noncomputable def porterref43_Blocks_t (N : Nat) : Tab Int := [([0, 1], porterref43_Blocks_h1 N), ([0, 0, 1, 1, 1, 1], porterref43_Blocks_h3 N)]

theorem porterref43_Blocks_link (N : Nat) (x : denS [(0, .v (.int .i64))]) : evFX (porterref43_Blocks_E N) N (porterref43_Blocks_t N) porterref43_Blocks_L Go.Proofs.Try.f25 (mkS [(0, .v (.int .i64))] 0 x) (kRes (.v (.int .i64)) 1) = porterref43_Blocks N x.1 := by kernel_rfl

noncomputable def porterref43_Blocks_res (N : Nat) : List A → Res := resOf [(0, .v (.int .i64))] (fun x => porterref43_Blocks N x.1) (oRes (.v (.int .i64)) 1)

theorem porterref43_Blocks_ct (N : Nat) : Contract Go.Proofs.Try.prog noGlob 25 (porterref43_Blocks_res N) :=
  Contract.of (E := porterref43_Blocks_E N) (H := porterref43_Blocks_t N) (L := porterref43_Blocks_L) (N := N) (body := porterref43_Blocks_body) (K := (kRes (.v (.int .i64)) 1)) (porterref43_Blocks_Eok N) Go.Proofs.Try.func25 (by kernel_rfl) (by decide) (fun _ hb => (TabOk.cons (porterref43_Blocks_ok1 hb) (TabOk.cons (porterref43_Blocks_ok3 hb) TabOk.nil))) (fun x y h => by rw [porterref43_Blocks_link]; exact h) (kRes_ok (s := (.v (.int .i64))) (m := 1))

noncomputable def porterref48_Image_body : Code := (Go.Proofs.Try.f14.body).getD .skip

noncomputable def porterref48_Image_L : List (List Nat × List Nat) := [([0], [1]), ([0, 1], [3]), ([0, 0, 1, 1], [10, 3]), ([1, 0, 1, 1], [3]), ([0, 0, 1, 0, 1, 1], [2]), ([1, 0, 1, 0, 1, 1], [2]), ([0, 1, 1, 1], [4]), ([0, 1, 1, 1, 1], [2]), ([1, 1, 1, 1, 1], [2])]

noncomputable def porterref48_Image_E (N : Nat) : Env := mkEnv tys noGlob [(25, porterref43_Blocks_res N), (24, porterref39_Batch_res N), (23, porterref40_Image_res N)] [] [] [] false [] []

theorem porterref48_Image_Eok (N : Nat) : EnvOk Go.Proofs.Try.prog (porterref48_Image_E N) := mkEnv_ok mixed tys_ok (FnsOk.cons (porterref43_Blocks_ct N) (FnsOk.cons (porterref39_Batch_ct N) (FnsOk.cons (porterref40_Image_ct N) (FnsOk.nil)))) (ItsOk.nil)

noncomputable def porterref48_Image (N : Nat) (s : ((List ((List UInt8) × (Int × (Int × ((List (Int × ((List UInt8) × Unit))) × Unit))))) × (Int × Unit))) : Option Int :=
  (porterref40_Image N s).bind fun y =>
  cond ((((List.length y) : Nat) : Int) == (0 : Int))
  (some (0 : Int))
  ((porterref39_Batch N y).bind fun y1 =>
    (porterref43_Blocks N (((List.length y1.1) : Nat) : Int)).bind fun y2 =>
    some y2)

noncomputable def porterref48_Image_t (N : Nat) : Tab Int := []

theorem porterref48_Image_link (N : Nat) (x : denS [(0, .v (.pair (.sl (.pair .str (.pair (.int .i64) (.pair (.int .i64) (.pair (.sl (.pair (.int .i64) (.pair .str .unit))) .unit))))) (.pair (.int .i64) .unit)))]) : evFX (porterref48_Image_E N) N (porterref48_Image_t N) porterref48_Image_L Go.Proofs.Try.f14 (mkS [(0, .v (.pair (.sl (.pair .str (.pair (.int .i64) (.pair (.int .i64) (.pair (.sl (.pair (.int .i64) (.pair .str .unit))) .unit))))) (.pair (.int .i64) .unit)))] 0 x) (kRes (.v (.int .i64)) 1) = porterref48_Image N x.1 := by kernel_rfl

noncomputable def porterref48_Image_res (N : Nat) : List A → Res := resOf [(0, .v (.pair (.sl (.pair .str (.pair (.int .i64) (.pair (.int .i64) (.pair (.sl (.pair (.int .i64) (.pair .str .unit))) .unit))))) (.pair (.int .i64) .unit)))] (fun x => porterref48_Image N x.1) (oRes (.v (.int .i64)) 1)

theorem porterref48_Image_ct (N : Nat) : Contract Go.Proofs.Try.prog noGlob 14 (porterref48_Image_res N) :=
  Contract.of (E := porterref48_Image_E N) (H := porterref48_Image_t N) (L := porterref48_Image_L) (N := N) (body := porterref48_Image_body) (K := (kRes (.v (.int .i64)) 1)) (porterref48_Image_Eok N) Go.Proofs.Try.func14 (by kernel_rfl) (by decide) (fun _ hb => TabOk.nil) (fun x y h => by rw [porterref48_Image_link]; exact h) (kRes_ok (s := (.v (.int .i64))) (m := 1))

noncomputable def porterlaw48_BoundTells_body : Code := (Go.Proofs.Try.f3.body).getD .skip

noncomputable def porterlaw48_BoundTells_L : List (List Nat × List Nat) := [([0], [5, 0, 4]), ([0, 0, 1], [8, 0, 4, 5]), ([1, 0, 1], [0, 4, 5]), ([0, 0, 1, 0, 1], [6]), ([1, 0, 1, 0, 1], [6]), ([0, 1, 1], [6]), ([1, 1, 1], [6])]

noncomputable def porterlaw48_BoundTells_E (N : Nat) : Env := mkEnv tys noGlob [(14, porterref48_Image_res N), (12, porterref48_Window_res N), (9, bound_States_res N), (8, porterref48_Automata_res N), (10, porterref01_Mul_res N), (5, porterlaw48_works_res N), (13, bound_Image_res N), (11, bound_Window_res N), (7, bound_Automata_res N), (6, bound_Tags_res N), (4, porterref38_Great_res N)] [] [] [] false [] []

theorem porterlaw48_BoundTells_Eok (N : Nat) : EnvOk Go.Proofs.Try.prog (porterlaw48_BoundTells_E N) := mkEnv_ok mixed tys_ok (FnsOk.cons (porterref48_Image_ct N) (FnsOk.cons (porterref48_Window_ct N) (FnsOk.cons (bound_States_ct N) (FnsOk.cons (porterref48_Automata_ct N) (FnsOk.cons (porterref01_Mul_ct N) (FnsOk.cons (porterlaw48_works_ct N) (FnsOk.cons (bound_Image_ct N) (FnsOk.cons (bound_Window_ct N) (FnsOk.cons (bound_Automata_ct N) (FnsOk.cons (bound_Tags_ct N) (FnsOk.cons (porterref38_Great_ct N) (FnsOk.nil)))))))))))) (ItsOk.nil)

noncomputable def porterlaw48_BoundTells (N : Nat) (n : Int) (c : ((List UInt8) × (Int × (Int × Unit)))) (s : ((List ((List UInt8) × (Int × (Int × ((List (Int × ((List UInt8) × Unit))) × Unit))))) × (Int × Unit))) : Option Bool :=
  (porterref38_Great N s).bind fun y =>
  cond y
  ((porterlaw48_works N).bind fun y1 =>
    some y1)
  ((bound_Tags N n).bind fun y2 =>
    cond (y2 == (Go.IntKind.wrap Go.IntKind.i64 (Int.tdiv (if ((0 : Int) > n) then (0 : Int) else n) (2 : Int))))
    ((bound_Automata N n).bind fun y3 =>
      (porterref48_Automata N n).bind fun y4 =>
      cond (y3 == y4)
      ((bound_States N n).bind fun y5 =>
        (porterref48_Automata N n).bind fun y6 =>
        (porterref01_Mul N y6 (8192 : Int)).bind fun y7 =>
        cond (y5 == y7)
        ((bound_Window N c n).bind fun y8 =>
          (porterref48_Window N c n).bind fun y9 =>
          cond (y8 == y9)
          ((bound_Image N s).bind fun y10 =>
            (porterref48_Image N s).bind fun y11 =>
            cond (y10 == y11)
            ((porterlaw48_works N).bind fun y12 =>
              some y12)
            (some false))
          (some false))
        (some false))
      (some false))
    (some false))

noncomputable def porterlaw48_BoundTells_t (N : Nat) : Tab Bool := []

theorem porterlaw48_BoundTells_link (N : Nat) (x : denS [(0, .v (.int .i64)), (0, .v (.pair .str (.pair (.int .i64) (.pair (.int .i64) .unit)))), (0, .v (.pair (.sl (.pair .str (.pair (.int .i64) (.pair (.int .i64) (.pair (.sl (.pair (.int .i64) (.pair .str .unit))) .unit))))) (.pair (.int .i64) .unit)))]) : evFX (porterlaw48_BoundTells_E N) N (porterlaw48_BoundTells_t N) porterlaw48_BoundTells_L Go.Proofs.Try.f3 (mkS [(0, .v (.int .i64)), (0, .v (.pair .str (.pair (.int .i64) (.pair (.int .i64) .unit)))), (0, .v (.pair (.sl (.pair .str (.pair (.int .i64) (.pair (.int .i64) (.pair (.sl (.pair (.int .i64) (.pair .str .unit))) .unit))))) (.pair (.int .i64) .unit)))] 0 x) (kRes (.v .bool) 3) = porterlaw48_BoundTells N x.1 x.2.1 x.2.2.1 := by kernel_rfl

noncomputable def porterlaw48_BoundTells_res (N : Nat) : List A → Res := resOf [(0, .v (.int .i64)), (0, .v (.pair .str (.pair (.int .i64) (.pair (.int .i64) .unit)))), (0, .v (.pair (.sl (.pair .str (.pair (.int .i64) (.pair (.int .i64) (.pair (.sl (.pair (.int .i64) (.pair .str .unit))) .unit))))) (.pair (.int .i64) .unit)))] (fun x => porterlaw48_BoundTells N x.1 x.2.1 x.2.2.1) (oRes (.v .bool) 3)

theorem porterlaw48_BoundTells_ct (N : Nat) : Contract Go.Proofs.Try.prog noGlob 3 (porterlaw48_BoundTells_res N) :=
  Contract.of (E := porterlaw48_BoundTells_E N) (H := porterlaw48_BoundTells_t N) (L := porterlaw48_BoundTells_L) (N := N) (body := porterlaw48_BoundTells_body) (K := (kRes (.v .bool) 3)) (porterlaw48_BoundTells_Eok N) Go.Proofs.Try.func3 (by kernel_rfl) (by decide) (fun _ hb => TabOk.nil) (fun x y h => by rw [porterlaw48_BoundTells_link]; exact h) (kRes_ok (s := (.v .bool)) (m := 3))

end Go.Proofs.YtofhmgagieigoaaLg

