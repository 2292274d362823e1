import Derived.Test.YtbfmhambfonpcaaDoorLgW
import Derived.Test.YtbfmhambfonpcaaDoorChecked
import Derived.Shelf.Strings.Search1
import Derived.KernelRfl
import Derived.Test.YtbfmhambfonpcaaDoorLgOr
set_option linter.all false
namespace Go.Proofs.YtbfmhambfonpcaaDoorLg
open Go Go.Lift Go.Proofs Go.Shelf

def lays217_ren : Go.Shelf.Ren := ⟨fun | 217 => 59 | 266 => 70 | n => n, fun | 9 => 9 | 5 => 5 | 3 => 3 | n => n, fun | n => n⟩
theorem lays217 : Lays.n217 Tryd.prog lays217_ren where
  mixed := by kernel_rfl
  f217 := Tryd.func59.trans (congrArg some (by kernel_rfl))
  f266 := Tryd.func70.trans (congrArg some (by kernel_rfl))
  t3 := Tryd.underlying3
  a3 := Tryd.isAgg3
  z3 := Tryd.sizeOf3
  v3 := Tryd.zeroValue3
  t5 := Tryd.underlying5
  a5 := Tryd.isAgg5
  z5 := Tryd.sizeOf5
  v5 := Tryd.zeroValue5
  t9 := Tryd.underlying9
  a9 := Tryd.isAgg9
  z9 := Tryd.sizeOf9
  v9 := Tryd.zeroValue9

def idb_F (x : denS [(0, .v .str), (0, .v (.int .u8))]) : Option Int := some (Lib.indexByte x.1 x.2.1.toNat.toUInt8)

def idb_res : List A → Res := resOf [(0, .v .str), (0, .v (.int .u8))] idb_F (oRes (.v (.int .i64)) 2)

theorem idb_ct (glob : Nat → Option Dat) : Contract Tryd.prog glob 59 idb_res := by
  refine Contract.hand ⟨_, Tryd.func59, by kernel_rfl, by decide⟩ ?_
  intro w S vals ob x y har hS hg hy
  obtain ⟨s, c, u⟩ := x
  cases u
  unfold idb_F at hy
  dsimp only at hy s c
  cases hy
  obtain ⟨⟨v0, hv0, hA0, ho0⟩, _⟩ := har.rel 0 _ rfl
  obtain ⟨⟨v1, hv1, hA1, ho1⟩, _⟩ := har.rel 1 _ rfl
  have hlen := har.len
  obtain ⟨u0, u1, rfl⟩ : ∃ u0 u1, vals = [u0, u1] := by
    have : vals.length = 2 := by simpa [mkS, deads] using hlen.symm
    match vals, this with
    | [a, b], _ => exact ⟨a, b, rfl⟩
  simp at hv0 hv1
  subst hv0; subst hv1
  have e0 := hA0.str_inv
  subst e0
  have e1 := hA1.int_inv
  subst e1
  have hnone : ∀ i, ob i = [] := by
    intro i
    match i with
    | 0 => exact ho0
    | 1 => exact ho1
    | i + 2 => exact har.out _ (by simp [mkS, deads])
  refine (Any.stringslite_IndexByte lays217 ⟨⟨s⟩⟩ c w).mono ?_
  rintro e w' ⟨rfl, rfl⟩
  refine ⟨_, S, [], ob, rfl, WF.refl _ _, Lift.Sub.refl _, hS, fun k hk => .inl hk, ⟨⟨VR.int, rfl⟩, rfl⟩, (fun k hk => by cases hk), .nil, ?_, ?_, har.inj, har.nd, fun i hi => hi⟩
  · intro i z hz hbx
    match i with
    | 0 => simp [mkS, deads, AS.mk] at hz; subst hz; cases hbx
    | 1 => simp [mkS, deads, AS.mk] at hz; subst hz; cases hbx
    | i + 2 => simp [mkS, deads] at hz
  · intro i k hk
    rw [hnone i] at hk; cases hk

end Go.Proofs.YtbfmhambfonpcaaDoorLg

set_option linter.all false
set_option maxRecDepth 100000
namespace Go.Proofs.YtbfmhambfonpcaaDoorLg
open Go Go.Lift

noncomputable def ty3 : TyI := ⟨(Go.TypeDesc.int Go.IntKind.i64), 1, 8, (.int .i64), (0 : Int), false⟩

theorem ty3_ok : TyOk Go.Proofs.Tryd.prog 3 ty3 := TyOk.of (by kernel_rfl) (by kernel_rfl) (by kernel_rfl) (by kernel_rfl)

noncomputable def ty4 : TyI := ⟨Go.TypeDesc.bool, 1, 1, .bool, false, false⟩

theorem ty4_ok : TyOk Go.Proofs.Tryd.prog 4 ty4 := TyOk.of (by kernel_rfl) (by kernel_rfl) (by kernel_rfl) (by kernel_rfl)

noncomputable def ty5 : TyI := ⟨(Go.TypeDesc.int Go.IntKind.u8), 1, 1, (.int .u8), (0 : Int), false⟩

theorem ty5_ok : TyOk Go.Proofs.Tryd.prog 5 ty5 := TyOk.of (by kernel_rfl) (by kernel_rfl) (by kernel_rfl) (by kernel_rfl)

noncomputable def ty9 : TyI := ⟨Go.TypeDesc.string, 1, 16, .str, ([] : List UInt8), false⟩

theorem ty9_ok : TyOk Go.Proofs.Tryd.prog 9 ty9 := TyOk.of (by kernel_rfl) (by kernel_rfl) (by kernel_rfl) (by kernel_rfl)

noncomputable def ty22 : TyI := ⟨(Go.TypeDesc.int Go.IntKind.u64), 1, 8, (.int .u64), (0 : Int), false⟩

theorem ty22_ok : TyOk Go.Proofs.Tryd.prog 22 ty22 := TyOk.of (by kernel_rfl) (by kernel_rfl) (by kernel_rfl) (by kernel_rfl)

noncomputable def ty24 : TyI := ⟨(Go.TypeDesc.array 4 22), 4, 32, (.arr 4 (.int .u64)), ([(0 : Int), (0 : Int), (0 : Int), (0 : Int)] : List Int), true⟩

theorem ty24_ok : TyOk Go.Proofs.Tryd.prog 24 ty24 := TyOk.of (by kernel_rfl) (by kernel_rfl) (by kernel_rfl) (by kernel_rfl)

noncomputable def ty25 : TyI := ⟨(Go.TypeDesc.slice 27), 1, 24, (.sl .nod), ([] : List Tree), false⟩

theorem ty25_ok : TyOk Go.Proofs.Tryd.prog 25 ty25 := TyOk.of (by kernel_rfl) (by kernel_rfl) (by kernel_rfl) (by kernel_rfl)

noncomputable def ty27 : TyI := ⟨(Go.TypeDesc.struct (List.toArray ([(Go.Field.mk "Kind" 3 0 false "" "" 0), (Go.Field.mk "Set" 24 1 false "" "" 8), (Go.Field.mk "Kids" 25 5 false "" "" 40), (Go.Field.mk "Min" 3 6 false "" "" 64), (Go.Field.mk "Max" 3 7 false "" "" 72)] : List Go.Field))), 8, 80, (.pair (.int .i64) (.pair (.arr 4 (.int .u64)) (.pair (.sl .nod) (.pair (.int .i64) (.pair (.int .i64) .unit))))), ((0 : Int), ([(0 : Int), (0 : Int), (0 : Int), (0 : Int)] : List Int), ([] : List Tree), (0 : Int), (0 : Int), ()), true⟩

theorem ty27_ok : TyOk Go.Proofs.Tryd.prog 27 ty27 := TyOk.of (by kernel_rfl) (by kernel_rfl) (by kernel_rfl) (by kernel_rfl)

noncomputable def ty34 : TyI := ⟨(Go.TypeDesc.int Go.IntKind.i64), 1, 8, (.int .i64), (0 : Int), false⟩

theorem ty34_ok : TyOk Go.Proofs.Tryd.prog 34 ty34 := TyOk.of (by kernel_rfl) (by kernel_rfl) (by kernel_rfl) (by kernel_rfl)

noncomputable def ty36 : TyI := ⟨(Go.TypeDesc.struct (List.toArray ([(Go.Field.mk "E" 34 0 false "" "" 0), (Go.Field.mk "At" 3 1 false "" "" 8)] : List Go.Field))), 2, 16, (.pair (.int .i64) (.pair (.int .i64) .unit)), ((0 : Int), (0 : Int), ()), true⟩

theorem ty36_ok : TyOk Go.Proofs.Tryd.prog 36 ty36 := TyOk.of (by kernel_rfl) (by kernel_rfl) (by kernel_rfl) (by kernel_rfl)

noncomputable def ty43 : TyI := ⟨(Go.TypeDesc.pointer 45), 1, 8, .opq, (Go.Value.pointer none), false⟩

theorem ty43_ok : TyOk Go.Proofs.Tryd.prog 43 ty43 := TyOk.of (by kernel_rfl) (by kernel_rfl) (by kernel_rfl) (by kernel_rfl)

noncomputable def ty45 : TyI := ⟨(Go.TypeDesc.struct (List.toArray ([(Go.Field.mk "s" 9 0 false "" "porter/regex" 0), (Go.Field.mk "at" 3 1 false "" "porter/regex" 16), (Go.Field.mk "open" 3 2 false "" "porter/regex" 24)] : List Go.Field))), 3, 32, (.pair .str (.pair (.int .i64) (.pair (.int .i64) .unit))), (([] : List UInt8), (0 : Int), (0 : Int), ()), true⟩

theorem ty45_ok : TyOk Go.Proofs.Tryd.prog 45 ty45 := TyOk.of (by kernel_rfl) (by kernel_rfl) (by kernel_rfl) (by kernel_rfl)

noncomputable def ty49 : TyI := ⟨(Go.TypeDesc.struct (List.toArray ([(Go.Field.mk "N" 27 0 false "" "" 0), (Go.Field.mk "Set" 24 8 false "" "" 80), (Go.Field.mk "Many" 4 12 false "" "" 112), (Go.Field.mk "At" 3 13 false "" "" 120), (Go.Field.mk "F" 36 14 false "" "" 128)] : List Go.Field))), 16, 144, (.pair (.pair (.int .i64) (.pair (.arr 4 (.int .u64)) (.pair (.sl .nod) (.pair (.int .i64) (.pair (.int .i64) .unit))))) (.pair (.arr 4 (.int .u64)) (.pair .bool (.pair (.int .i64) (.pair (.pair (.int .i64) (.pair (.int .i64) .unit)) .unit))))), (((0 : Int), ([(0 : Int), (0 : Int), (0 : Int), (0 : Int)] : List Int), ([] : List Tree), (0 : Int), (0 : Int), ()), ([(0 : Int), (0 : Int), (0 : Int), (0 : Int)] : List Int), false, (0 : Int), ((0 : Int), (0 : Int), ()), ()), true⟩

theorem ty49_ok : TyOk Go.Proofs.Tryd.prog 49 ty49 := TyOk.of (by kernel_rfl) (by kernel_rfl) (by kernel_rfl) (by kernel_rfl)

noncomputable def ty78 : TyI := ⟨(Go.TypeDesc.int Go.IntKind.u64), 1, 8, (.int .u64), (0 : Int), false⟩

theorem ty78_ok : TyOk Go.Proofs.Tryd.prog 78 ty78 := TyOk.of (by kernel_rfl) (by kernel_rfl) (by kernel_rfl) (by kernel_rfl)

noncomputable def ty84 : TyI := ⟨(Go.TypeDesc.array 64 5), 64, 64, (.arr 64 (.int .u8)), ((0 : Int) :: (0 : Int) :: (0 : Int) :: (0 : Int) :: (0 : Int) :: (0 : Int) :: (0 : Int) :: (0 : Int) :: (0 : Int) :: (0 : Int) :: (0 : Int) :: (0 : Int) :: (0 : Int) :: (0 : Int) :: (0 : Int) :: (0 : Int) :: (0 : Int) :: (0 : Int) :: (0 : Int) :: (0 : Int) :: (0 : Int) :: (0 : Int) :: (0 : Int) :: (0 : Int) :: (0 : Int) :: (0 : Int) :: (0 : Int) :: (0 : Int) :: (0 : Int) :: (0 : Int) :: (0 : Int) :: (0 : Int) :: (0 : Int) :: (0 : Int) :: (0 : Int) :: (0 : Int) :: (0 : Int) :: (0 : Int) :: (0 : Int) :: (0 : Int) :: (0 : Int) :: (0 : Int) :: (0 : Int) :: (0 : Int) :: (0 : Int) :: (0 : Int) :: (0 : Int) :: (0 : Int) :: (0 : Int) :: (0 : Int) :: (0 : Int) :: (0 : Int) :: (0 : Int) :: (0 : Int) :: (0 : Int) :: (0 : Int) :: (0 : Int) :: (0 : Int) :: (0 : Int) :: (0 : Int) :: (0 : Int) :: (0 : Int) :: (0 : Int) :: (0 : Int) :: ([] : List Int)), true⟩

theorem ty84_ok : TyOk Go.Proofs.Tryd.prog 84 ty84 := TyOk.of (by kernel_rfl) (by kernel_rfl) (by kernel_rfl) (by kernel_rfl)

noncomputable def tys : List (Nat × TyI) := [(3, ty3), (4, ty4), (5, ty5), (9, ty9), (22, ty22), (24, ty24), (25, ty25), (27, ty27), (34, ty34), (36, ty36), (43, ty43), (45, ty45), (49, ty49), (78, ty78), (84, ty84)]

theorem tys_ok : TysOk Go.Proofs.Tryd.prog tys := TysOk.cons ty3_ok (TysOk.cons ty4_ok (TysOk.cons ty5_ok (TysOk.cons ty9_ok (TysOk.cons ty22_ok (TysOk.cons ty24_ok (TysOk.cons ty25_ok (TysOk.cons ty27_ok (TysOk.cons ty34_ok (TysOk.cons ty36_ok (TysOk.cons ty43_ok (TysOk.cons ty45_ok (TysOk.cons ty49_ok (TysOk.cons ty78_ok (TysOk.cons ty84_ok (TysOk.nil)))))))))))))))

theorem mixed : Go.Proofs.Tryd.prog.follows .mixedOrders = true := by kernel_rfl

noncomputable def glob1 : List Int := [0, 1, 56, 2, 57, 49, 28, 3, 61, 58, 42, 50, 38, 29, 17, 4, 62, 47, 59, 36, 45, 43, 51, 22, 53, 39, 33, 30, 24, 18, 12, 5, 63, 55, 48, 27, 60, 41, 37, 16, 46, 35, 44, 21, 52, 32, 23, 11, 54, 26, 40, 15, 34, 20, 31, 10, 25, 14, 19, 9, 13, 8, 7, 6]

noncomputable def glob : Nat → Option Dat := lk [(1, ⟨(.arr 64 (.int .u8)), glob1⟩)]

noncomputable def porterref13_Same_body : Code := (Go.Proofs.Tryd.f12.body).getD .skip

noncomputable def porterref13_Same_L : List (List Nat × List Nat) := [([0], [2, 3]), ([0, 0, 1], [40, 2, 3]), ([1, 0, 1], [2, 3]), ([0, 0, 1, 0, 1], [4]), ([1, 0, 1, 0, 1], [4]), ([0, 0, 1, 1], [5, 2, 3]), ([0, 1, 0, 1, 1], [5, 2, 3]), ([0, 0, 0, 0, 1, 0, 1, 1], [45, 2, 5, 3]), ([1, 0, 0, 0, 1, 0, 1, 1], [2, 5, 3]), ([1, 1, 0, 0, 0, 1, 0, 1, 1], []), ([0, 0, 0, 1, 0, 0, 1, 0, 1, 1], [59, 5, 2, 3]), ([1, 0, 0, 1, 0, 0, 1, 0, 1, 1], [5, 2, 3]), ([0, 0, 1, 0, 0, 1, 0, 0, 1, 0, 1, 1], [4]), ([1, 0, 1, 0, 0, 1, 0, 0, 1, 0, 1, 1], [4]), ([0, 1, 0, 0, 1, 0, 1, 1], [5, 2, 3]), ([1, 1, 0, 0, 1, 0, 1, 1], [5, 2, 3]), ([1, 0, 1, 1], []), ([0, 1, 1, 1], [4]), ([1, 1, 1, 1], [4])]

noncomputable def porterref13_Same_E (N : Nat) (self : (Int × ((List Int) × ((List Tree) × (Int × (Int × Unit))))) → (Int × ((List Int) × ((List Tree) × (Int × (Int × Unit))))) → Option Bool) : Env := mkEnv tys glob [(12, resOf [(0, .v (.pair (.int .i64) (.pair (.arr 4 (.int .u64)) (.pair (.sl .nod) (.pair (.int .i64) (.pair (.int .i64) .unit)))))), (0, .v (.pair (.int .i64) (.pair (.arr 4 (.int .u64)) (.pair (.sl .nod) (.pair (.int .i64) (.pair (.int .i64) .unit))))))] (fun x => self x.1 x.2.1) (oRes (.v .bool) 2))] [] [] [] false [] []

theorem porterref13_Same_Eok (N : Nat) (self : (Int × ((List Int) × ((List Tree) × (Int × (Int × Unit))))) → (Int × ((List Int) × ((List Tree) × (Int × (Int × Unit))))) → Option Bool) (hself : Contract Go.Proofs.Tryd.prog glob 12 (resOf [(0, .v (.pair (.int .i64) (.pair (.arr 4 (.int .u64)) (.pair (.sl .nod) (.pair (.int .i64) (.pair (.int .i64) .unit)))))), (0, .v (.pair (.int .i64) (.pair (.arr 4 (.int .u64)) (.pair (.sl .nod) (.pair (.int .i64) (.pair (.int .i64) .unit))))))] (fun x => self x.1 x.2.1) (oRes (.v .bool) 2))) : EnvOk Go.Proofs.Tryd.prog (porterref13_Same_E N self) := mkEnv_ok mixed tys_ok (FnsOk.cons (hself) (FnsOk.nil)) (ItsOk.nil)

noncomputable def porterref13_Same_p2 (N : Nat) (self : (Int × ((List Int) × ((List Tree) × (Int × (Int × Unit))))) → (Int × ((List Int) × ((List Tree) × (Int × (Int × Unit))))) → Option Bool) (a : (Int × ((List Int) × ((List Tree) × (Int × (Int × Unit)))))) (b : (Int × ((List Int) × ((List Tree) × (Int × (Int × Unit)))))) (k0 : Bool → Option Bool) : Option Bool :=
 cond (a.1 != b.1)
 (k0 true)
 (cond (!(Go.Lift.eqD (Go.Lift.T.arr 4 (Go.Lift.T.int Go.IntKind.u64)) a.2.1 b.2.1))
 (k0 true)
 (cond (a.2.2.2.1 != b.2.2.2.1)
 (k0 true)
 (cond (a.2.2.2.2.1 != b.2.2.2.2.1)
 (k0 true)
 (k0 ((((List.length a.2.2.1) : Nat) : Int) != (((List.length b.2.2.1) : Nat) : Int))))))

noncomputable def porterref13_Same_g2 (N : Nat) (self : (Int × ((List Int) × ((List Tree) × (Int × (Int × Unit))))) → (Int × ((List Int) × ((List Tree) × (Int × (Int × Unit))))) → Option Bool) (x : denS [(2, .box (.pair (.int .i64) (.pair (.arr 4 (.int .u64)) (.pair (.sl .nod) (.pair (.int .i64) (.pair (.int .i64) .unit)))))), (0, .box (.pair (.int .i64) (.pair (.arr 4 (.int .u64)) (.pair (.sl .nod) (.pair (.int .i64) (.pair (.int .i64) .unit))))))]) (K : Ex → List A → Option Bool) : Option Bool :=
 porterref13_Same_p2 N self x.1 x.2.1 (fun a2 => (K .normal (mkS [(2, .box (.pair (.int .i64) (.pair (.arr 4 (.int .u64)) (.pair (.sl .nod) (.pair (.int .i64) (.pair (.int .i64) .unit)))))), (0, .box (.pair (.int .i64) (.pair (.arr 4 (.int .u64)) (.pair (.sl .nod) (.pair (.int .i64) (.pair (.int .i64) .unit)))))), (36, .v .bool)] 19 (x.1, x.2.1, a2, ()))))

noncomputable def porterref13_Same_h2 (N : Nat) (self : (Int × ((List Int) × ((List Tree) × (Int × (Int × Unit))))) → (Int × ((List Int) × ((List Tree) × (Int × (Int × Unit))))) → Option Bool) : Hd Bool := fun st K => (unS [(2, .box (.pair (.int .i64) (.pair (.arr 4 (.int .u64)) (.pair (.sl .nod) (.pair (.int .i64) (.pair (.int .i64) .unit)))))), (0, .box (.pair (.int .i64) (.pair (.arr 4 (.int .u64)) (.pair (.sl .nod) (.pair (.int .i64) (.pair (.int .i64) .unit))))))] 56 (restr [2, 3] 0 st)).bind fun x => porterref13_Same_g2 N self x K

noncomputable def porterref13_Same_t2 (N : Nat) (self : (Int × ((List Int) × ((List Tree) × (Int × (Int × Unit))))) → (Int × ((List Int) × ((List Tree) × (Int × (Int × Unit))))) → Option Bool) : Tab Bool := []

theorem porterref13_Same_ok2 {N : Nat} {self : (Int × ((List Int) × ((List Tree) × (Int × (Int × Unit))))) → (Int × ((List Int) × ((List Tree) × (Int × (Int × Unit))))) → Option Bool} {c : Ctx} (hb : Base Go.Proofs.Tryd.prog (porterref13_Same_E N self) c) : CodeOk Go.Proofs.Tryd.prog c (nodeAt porterref13_Same_body [0, 0, 1]) (porterref13_Same_h2 N self) :=
  piece_ok (s := [(2, .box (.pair (.int .i64) (.pair (.arr 4 (.int .u64)) (.pair (.sl .nod) (.pair (.int .i64) (.pair (.int .i64) .unit)))))), (0, .box (.pair (.int .i64) (.pair (.arr 4 (.int .u64)) (.pair (.sl .nod) (.pair (.int .i64) (.pair (.int .i64) .unit))))))]) (m := 56) (g := porterref13_Same_g2 N self) [2, 3] (evN_sound hb N (porterref13_Same_t2 N self) porterref13_Same_L porterref13_Same_body TabOk.nil [0, 0, 1] _ rfl) (fun x K => by kernel_rfl)

noncomputable def porterref13_Same_p1 (N : Nat) (self : (Int × ((List Int) × ((List Tree) × (Int × (Int × Unit))))) → (Int × ((List Int) × ((List Tree) × (Int × (Int × Unit))))) → Option Bool) (a : (Int × ((List Int) × ((List Tree) × (Int × (Int × Unit)))))) (b : (Int × ((List Int) × ((List Tree) × (Int × (Int × Unit)))))) (k0 : Bool → Option Bool) (k1 : Option Bool) : Option Bool :=
 porterref13_Same_p2 N self a b
 (fun x40 => cond x40
 (k0 false)
 (k1))

noncomputable def porterref13_Same_g1 (N : Nat) (self : (Int × ((List Int) × ((List Tree) × (Int × (Int × Unit))))) → (Int × ((List Int) × ((List Tree) × (Int × (Int × Unit))))) → Option Bool) (x : denS [(2, .box (.pair (.int .i64) (.pair (.arr 4 (.int .u64)) (.pair (.sl .nod) (.pair (.int .i64) (.pair (.int .i64) .unit)))))), (0, .box (.pair (.int .i64) (.pair (.arr 4 (.int .u64)) (.pair (.sl .nod) (.pair (.int .i64) (.pair (.int .i64) .unit))))))]) (K : Ex → List A → Option Bool) : Option Bool :=
 porterref13_Same_p1 N self x.1 x.2.1 (fun a0 => (K .ret (mkS [(4, .v .bool)] 55 (a0, ())))) (K .normal (mkS [(2, .box (.pair (.int .i64) (.pair (.arr 4 (.int .u64)) (.pair (.sl .nod) (.pair (.int .i64) (.pair (.int .i64) .unit)))))), (0, .box (.pair (.int .i64) (.pair (.arr 4 (.int .u64)) (.pair (.sl .nod) (.pair (.int .i64) (.pair (.int .i64) .unit))))))] 56 (x.1, x.2.1, ())))

noncomputable def porterref13_Same_h1 (N : Nat) (self : (Int × ((List Int) × ((List Tree) × (Int × (Int × Unit))))) → (Int × ((List Int) × ((List Tree) × (Int × (Int × Unit))))) → Option Bool) : Hd Bool := fun st K => (unS [(2, .box (.pair (.int .i64) (.pair (.arr 4 (.int .u64)) (.pair (.sl .nod) (.pair (.int .i64) (.pair (.int .i64) .unit)))))), (0, .box (.pair (.int .i64) (.pair (.arr 4 (.int .u64)) (.pair (.sl .nod) (.pair (.int .i64) (.pair (.int .i64) .unit))))))] 56 (restr [2, 3] 0 st)).bind fun x => porterref13_Same_g1 N self x K

noncomputable def porterref13_Same_t1 (N : Nat) (self : (Int × ((List Int) × ((List Tree) × (Int × (Int × Unit))))) → (Int × ((List Int) × ((List Tree) × (Int × (Int × Unit))))) → Option Bool) : Tab Bool := [([0, 0, 1], porterref13_Same_h2 N self)]

theorem porterref13_Same_ok1 {N : Nat} {self : (Int × ((List Int) × ((List Tree) × (Int × (Int × Unit))))) → (Int × ((List Int) × ((List Tree) × (Int × (Int × Unit))))) → Option Bool} {c : Ctx} (hb : Base Go.Proofs.Tryd.prog (porterref13_Same_E N self) c) : CodeOk Go.Proofs.Tryd.prog c (nodeAt porterref13_Same_body [0, 1]) (porterref13_Same_h1 N self) :=
  piece_ok (s := [(2, .box (.pair (.int .i64) (.pair (.arr 4 (.int .u64)) (.pair (.sl .nod) (.pair (.int .i64) (.pair (.int .i64) .unit)))))), (0, .box (.pair (.int .i64) (.pair (.arr 4 (.int .u64)) (.pair (.sl .nod) (.pair (.int .i64) (.pair (.int .i64) .unit))))))]) (m := 56) (g := porterref13_Same_g1 N self) [2, 3] (evN_sound hb N (porterref13_Same_t1 N self) porterref13_Same_L porterref13_Same_body (TabOk.cons (porterref13_Same_ok2 hb) TabOk.nil) [0, 1] _ rfl) (fun x K => by kernel_rfl)

noncomputable def porterref13_Same_s3 (N : Nat) (self : (Int × ((List Int) × ((List Tree) × (Int × (Int × Unit))))) → (Int × ((List Int) × ((List Tree) × (Int × (Int × Unit))))) → Option Bool) (a : (Int × ((List Int) × ((List Tree) × (Int × (Int × Unit)))))) (b : (Int × ((List Int) × ((List Tree) × (Int × (Int × Unit)))))) (i : Int) (rec : Int → Option Bool) (k0 : Bool → Option Bool) (k1 : Option Bool) : Option Bool :=
 cond (decide (i < (((List.length a.2.2.1) : Nat) : Int)))
 (cond (Go.Lift.inR i (List.length a.2.2.1))
 (cond (Go.Lift.inR i (List.length b.2.2.1))
 ((self (Go.Lift.unN (List.getD a.2.2.1 (Int.toNat i) (Go.Lift.Tree.mk (0 : Int) ([] : List Int) ([] : List Go.Lift.Tree) (0 : Int) (0 : Int)))) (Go.Lift.unN (List.getD b.2.2.1 (Int.toNat i) (Go.Lift.Tree.mk (0 : Int) ([] : List Int) ([] : List Go.Lift.Tree) (0 : Int) (0 : Int))))).bind fun y =>
 cond (!y)
 (k0 false)
 (rec (Go.IntKind.wrap Go.IntKind.i64 (i + (1 : Int)))))
 (none))
 (none))
 (k1)

noncomputable def porterref13_Same_p3 (N : Nat) (self : (Int × ((List Int) × ((List Tree) × (Int × (Int × Unit))))) → (Int × ((List Int) × ((List Tree) × (Int × (Int × Unit))))) → Option Bool) (a : (Int × ((List Int) × ((List Tree) × (Int × (Int × Unit)))))) (b : (Int × ((List Int) × ((List Tree) × (Int × (Int × Unit)))))) (i : Int) (k0 : Bool → Option Bool) (k1 : Option Bool) : Option Bool :=
 iter (fun (v : Int) r => porterref13_Same_s3 N self a b v (fun i => (r i)) k0 k1) N i

noncomputable def porterref13_Same_g3 (N : Nat) (self : (Int × ((List Int) × ((List Tree) × (Int × (Int × Unit))))) → (Int × ((List Int) × ((List Tree) × (Int × (Int × Unit))))) → Option Bool) (i : ((Int × ((List Int) × ((List Tree) × (Int × (Int × Unit))))) × (Int × ((List Int) × ((List Tree) × (Int × (Int × Unit))))))) (v : Int) (r : Int → Option Bool) (K : Ex → List A → Option Bool) : Option Bool :=
 porterref13_Same_s3 N self i.1 i.2 v (fun i => (r i)) (fun a0 => (K .ret (mkS [(4, .v .bool)] 55 (a0, ())))) (K (.exit 0) (mkS [] 60 ()))

noncomputable def porterref13_Same_h3 (N : Nat) (self : (Int × ((List Int) × ((List Tree) × (Int × (Int × Unit))))) → (Int × ((List Int) × ((List Tree) × (Int × (Int × Unit))))) → Option Bool) : Hd Bool := fun st K => (unS [(2, .box (.pair (.int .i64) (.pair (.arr 4 (.int .u64)) (.pair (.sl .nod) (.pair (.int .i64) (.pair (.int .i64) .unit)))))), (0, .box (.pair (.int .i64) (.pair (.arr 4 (.int .u64)) (.pair (.sl .nod) (.pair (.int .i64) (.pair (.int .i64) .unit)))))), (1, .v (.int .i64))] 54 (restr [5, 2, 3] 0 st)).bind fun x => iter (fun v r => porterref13_Same_g3 N self ((fun x => (x.1, x.2.1)) x) v r K) N ((fun x => x.2.2.1) x)

noncomputable def porterref13_Same_t3 (N : Nat) (self : (Int × ((List Int) × ((List Tree) × (Int × (Int × Unit))))) → (Int × ((List Int) × ((List Tree) × (Int × (Int × Unit))))) → Option Bool) : Tab Bool := []

theorem porterref13_Same_ok3 {N : Nat} {self : (Int × ((List Int) × ((List Tree) × (Int × (Int × Unit))))) → (Int × ((List Int) × ((List Tree) × (Int × (Int × Unit))))) → Option Bool} {c : Ctx} (hb : Base Go.Proofs.Tryd.prog (porterref13_Same_E N self) c) : CodeOk Go.Proofs.Tryd.prog c (nodeAt porterref13_Same_body [0, 1, 0, 1, 1]) (porterref13_Same_h3 N self) :=
  loop_ok (s := [(2, .box (.pair (.int .i64) (.pair (.arr 4 (.int .u64)) (.pair (.sl .nod) (.pair (.int .i64) (.pair (.int .i64) .unit)))))), (0, .box (.pair (.int .i64) (.pair (.arr 4 (.int .u64)) (.pair (.sl .nod) (.pair (.int .i64) (.pair (.int .i64) .unit)))))), (1, .v (.int .i64))]) (m := 54) (porterref13_Same_g3 N self) [5, 2, 3] N (fun x => (x.1, x.2.1)) (fun x => x.2.2.1) (fun i v => (i.1, i.2, v, ())) (fun _ => rfl) (evN_sound hb N (porterref13_Same_t3 N self) porterref13_Same_L porterref13_Same_body TabOk.nil [0, 0, 1, 0, 1, 1] _ rfl) (fun i v r K => by kernel_rfl)

noncomputable def porterref13_Same_F (N : Nat) (self : (Int × ((List Int) × ((List Tree) × (Int × (Int × Unit))))) → (Int × ((List Int) × ((List Tree) × (Int × (Int × Unit))))) → Option Bool) (a : (Int × ((List Int) × ((List Tree) × (Int × (Int × Unit)))))) (b : (Int × ((List Int) × ((List Tree) × (Int × (Int × Unit)))))) : Option Bool :=
 porterref13_Same_p1 N self a b
 (fun x4 => some x4)
 (porterref13_Same_p3 N self a b (0 : Int)
 (fun x41 => some x41)
 (some true))

noncomputable def porterref13_Same_t (N : Nat) (self : (Int × ((List Int) × ((List Tree) × (Int × (Int × Unit))))) → (Int × ((List Int) × ((List Tree) × (Int × (Int × Unit))))) → Option Bool) : Tab Bool := [([0, 1], porterref13_Same_h1 N self), ([0, 1, 0, 1, 1], porterref13_Same_h3 N self)]

theorem porterref13_Same_link (N : Nat) (self : (Int × ((List Int) × ((List Tree) × (Int × (Int × Unit))))) → (Int × ((List Int) × ((List Tree) × (Int × (Int × Unit))))) → Option Bool) (x : denS [(0, .v (.pair (.int .i64) (.pair (.arr 4 (.int .u64)) (.pair (.sl .nod) (.pair (.int .i64) (.pair (.int .i64) .unit)))))), (0, .v (.pair (.int .i64) (.pair (.arr 4 (.int .u64)) (.pair (.sl .nod) (.pair (.int .i64) (.pair (.int .i64) .unit))))))]) : evFX (porterref13_Same_E N self) N (porterref13_Same_t N self) porterref13_Same_L Go.Proofs.Tryd.f12 (mkS [(0, .v (.pair (.int .i64) (.pair (.arr 4 (.int .u64)) (.pair (.sl .nod) (.pair (.int .i64) (.pair (.int .i64) .unit)))))), (0, .v (.pair (.int .i64) (.pair (.arr 4 (.int .u64)) (.pair (.sl .nod) (.pair (.int .i64) (.pair (.int .i64) .unit))))))] 0 x) (kRes (.v .bool) 2) = porterref13_Same_F N self x.1 x.2.1 := by kernel_rfl

noncomputable def porterref13_Same : Nat → (Int × ((List Int) × ((List Tree) × (Int × (Int × Unit))))) → (Int × ((List Int) × ((List Tree) × (Int × (Int × Unit))))) → Option Bool
  | 0 => fun _ _ => none
  | N + 1 => porterref13_Same_F (N + 1) (porterref13_Same N)

noncomputable def porterref13_Same_res (N : Nat) : List A → Res := resOf [(0, .v (.pair (.int .i64) (.pair (.arr 4 (.int .u64)) (.pair (.sl .nod) (.pair (.int .i64) (.pair (.int .i64) .unit)))))), (0, .v (.pair (.int .i64) (.pair (.arr 4 (.int .u64)) (.pair (.sl .nod) (.pair (.int .i64) (.pair (.int .i64) .unit))))))] (fun x => porterref13_Same N x.1 x.2.1) (oRes (.v .bool) 2)

theorem porterref13_Same_ct : ∀ N : Nat, Contract Go.Proofs.Tryd.prog glob 12 (porterref13_Same_res N)
  | 0 => Contract.zero Go.Proofs.Tryd.func12 (body := porterref13_Same_body) (by kernel_rfl) (by decide) (fun _ => rfl)
  | N + 1 => Contract.of (E := porterref13_Same_E (N + 1) (porterref13_Same N)) (H := porterref13_Same_t (N + 1) (porterref13_Same N)) (L := porterref13_Same_L) (N := (N + 1)) (body := porterref13_Same_body) (K := (kRes (.v .bool) 2)) (porterref13_Same_Eok (N + 1) (porterref13_Same N) (porterref13_Same_ct N)) Go.Proofs.Tryd.func12 (by kernel_rfl) (by decide) (fun _ hb => (TabOk.cons (porterref13_Same_ok1 hb) (TabOk.cons (porterref13_Same_ok3 hb) TabOk.nil))) (fun x y h => by rw [porterref13_Same_link]; exact h) (kRes_ok (s := (.v .bool)) (m := 2))

noncomputable def regex_parser_next_body : Code := (Go.Proofs.Tryd.f56.body).getD .skip

noncomputable def regex_parser_next_L : List (List Nat × List Nat) := [([0], [0]), ([0, 0, 1], [12, 0]), ([1, 0, 1], [0]), ([0, 1, 0, 1], [0]), ([0, 1, 1], [2, 0]), ([1, 1, 1], [2, 0])]

noncomputable def regex_parser_next_E (N : Nat) : Env := mkEnv tys glob [] [] [] [0] false [] []

theorem regex_parser_next_Eok (N : Nat) : EnvOk Go.Proofs.Tryd.prog (regex_parser_next_E N) := mkEnv_ok mixed tys_ok (FnsOk.nil) (ItsOk.nil)

noncomputable def regex_parser_next_p1 (N : Nat) (p : ((List UInt8) × (Int × (Int × Unit)))) (k0 : Option (Int × (((List UInt8) × (Int × (Int × Unit))) × Unit))) : Option (Int × (((List UInt8) × (Int × (Int × Unit))) × Unit)) :=
 cond (p.2.1 == (((List.length p.1) : Nat) : Int))
 (none)
 (k0)

noncomputable def regex_parser_next_g1 (N : Nat) (x : denS [(0, .box (.pair .str (.pair (.int .i64) (.pair (.int .i64) .unit))))]) (K : Ex → List A → Option (Int × (((List UInt8) × (Int × (Int × Unit))) × Unit))) : Option (Int × (((List UInt8) × (Int × (Int × Unit))) × Unit)) :=
 regex_parser_next_p1 N x.1 (K .normal (mkS [(0, .box (.pair .str (.pair (.int .i64) (.pair (.int .i64) .unit))))] 27 (x.1, ())))

noncomputable def regex_parser_next_h1 (N : Nat) : Hd (Int × (((List UInt8) × (Int × (Int × Unit))) × Unit)) := fun st K => (unS [(0, .box (.pair .str (.pair (.int .i64) (.pair (.int .i64) .unit))))] 27 (restr [0] 0 st)).bind fun x => regex_parser_next_g1 N x K

noncomputable def regex_parser_next_t1 (N : Nat) : Tab (Int × (((List UInt8) × (Int × (Int × Unit))) × Unit)) := []

theorem regex_parser_next_ok1 {N : Nat} {c : Ctx} (hb : Base Go.Proofs.Tryd.prog (regex_parser_next_E N) c) : CodeOk Go.Proofs.Tryd.prog c (nodeAt regex_parser_next_body [0, 1]) (regex_parser_next_h1 N) :=
  piece_ok (s := [(0, .box (.pair .str (.pair (.int .i64) (.pair (.int .i64) .unit))))]) (m := 27) (g := regex_parser_next_g1 N) [0] (evN_sound hb N (regex_parser_next_t1 N) regex_parser_next_L regex_parser_next_body TabOk.nil [0, 1] _ rfl) (fun x K => by kernel_rfl)

noncomputable def regex_parser_next (N : Nat) (p : ((List UInt8) × (Int × (Int × Unit)))) : Option (Int × (((List UInt8) × (Int × (Int × Unit))) × Unit)) :=
 regex_parser_next_p1 N p
 (cond (Go.Lift.inR p.2.1 (List.length p.1))
 (some ((((UInt8.toNat (List.getD p.1 (Int.toNat p.2.1) (0 : UInt8))) : Nat) : Int), (p, ())))
 (none))

noncomputable def regex_parser_next_t (N : Nat) : Tab (Int × (((List UInt8) × (Int × (Int × Unit))) × Unit)) := [([0, 1], regex_parser_next_h1 N)]

theorem regex_parser_next_link (N : Nat) (x : denS [(0, .box (.pair .str (.pair (.int .i64) (.pair (.int .i64) .unit))))]) : evFX (regex_parser_next_E N) N (regex_parser_next_t N) regex_parser_next_L Go.Proofs.Tryd.f56 (mkS [(0, .box (.pair .str (.pair (.int .i64) (.pair (.int .i64) .unit))))] 0 x) (kResB (.v (.int .u8)) [(0, .box (.pair .str (.pair (.int .i64) (.pair (.int .i64) .unit))))] 0) = regex_parser_next N x.1 := by kernel_rfl

noncomputable def regex_parser_next_res (N : Nat) : List A → Res := resOf [(0, .box (.pair .str (.pair (.int .i64) (.pair (.int .i64) .unit))))] (fun x => regex_parser_next N x.1) (oResB (.v (.int .u8)) [(0, .box (.pair .str (.pair (.int .i64) (.pair (.int .i64) .unit))))] 0)

theorem regex_parser_next_ct (N : Nat) : Contract Go.Proofs.Tryd.prog glob 56 (regex_parser_next_res N) :=
  Contract.of (E := regex_parser_next_E N) (H := regex_parser_next_t N) (L := regex_parser_next_L) (N := N) (body := regex_parser_next_body) (K := (kResB (.v (.int .u8)) [(0, .box (.pair .str (.pair (.int .i64) (.pair (.int .i64) .unit))))] 0)) (regex_parser_next_Eok N) Go.Proofs.Tryd.func56 (by kernel_rfl) (by decide) (fun _ hb => (TabOk.cons (regex_parser_next_ok1 hb) TabOk.nil)) (fun x y h => by rw [regex_parser_next_link]; exact h) (kResB_ok (s := (.v (.int .u8))) (os := [(0, .box (.pair .str (.pair (.int .i64) (.pair (.int .i64) .unit))))]) (m := 0))

noncomputable def regex_parser_need_body : Code := (Go.Proofs.Tryd.f46.body).getD .skip

noncomputable def regex_parser_need_L : List (List Nat × List Nat) := [([0, 0], [7, 0]), ([1, 0], [0]), ([0, 1, 0], [0]), ([1], [0])]

noncomputable def regex_parser_need_E (N : Nat) : Env := mkEnv tys glob [(56, regex_parser_next_res N)] [] [] [0] false [] []

theorem regex_parser_need_Eok (N : Nat) : EnvOk Go.Proofs.Tryd.prog (regex_parser_need_E N) := mkEnv_ok mixed tys_ok (FnsOk.cons (regex_parser_next_ct N) (FnsOk.nil)) (ItsOk.nil)

noncomputable def regex_parser_need_p1 (N : Nat) (p : ((List UInt8) × (Int × (Int × Unit)))) (b : Int) (k0 : ((List UInt8) × (Int × (Int × Unit))) → Option ((Unit) × (((List UInt8) × (Int × (Int × Unit))) × Unit))) : Option ((Unit) × (((List UInt8) × (Int × (Int × Unit))) × Unit)) :=
 (regex_parser_next N p).bind fun y =>
 cond (y.1 != b)
 (none)
 (k0 y.2.1)

noncomputable def regex_parser_need_g1 (N : Nat) (x : denS [(0, .box (.pair .str (.pair (.int .i64) (.pair (.int .i64) .unit)))), (0, .v (.int .u8))]) (K : Ex → List A → Option ((Unit) × (((List UInt8) × (Int × (Int × Unit))) × Unit))) : Option ((Unit) × (((List UInt8) × (Int × (Int × Unit))) × Unit)) :=
 regex_parser_need_p1 N x.1 x.2.1 (fun a0 => (K .normal (mkS [(0, .box (.pair .str (.pair (.int .i64) (.pair (.int .i64) .unit))))] 20 (a0, ()))))

noncomputable def regex_parser_need_h1 (N : Nat) : Hd ((Unit) × (((List UInt8) × (Int × (Int × Unit))) × Unit)) := fun st K => (unS [(0, .box (.pair .str (.pair (.int .i64) (.pair (.int .i64) .unit)))), (0, .v (.int .u8))] 19 (restr [0, 1] 0 st)).bind fun x => regex_parser_need_g1 N x K

noncomputable def regex_parser_need_t1 (N : Nat) : Tab ((Unit) × (((List UInt8) × (Int × (Int × Unit))) × Unit)) := []

theorem regex_parser_need_ok1 {N : Nat} {c : Ctx} (hb : Base Go.Proofs.Tryd.prog (regex_parser_need_E N) c) : CodeOk Go.Proofs.Tryd.prog c (nodeAt regex_parser_need_body [0]) (regex_parser_need_h1 N) :=
  piece_ok (s := [(0, .box (.pair .str (.pair (.int .i64) (.pair (.int .i64) .unit)))), (0, .v (.int .u8))]) (m := 19) (g := regex_parser_need_g1 N) [0, 1] (evN_sound hb N (regex_parser_need_t1 N) regex_parser_need_L regex_parser_need_body TabOk.nil [0] _ rfl) (fun x K => by kernel_rfl)

noncomputable def regex_parser_need (N : Nat) (p : ((List UInt8) × (Int × (Int × Unit)))) (b : Int) : Option ((Unit) × (((List UInt8) × (Int × (Int × Unit))) × Unit)) :=
 regex_parser_need_p1 N p b
 (fun p1 => some ((), ((p1.1, ((Go.IntKind.wrap Go.IntKind.i64 (p1.2.1 + (1 : Int))), p1.2.2)), ())))

noncomputable def regex_parser_need_t (N : Nat) : Tab ((Unit) × (((List UInt8) × (Int × (Int × Unit))) × Unit)) := [([0], regex_parser_need_h1 N)]

theorem regex_parser_need_link (N : Nat) (x : denS [(0, .box (.pair .str (.pair (.int .i64) (.pair (.int .i64) .unit)))), (0, .v (.int .u8))]) : evFX (regex_parser_need_E N) N (regex_parser_need_t N) regex_parser_need_L Go.Proofs.Tryd.f46 (mkS [(0, .box (.pair .str (.pair (.int .i64) (.pair (.int .i64) .unit)))), (0, .v (.int .u8))] 0 x) (kResB (.tup []) [(0, .box (.pair .str (.pair (.int .i64) (.pair (.int .i64) .unit))))] 1) = regex_parser_need N x.1 x.2.1 := by kernel_rfl

noncomputable def regex_parser_need_res (N : Nat) : List A → Res := resOf [(0, .box (.pair .str (.pair (.int .i64) (.pair (.int .i64) .unit)))), (0, .v (.int .u8))] (fun x => regex_parser_need N x.1 x.2.1) (oResB (.tup []) [(0, .box (.pair .str (.pair (.int .i64) (.pair (.int .i64) .unit))))] 1)

theorem regex_parser_need_ct (N : Nat) : Contract Go.Proofs.Tryd.prog glob 46 (regex_parser_need_res N) :=
  Contract.of (E := regex_parser_need_E N) (H := regex_parser_need_t N) (L := regex_parser_need_L) (N := N) (body := regex_parser_need_body) (K := (kResB (.tup []) [(0, .box (.pair .str (.pair (.int .i64) (.pair (.int .i64) .unit))))] 1)) (regex_parser_need_Eok N) Go.Proofs.Tryd.func46 (by kernel_rfl) (by decide) (fun _ hb => (TabOk.cons (regex_parser_need_ok1 hb) TabOk.nil)) (fun x y h => by rw [regex_parser_need_link]; exact h) (kResB_ok (s := (.tup [])) (os := [(0, .box (.pair .str (.pair (.int .i64) (.pair (.int .i64) .unit))))]) (m := 1))

abbrev regex_parser_alt_Self : Type := ((List UInt8) × (Int × (Int × Unit))) → Option ((Int × ((List Int) × ((List Tree) × (Int × (Int × Unit))))) × (((List UInt8) × (Int × (Int × Unit))) × Unit))

noncomputable def regex_parser_group_body : Code := (Go.Proofs.Tryd.f39.body).getD .skip

noncomputable def regex_parser_group_L : List (List Nat × List Nat) := [([0], [0, 2]), ([0, 0, 1], [8, 0, 2]), ([1, 0, 1], [0, 2]), ([0, 1, 0, 1], [0, 2]), ([0, 1, 1], [0, 2]), ([0, 1, 1, 1], [0, 2]), ([0, 1, 1, 1, 1], [0, 3, 2]), ([0, 1, 1, 1, 1, 1], [0, 3, 2]), ([0, 1, 1, 1, 1, 1, 1], [3, 2, 0]), ([0, 1, 1, 1, 1, 1, 1, 1], [2, 0]), ([1, 1, 1, 1, 1, 1, 1, 1], [2, 0])]

noncomputable def regex_parser_group_E (N : Nat) (self : regex_parser_alt_Self) : Env := mkEnv tys glob [(46, regex_parser_need_res N), (19, resOf [(0, .box (.pair .str (.pair (.int .i64) (.pair (.int .i64) .unit))))] (fun x => self x.1) (oResB (.v (.pair (.int .i64) (.pair (.arr 4 (.int .u64)) (.pair (.sl .nod) (.pair (.int .i64) (.pair (.int .i64) .unit)))))) [(0, .box (.pair .str (.pair (.int .i64) (.pair (.int .i64) .unit))))] 0))] [] [] [0] false [] []

theorem regex_parser_group_Eok (N : Nat) (self : regex_parser_alt_Self) (hself : Contract Go.Proofs.Tryd.prog glob 19 (resOf [(0, .box (.pair .str (.pair (.int .i64) (.pair (.int .i64) .unit))))] (fun x => self x.1) (oResB (.v (.pair (.int .i64) (.pair (.arr 4 (.int .u64)) (.pair (.sl .nod) (.pair (.int .i64) (.pair (.int .i64) .unit)))))) [(0, .box (.pair .str (.pair (.int .i64) (.pair (.int .i64) .unit))))] 0))) : EnvOk Go.Proofs.Tryd.prog (regex_parser_group_E N self) := mkEnv_ok mixed tys_ok (FnsOk.cons (regex_parser_need_ct N) (FnsOk.cons (hself) (FnsOk.nil))) (ItsOk.nil)

noncomputable def regex_parser_group_p1 (N : Nat) (self : regex_parser_alt_Self) (p : ((List UInt8) × (Int × (Int × Unit)))) (x2 : (Int × ((List Int) × ((List Tree) × (Int × (Int × Unit)))))) (k0 : Option ((Int × ((List Int) × ((List Tree) × (Int × (Int × Unit))))) × (((List UInt8) × (Int × (Int × Unit))) × Unit))) : Option ((Int × ((List Int) × ((List Tree) × (Int × (Int × Unit))))) × (((List UInt8) × (Int × (Int × Unit))) × Unit)) :=
 cond (p.2.2.1 == (16 : Int))
 (none)
 (k0)

noncomputable def regex_parser_group_g1 (N : Nat) (self : regex_parser_alt_Self) (x : denS [(0, .box (.pair .str (.pair (.int .i64) (.pair (.int .i64) .unit)))), (1, .box (.pair (.int .i64) (.pair (.arr 4 (.int .u64)) (.pair (.sl .nod) (.pair (.int .i64) (.pair (.int .i64) .unit))))))]) (K : Ex → List A → Option ((Int × ((List Int) × ((List Tree) × (Int × (Int × Unit))))) × (((List UInt8) × (Int × (Int × Unit))) × Unit))) : Option ((Int × ((List Int) × ((List Tree) × (Int × (Int × Unit))))) × (((List UInt8) × (Int × (Int × Unit))) × Unit)) :=
 regex_parser_group_p1 N self x.1 x.2.1 (K .normal (mkS [(0, .box (.pair .str (.pair (.int .i64) (.pair (.int .i64) .unit)))), (1, .box (.pair (.int .i64) (.pair (.arr 4 (.int .u64)) (.pair (.sl .nod) (.pair (.int .i64) (.pair (.int .i64) .unit))))))] 33 (x.1, x.2.1, ())))

noncomputable def regex_parser_group_h1 (N : Nat) (self : regex_parser_alt_Self) : Hd ((Int × ((List Int) × ((List Tree) × (Int × (Int × Unit))))) × (((List UInt8) × (Int × (Int × Unit))) × Unit)) := fun st K => (unS [(0, .box (.pair .str (.pair (.int .i64) (.pair (.int .i64) .unit)))), (1, .box (.pair (.int .i64) (.pair (.arr 4 (.int .u64)) (.pair (.sl .nod) (.pair (.int .i64) (.pair (.int .i64) .unit))))))] 33 (restr [0, 2] 0 st)).bind fun x => regex_parser_group_g1 N self x K

noncomputable def regex_parser_group_t1 (N : Nat) (self : regex_parser_alt_Self) : Tab ((Int × ((List Int) × ((List Tree) × (Int × (Int × Unit))))) × (((List UInt8) × (Int × (Int × Unit))) × Unit)) := []

theorem regex_parser_group_ok1 {N : Nat} {self : regex_parser_alt_Self} {c : Ctx} (hb : Base Go.Proofs.Tryd.prog (regex_parser_group_E N self) c) : CodeOk Go.Proofs.Tryd.prog c (nodeAt regex_parser_group_body [0, 1]) (regex_parser_group_h1 N self) :=
  piece_ok (s := [(0, .box (.pair .str (.pair (.int .i64) (.pair (.int .i64) .unit)))), (1, .box (.pair (.int .i64) (.pair (.arr 4 (.int .u64)) (.pair (.sl .nod) (.pair (.int .i64) (.pair (.int .i64) .unit))))))]) (m := 33) (g := regex_parser_group_g1 N self) [0, 2] (evN_sound hb N (regex_parser_group_t1 N self) regex_parser_group_L regex_parser_group_body TabOk.nil [0, 1] _ rfl) (fun x K => by kernel_rfl)

noncomputable def regex_parser_group (N : Nat) (self : regex_parser_alt_Self) (p : ((List UInt8) × (Int × (Int × Unit)))) : Option ((Int × ((List Int) × ((List Tree) × (Int × (Int × Unit))))) × (((List UInt8) × (Int × (Int × Unit))) × Unit)) :=
 regex_parser_group_p1 N self p ((0 : Int), (([(0 : Int), (0 : Int), (0 : Int), (0 : Int)] : List Int), (([] : List Go.Lift.Tree), ((0 : Int), ((0 : Int), ())))))
 ((regex_parser_need N (p.1, (p.2.1, ((Go.IntKind.wrap Go.IntKind.i64 (p.2.2.1 + (1 : Int))), p.2.2.2))) (40 : Int)).bind fun y =>
 (self y.2.1).bind fun y1 =>
 (regex_parser_need N y1.2.1 (41 : Int)).bind fun y2 =>
 some (y1.1, ((y2.2.1.1, (y2.2.1.2.1, ((Go.IntKind.wrap Go.IntKind.i64 (y2.2.1.2.2.1 - (1 : Int))), y2.2.1.2.2.2))), ())))

noncomputable def regex_parser_group_t (N : Nat) (self : regex_parser_alt_Self) : Tab ((Int × ((List Int) × ((List Tree) × (Int × (Int × Unit))))) × (((List UInt8) × (Int × (Int × Unit))) × Unit)) := [([0, 1], regex_parser_group_h1 N self)]

theorem regex_parser_group_link (N : Nat) (self : regex_parser_alt_Self) (x : denS [(0, .box (.pair .str (.pair (.int .i64) (.pair (.int .i64) .unit))))]) : evFX (regex_parser_group_E N self) N (regex_parser_group_t N self) regex_parser_group_L Go.Proofs.Tryd.f39 (mkS [(0, .box (.pair .str (.pair (.int .i64) (.pair (.int .i64) .unit))))] 0 x) (kResB (.v (.pair (.int .i64) (.pair (.arr 4 (.int .u64)) (.pair (.sl .nod) (.pair (.int .i64) (.pair (.int .i64) .unit)))))) [(0, .box (.pair .str (.pair (.int .i64) (.pair (.int .i64) .unit))))] 0) = regex_parser_group N self x.1 := by kernel_rfl

noncomputable def regex_parser_group_res (N : Nat) (self : regex_parser_alt_Self) : List A → Res := resOf [(0, .box (.pair .str (.pair (.int .i64) (.pair (.int .i64) .unit))))] (fun x => regex_parser_group N self x.1) (oResB (.v (.pair (.int .i64) (.pair (.arr 4 (.int .u64)) (.pair (.sl .nod) (.pair (.int .i64) (.pair (.int .i64) .unit)))))) [(0, .box (.pair .str (.pair (.int .i64) (.pair (.int .i64) .unit))))] 0)

theorem regex_parser_group_ct (N : Nat) (self : regex_parser_alt_Self) (hself : Contract Go.Proofs.Tryd.prog glob 19 (resOf [(0, .box (.pair .str (.pair (.int .i64) (.pair (.int .i64) .unit))))] (fun x => self x.1) (oResB (.v (.pair (.int .i64) (.pair (.arr 4 (.int .u64)) (.pair (.sl .nod) (.pair (.int .i64) (.pair (.int .i64) .unit)))))) [(0, .box (.pair .str (.pair (.int .i64) (.pair (.int .i64) .unit))))] 0))) : Contract Go.Proofs.Tryd.prog glob 39 (regex_parser_group_res N self) :=
  Contract.of (E := regex_parser_group_E N self) (H := regex_parser_group_t N self) (L := regex_parser_group_L) (N := N) (body := regex_parser_group_body) (K := (kResB (.v (.pair (.int .i64) (.pair (.arr 4 (.int .u64)) (.pair (.sl .nod) (.pair (.int .i64) (.pair (.int .i64) .unit)))))) [(0, .box (.pair .str (.pair (.int .i64) (.pair (.int .i64) .unit))))] 0)) (regex_parser_group_Eok N self hself) Go.Proofs.Tryd.func39 (by kernel_rfl) (by decide) (fun _ hb => (TabOk.cons (regex_parser_group_ok1 hb) TabOk.nil)) (fun x y h => by rw [regex_parser_group_link]; exact h) (kResB_ok (s := (.v (.pair (.int .i64) (.pair (.arr 4 (.int .u64)) (.pair (.sl .nod) (.pair (.int .i64) (.pair (.int .i64) .unit))))))) (os := [(0, .box (.pair .str (.pair (.int .i64) (.pair (.int .i64) .unit))))]) (m := 0))

noncomputable def charset_with_body : Code := (Go.Proofs.Tryd.f52.body).getD .skip

noncomputable def charset_with_L : List (List Nat × List Nat) := [([0], [1, 2, 4]), ([0, 1], [2, 4]), ([0, 1, 1], [4]), ([1, 1, 1], [4])]

noncomputable def charset_with_E (N : Nat) : Env := mkEnv tys glob [] [] [] [] false [] []

theorem charset_with_Eok (N : Nat) : EnvOk Go.Proofs.Tryd.prog (charset_with_E N) := mkEnv_ok mixed tys_ok (FnsOk.nil) (ItsOk.nil)

noncomputable def charset_with (N : Nat) (s : (List Int)) (b : Int) : Option (List Int) :=
 cond (Go.Lift.inR (Go.IntKind.wrap Go.IntKind.u8 (Int.tdiv b (64 : Int))) 4)
 (cond (decide ((Int.toNat (Go.IntKind.wrap Go.IntKind.u8 (Int.tdiv b (64 : Int)))) < (List.length s)))
 (cond (decide ((0 : Int) ≤ (Int.tmod b (64 : Int))))
 (cond (Go.Lift.inR (Go.IntKind.wrap Go.IntKind.u8 (Int.tdiv b (64 : Int))) 4)
 (cond (decide ((Int.toNat (Go.IntKind.wrap Go.IntKind.u8 (Int.tdiv b (64 : Int)))) < (List.length s)))
 (some (List.set s (Int.toNat (Go.IntKind.wrap Go.IntKind.u8 (Int.tdiv b (64 : Int)))) (Go.Lift.bitsOp Go.BinOp.or Go.IntKind.u64 (List.getD s (Int.toNat (Go.IntKind.wrap Go.IntKind.u8 (Int.tdiv b (64 : Int)))) (0 : Int)) (Go.Lift.shlI Go.IntKind.u64 (1 : Int) (Int.tmod b (64 : Int))))))
 (none))
 (none))
 (none))
 (none))
 (none)

noncomputable def charset_with_t (N : Nat) : Tab (List Int) := []

theorem charset_with_link (N : Nat) (x : denS [(0, .v (.arr 4 (.int .u64))), (0, .v (.int .u8))]) : evFX (charset_with_E N) N (charset_with_t N) charset_with_L Go.Proofs.Tryd.f52 (mkS [(0, .v (.arr 4 (.int .u64))), (0, .v (.int .u8))] 0 x) (kRes (.v (.arr 4 (.int .u64))) 2) = charset_with N x.1 x.2.1 := by kernel_rfl

noncomputable def charset_with_res (N : Nat) : List A → Res := resOf [(0, .v (.arr 4 (.int .u64))), (0, .v (.int .u8))] (fun x => charset_with N x.1 x.2.1) (oRes (.v (.arr 4 (.int .u64))) 2)

theorem charset_with_ct (N : Nat) : Contract Go.Proofs.Tryd.prog glob 52 (charset_with_res N) :=
  Contract.of (E := charset_with_E N) (H := charset_with_t N) (L := charset_with_L) (N := N) (body := charset_with_body) (K := (kRes (.v (.arr 4 (.int .u64))) 2)) (charset_with_Eok N) Go.Proofs.Tryd.func52 (by kernel_rfl) (by decide) (fun _ hb => TabOk.nil) (fun x y h => by rw [charset_with_link]; exact h) (kRes_ok (s := (.v (.arr 4 (.int .u64)))) (m := 2))

noncomputable def charset_Of_body : Code := (Go.Proofs.Tryd.f41.body).getD .skip

noncomputable def charset_Of_L : List (List Nat × List Nat) := [([0], [0, 1, 4]), ([0, 1], [0, 1, 5, 4]), ([0, 0, 1, 1], [6, 1, 5, 4]), ([0, 1, 0, 1, 1], [6, 1, 5, 4]), ([0, 0, 0, 0, 1, 0, 1, 1], [12, 5, 6, 1, 4]), ([1, 0, 0, 0, 1, 0, 1, 1], [5, 6, 1, 4]), ([1, 1, 0, 0, 0, 1, 0, 1, 1], [5, 4]), ([0, 0, 1, 0, 0, 1, 0, 1, 1], [6, 1, 5, 4]), ([0, 1, 0, 0, 1, 0, 1, 1], [6, 1, 5, 4]), ([1, 1, 0, 0, 1, 0, 1, 1], [6, 1, 5, 4]), ([1, 0, 1, 1], [5, 4]), ([0, 1, 1, 1], [4]), ([1, 1, 1, 1], [4])]

noncomputable def charset_Of_E (N : Nat) : Env := mkEnv tys glob [(52, charset_with_res N)] [] [] [] false [] []

theorem charset_Of_Eok (N : Nat) : EnvOk Go.Proofs.Tryd.prog (charset_Of_E N) := mkEnv_ok mixed tys_ok (FnsOk.cons (charset_with_ct N) (FnsOk.nil)) (ItsOk.nil)

noncomputable def charset_Of_s1 (N : Nat) (hi : Int) (x4 : (List Int)) (s : (List Int)) (b : Int) (rec : (List Int) → Int → Option (List Int)) (k0 : (List Int) → Option (List Int)) : Option (List Int) :=
 cond (decide (b ≤ (Go.IntKind.wrap Go.IntKind.i64 hi)))
 ((charset_with N s (Go.IntKind.wrap Go.IntKind.u8 b)).bind fun y =>
 rec y (Go.IntKind.wrap Go.IntKind.i64 (b + (1 : Int))))
 (k0 s)

noncomputable def charset_Of_p1 (N : Nat) (hi : Int) (x4 : (List Int)) (s : (List Int)) (b : Int) (k0 : (List Int) → Option (List Int)) : Option (List Int) :=
 iter (fun (v : ((List Int) × Int)) r => charset_Of_s1 N hi x4 v.1 v.2 (fun s b => (r (s, b))) k0) N (s, b)

noncomputable def charset_Of_g1 (N : Nat) (i : (Int × (List Int))) (v : ((List Int) × Int)) (r : ((List Int) × Int) → Option (List Int)) (K : Ex → List A → Option (List Int)) : Option (List Int) :=
 charset_Of_s1 N i.1 i.2 v.1 v.2 (fun s b => (r (s, b))) (fun a1 => (K (.exit 0) (mkS [(4, .box (.arr 4 (.int .u64))), (0, .box (.arr 4 (.int .u64)))] 14 (i.2, a1, ()))))

noncomputable def charset_Of_h1 (N : Nat) : Hd (List Int) := fun st K => (unS [(1, .v (.int .u8)), (2, .box (.arr 4 (.int .u64))), (0, .box (.arr 4 (.int .u64))), (0, .v (.int .i64))] 13 (restr [6, 1, 5, 4] 0 st)).bind fun x => iter (fun v r => charset_Of_g1 N ((fun x => (x.1, x.2.1)) x) v r K) N ((fun x => (x.2.2.1, x.2.2.2.1)) x)

noncomputable def charset_Of_t1 (N : Nat) : Tab (List Int) := []

theorem charset_Of_ok1 {N : Nat} {c : Ctx} (hb : Base Go.Proofs.Tryd.prog (charset_Of_E N) c) : CodeOk Go.Proofs.Tryd.prog c (nodeAt charset_Of_body [0, 1, 0, 1, 1]) (charset_Of_h1 N) :=
  loop_ok (s := [(1, .v (.int .u8)), (2, .box (.arr 4 (.int .u64))), (0, .box (.arr 4 (.int .u64))), (0, .v (.int .i64))]) (m := 13) (charset_Of_g1 N) [6, 1, 5, 4] N (fun x => (x.1, x.2.1)) (fun x => (x.2.2.1, x.2.2.2.1)) (fun i v => (i.1, i.2, v.1, v.2, ())) (fun _ => rfl) (evN_sound hb N (charset_Of_t1 N) charset_Of_L charset_Of_body TabOk.nil [0, 0, 1, 0, 1, 1] _ rfl) (fun i v r K => by kernel_rfl)

noncomputable def charset_Of (N : Nat) (lo : Int) (hi : Int) : Option (List Int) :=
 charset_Of_p1 N hi ([(0 : Int), (0 : Int), (0 : Int), (0 : Int)] : List Int) ([(0 : Int), (0 : Int), (0 : Int), (0 : Int)] : List Int) (Go.IntKind.wrap Go.IntKind.i64 lo)
 (fun s => some s)

noncomputable def charset_Of_t (N : Nat) : Tab (List Int) := [([0, 1, 0, 1, 1], charset_Of_h1 N)]

theorem charset_Of_link (N : Nat) (x : denS [(0, .v (.int .u8)), (0, .v (.int .u8))]) : evFX (charset_Of_E N) N (charset_Of_t N) charset_Of_L Go.Proofs.Tryd.f41 (mkS [(0, .v (.int .u8)), (0, .v (.int .u8))] 0 x) (kRes (.v (.arr 4 (.int .u64))) 2) = charset_Of N x.1 x.2.1 := by kernel_rfl

noncomputable def charset_Of_res (N : Nat) : List A → Res := resOf [(0, .v (.int .u8)), (0, .v (.int .u8))] (fun x => charset_Of N x.1 x.2.1) (oRes (.v (.arr 4 (.int .u64))) 2)

theorem charset_Of_ct (N : Nat) : Contract Go.Proofs.Tryd.prog glob 41 (charset_Of_res N) :=
  Contract.of (E := charset_Of_E N) (H := charset_Of_t N) (L := charset_Of_L) (N := N) (body := charset_Of_body) (K := (kRes (.v (.arr 4 (.int .u64))) 2)) (charset_Of_Eok N) Go.Proofs.Tryd.func41 (by kernel_rfl) (by decide) (fun _ hb => (TabOk.cons (charset_Of_ok1 hb) TabOk.nil)) (fun x y h => by rw [charset_Of_link]; exact h) (kRes_ok (s := (.v (.arr 4 (.int .u64)))) (m := 2))

noncomputable def regex_one_body : Code := (Go.Proofs.Tryd.f40.body).getD .skip

noncomputable def regex_one_L : List (List Nat × List Nat) := [([0], [1, 2]), ([0, 1], [2]), ([1, 1], [2])]

noncomputable def regex_one_E (N : Nat) : Env := mkEnv tys glob [] [] [] [] false [] []

theorem regex_one_Eok (N : Nat) : EnvOk Go.Proofs.Tryd.prog (regex_one_E N) := mkEnv_ok mixed tys_ok (FnsOk.nil) (ItsOk.nil)

noncomputable def regex_one (N : Nat) (s : (List Int)) : Option (Int × ((List Int) × ((List Tree) × (Int × (Int × Unit))))) :=
 some ((1 : Int), (s, (([] : List Go.Lift.Tree), ((0 : Int), ((0 : Int), ())))))

noncomputable def regex_one_t (N : Nat) : Tab (Int × ((List Int) × ((List Tree) × (Int × (Int × Unit))))) := []

theorem regex_one_link (N : Nat) (x : denS [(0, .v (.arr 4 (.int .u64)))]) : evFX (regex_one_E N) N (regex_one_t N) regex_one_L Go.Proofs.Tryd.f40 (mkS [(0, .v (.arr 4 (.int .u64)))] 0 x) (kRes (.v (.pair (.int .i64) (.pair (.arr 4 (.int .u64)) (.pair (.sl .nod) (.pair (.int .i64) (.pair (.int .i64) .unit)))))) 1) = regex_one N x.1 := by kernel_rfl

noncomputable def regex_one_res (N : Nat) : List A → Res := resOf [(0, .v (.arr 4 (.int .u64)))] (fun x => regex_one N x.1) (oRes (.v (.pair (.int .i64) (.pair (.arr 4 (.int .u64)) (.pair (.sl .nod) (.pair (.int .i64) (.pair (.int .i64) .unit)))))) 1)

theorem regex_one_ct (N : Nat) : Contract Go.Proofs.Tryd.prog glob 40 (regex_one_res N) :=
  Contract.of (E := regex_one_E N) (H := regex_one_t N) (L := regex_one_L) (N := N) (body := regex_one_body) (K := (kRes (.v (.pair (.int .i64) (.pair (.arr 4 (.int .u64)) (.pair (.sl .nod) (.pair (.int .i64) (.pair (.int .i64) .unit)))))) 1)) (regex_one_Eok N) Go.Proofs.Tryd.func40 (by kernel_rfl) (by decide) (fun _ hb => TabOk.nil) (fun x y h => by rw [regex_one_link]; exact h) (kRes_ok (s := (.v (.pair (.int .i64) (.pair (.arr 4 (.int .u64)) (.pair (.sl .nod) (.pair (.int .i64) (.pair (.int .i64) .unit))))))) (m := 1))

noncomputable def regex_parser_skip_body : Code := (Go.Proofs.Tryd.f26.body).getD .skip

noncomputable def regex_parser_skip_L : List (List Nat × List Nat) := [([0], [0, 1]), ([0, 0, 1], [27, 0]), ([1, 0, 1], [0]), ([0, 0, 1, 0, 1], [4, 0]), ([1, 0, 1, 0, 1], [4, 0]), ([0, 1, 1], [0]), ([0, 1, 1, 1], [4, 0]), ([1, 1, 1, 1], [4, 0])]

noncomputable def regex_parser_skip_E (N : Nat) : Env := mkEnv tys glob [] [] [] [0] false [] []

theorem regex_parser_skip_Eok (N : Nat) : EnvOk Go.Proofs.Tryd.prog (regex_parser_skip_E N) := mkEnv_ok mixed tys_ok (FnsOk.nil) (ItsOk.nil)

noncomputable def regex_parser_skip_p2 (N : Nat) (p : ((List UInt8) × (Int × (Int × Unit)))) (b : Int) (k0 : Bool → Option (Bool × (((List UInt8) × (Int × (Int × Unit))) × Unit))) : Option (Bool × (((List UInt8) × (Int × (Int × Unit))) × Unit)) :=
 cond (p.2.1 == (((List.length p.1) : Nat) : Int))
 (k0 true)
 (cond (Go.Lift.inR p.2.1 (List.length p.1))
 (k0 ((((UInt8.toNat (List.getD p.1 (Int.toNat p.2.1) (0 : UInt8))) : Nat) : Int) != b))
 (none))

noncomputable def regex_parser_skip_g2 (N : Nat) (x : denS [(0, .box (.pair .str (.pair (.int .i64) (.pair (.int .i64) .unit)))), (0, .v (.int .u8))]) (K : Ex → List A → Option (Bool × (((List UInt8) × (Int × (Int × Unit))) × Unit))) : Option (Bool × (((List UInt8) × (Int × (Int × Unit))) × Unit)) :=
 regex_parser_skip_p2 N x.1 x.2.1 (fun a1 => (K .normal (mkS [(0, .box (.pair .str (.pair (.int .i64) (.pair (.int .i64) .unit)))), (26, .v .bool)] 7 (x.1, a1, ()))))

noncomputable def regex_parser_skip_h2 (N : Nat) : Hd (Bool × (((List UInt8) × (Int × (Int × Unit))) × Unit)) := fun st K => (unS [(0, .box (.pair .str (.pair (.int .i64) (.pair (.int .i64) .unit)))), (0, .v (.int .u8))] 33 (restr [0, 1] 0 st)).bind fun x => regex_parser_skip_g2 N x K

noncomputable def regex_parser_skip_t2 (N : Nat) : Tab (Bool × (((List UInt8) × (Int × (Int × Unit))) × Unit)) := []

theorem regex_parser_skip_ok2 {N : Nat} {c : Ctx} (hb : Base Go.Proofs.Tryd.prog (regex_parser_skip_E N) c) : CodeOk Go.Proofs.Tryd.prog c (nodeAt regex_parser_skip_body [0, 0, 1]) (regex_parser_skip_h2 N) :=
  piece_ok (s := [(0, .box (.pair .str (.pair (.int .i64) (.pair (.int .i64) .unit)))), (0, .v (.int .u8))]) (m := 33) (g := regex_parser_skip_g2 N) [0, 1] (evN_sound hb N (regex_parser_skip_t2 N) regex_parser_skip_L regex_parser_skip_body TabOk.nil [0, 0, 1] _ rfl) (fun x K => by kernel_rfl)

noncomputable def regex_parser_skip_p1 (N : Nat) (p : ((List UInt8) × (Int × (Int × Unit)))) (b : Int) (k0 : Bool → Option (Bool × (((List UInt8) × (Int × (Int × Unit))) × Unit))) (k1 : Option (Bool × (((List UInt8) × (Int × (Int × Unit))) × Unit))) : Option (Bool × (((List UInt8) × (Int × (Int × Unit))) × Unit)) :=
 regex_parser_skip_p2 N p b
 (fun x27 => cond x27
 (k0 false)
 (k1))

noncomputable def regex_parser_skip_g1 (N : Nat) (x : denS [(0, .box (.pair .str (.pair (.int .i64) (.pair (.int .i64) .unit)))), (0, .v (.int .u8))]) (K : Ex → List A → Option (Bool × (((List UInt8) × (Int × (Int × Unit))) × Unit))) : Option (Bool × (((List UInt8) × (Int × (Int × Unit))) × Unit)) :=
 regex_parser_skip_p1 N x.1 x.2.1 (fun a1 => (K .ret (mkS [(0, .box (.pair .str (.pair (.int .i64) (.pair (.int .i64) .unit)))), (3, .v .bool)] 30 (x.1, a1, ())))) (K .normal (mkS [(0, .box (.pair .str (.pair (.int .i64) (.pair (.int .i64) .unit))))] 34 (x.1, ())))

noncomputable def regex_parser_skip_h1 (N : Nat) : Hd (Bool × (((List UInt8) × (Int × (Int × Unit))) × Unit)) := fun st K => (unS [(0, .box (.pair .str (.pair (.int .i64) (.pair (.int .i64) .unit)))), (0, .v (.int .u8))] 33 (restr [0, 1] 0 st)).bind fun x => regex_parser_skip_g1 N x K

noncomputable def regex_parser_skip_t1 (N : Nat) : Tab (Bool × (((List UInt8) × (Int × (Int × Unit))) × Unit)) := [([0, 0, 1], regex_parser_skip_h2 N)]

theorem regex_parser_skip_ok1 {N : Nat} {c : Ctx} (hb : Base Go.Proofs.Tryd.prog (regex_parser_skip_E N) c) : CodeOk Go.Proofs.Tryd.prog c (nodeAt regex_parser_skip_body [0, 1]) (regex_parser_skip_h1 N) :=
  piece_ok (s := [(0, .box (.pair .str (.pair (.int .i64) (.pair (.int .i64) .unit)))), (0, .v (.int .u8))]) (m := 33) (g := regex_parser_skip_g1 N) [0, 1] (evN_sound hb N (regex_parser_skip_t1 N) regex_parser_skip_L regex_parser_skip_body (TabOk.cons (regex_parser_skip_ok2 hb) TabOk.nil) [0, 1] _ rfl) (fun x K => by kernel_rfl)

noncomputable def regex_parser_skip (N : Nat) (p : ((List UInt8) × (Int × (Int × Unit)))) (b : Int) : Option (Bool × (((List UInt8) × (Int × (Int × Unit))) × Unit)) :=
 regex_parser_skip_p1 N p b
 (fun x4 => some (x4, (p, ())))
 (some (true, ((p.1, ((Go.IntKind.wrap Go.IntKind.i64 (p.2.1 + (1 : Int))), p.2.2)), ())))

noncomputable def regex_parser_skip_t (N : Nat) : Tab (Bool × (((List UInt8) × (Int × (Int × Unit))) × Unit)) := [([0, 1], regex_parser_skip_h1 N)]

theorem regex_parser_skip_link (N : Nat) (x : denS [(0, .box (.pair .str (.pair (.int .i64) (.pair (.int .i64) .unit)))), (0, .v (.int .u8))]) : evFX (regex_parser_skip_E N) N (regex_parser_skip_t N) regex_parser_skip_L Go.Proofs.Tryd.f26 (mkS [(0, .box (.pair .str (.pair (.int .i64) (.pair (.int .i64) .unit)))), (0, .v (.int .u8))] 0 x) (kResB (.v .bool) [(0, .box (.pair .str (.pair (.int .i64) (.pair (.int .i64) .unit))))] 1) = regex_parser_skip N x.1 x.2.1 := by kernel_rfl

noncomputable def regex_parser_skip_res (N : Nat) : List A → Res := resOf [(0, .box (.pair .str (.pair (.int .i64) (.pair (.int .i64) .unit)))), (0, .v (.int .u8))] (fun x => regex_parser_skip N x.1 x.2.1) (oResB (.v .bool) [(0, .box (.pair .str (.pair (.int .i64) (.pair (.int .i64) .unit))))] 1)

theorem regex_parser_skip_ct (N : Nat) : Contract Go.Proofs.Tryd.prog glob 26 (regex_parser_skip_res N) :=
  Contract.of (E := regex_parser_skip_E N) (H := regex_parser_skip_t N) (L := regex_parser_skip_L) (N := N) (body := regex_parser_skip_body) (K := (kResB (.v .bool) [(0, .box (.pair .str (.pair (.int .i64) (.pair (.int .i64) .unit))))] 1)) (regex_parser_skip_Eok N) Go.Proofs.Tryd.func26 (by kernel_rfl) (by decide) (fun _ hb => (TabOk.cons (regex_parser_skip_ok1 hb) TabOk.nil)) (fun x y h => by rw [regex_parser_skip_link]; exact h) (kResB_ok (s := (.v .bool)) (os := [(0, .box (.pair .str (.pair (.int .i64) (.pair (.int .i64) .unit))))]) (m := 1))

noncomputable def charset_Texts_body : Code := (Go.Proofs.Tryd.f57.body).getD .skip

noncomputable def charset_Texts_L : List (List Nat × List Nat) := [([0], [0, 2]), ([0, 1], [0, 3, 2]), ([0, 0, 1, 1], [7, 6, 3, 0, 2]), ([0, 1, 0, 1, 1], [7, 6, 3, 0, 2]), ([0, 0, 0, 1, 0, 1, 1], [8, 7, 3, 0, 6, 2]), ([0, 1, 0, 0, 1, 0, 1, 1], [7, 3, 0, 6, 2]), ([1, 0, 1, 0, 0, 1, 0, 1, 1], [3, 2]), ([0, 0, 0, 1, 1, 0, 0, 1, 0, 1, 1], [3, 0, 4, 7, 6, 2]), ([1, 0, 0, 1, 1, 0, 0, 1, 0, 1, 1], [7, 6, 3, 0, 2]), ([0, 1, 1, 0, 0, 1, 0, 1, 1], [7, 6, 3, 0, 2]), ([1, 1, 1, 0, 0, 1, 0, 1, 1], [7, 6, 3, 0, 2]), ([1, 0, 1, 1], [3, 2]), ([0, 1, 1, 1], [2]), ([1, 1, 1, 1], [2])]

noncomputable def charset_Texts_E (N : Nat) : Env := mkEnv tys glob [(52, charset_with_res N)] [] [] [] false [] []

theorem charset_Texts_Eok (N : Nat) : EnvOk Go.Proofs.Tryd.prog (charset_Texts_E N) := mkEnv_ok mixed tys_ok (FnsOk.cons (charset_with_ct N) (FnsOk.nil)) (ItsOk.nil)

noncomputable def charset_Texts_s1 (N : Nat) (s : (List UInt8)) (x2 : (List Int)) (x6 : Int) (set_ : (List Int)) (x7 : Int) (rec : (List Int) → Int → Option (List Int)) (k0 : (List Int) → Option (List Int)) : Option (List Int) :=
 cond (decide (x7 < x6))
 (cond (Go.Lift.inR x7 (List.length s))
 ((charset_with N set_ (((UInt8.toNat (List.getD s (Int.toNat x7) (0 : UInt8))) : Nat) : Int)).bind fun y =>
 rec y (Go.IntKind.wrap Go.IntKind.i64 (x7 + (1 : Int))))
 (none))
 (k0 set_)

noncomputable def charset_Texts_p1 (N : Nat) (s : (List UInt8)) (x2 : (List Int)) (set_ : (List Int)) (x6 : Int) (x7 : Int) (k0 : (List Int) → Option (List Int)) : Option (List Int) :=
 iter (fun (v : ((List Int) × Int)) r => charset_Texts_s1 N s x2 x6 v.1 v.2 (fun set_ x7 => (r (set_, x7))) k0) N (set_, x7)

noncomputable def charset_Texts_g1 (N : Nat) (i : ((List UInt8) × (List Int) × Int)) (v : ((List Int) × Int)) (r : ((List Int) × Int) → Option (List Int)) (K : Ex → List A → Option (List Int)) : Option (List Int) :=
 charset_Texts_s1 N i.1 i.2.1 i.2.2 v.1 v.2 (fun set_ x7 => (r (set_, x7))) (fun a1 => (K (.exit 0) (mkS [(2, .box (.arr 4 (.int .u64))), (0, .box (.arr 4 (.int .u64)))] 13 (i.2.1, a1, ()))))

noncomputable def charset_Texts_h1 (N : Nat) : Hd (List Int) := fun st K => (unS [(0, .v .str), (1, .box (.arr 4 (.int .u64))), (0, .box (.arr 4 (.int .u64))), (2, .v (.int .i64)), (0, .v (.int .i64))] 9 (restr [7, 6, 3, 0, 2] 0 st)).bind fun x => iter (fun v r => charset_Texts_g1 N ((fun x => (x.1, x.2.1, x.2.2.2.1)) x) v r K) N ((fun x => (x.2.2.1, x.2.2.2.2.1)) x)

noncomputable def charset_Texts_t1 (N : Nat) : Tab (List Int) := []

theorem charset_Texts_ok1 {N : Nat} {c : Ctx} (hb : Base Go.Proofs.Tryd.prog (charset_Texts_E N) c) : CodeOk Go.Proofs.Tryd.prog c (nodeAt charset_Texts_body [0, 1, 0, 1, 1]) (charset_Texts_h1 N) :=
  loop_ok (s := [(0, .v .str), (1, .box (.arr 4 (.int .u64))), (0, .box (.arr 4 (.int .u64))), (2, .v (.int .i64)), (0, .v (.int .i64))]) (m := 9) (charset_Texts_g1 N) [7, 6, 3, 0, 2] N (fun x => (x.1, x.2.1, x.2.2.2.1)) (fun x => (x.2.2.1, x.2.2.2.2.1)) (fun i v => (i.1, i.2.1, v.1, i.2.2, v.2, ())) (fun _ => rfl) (evN_sound hb N (charset_Texts_t1 N) charset_Texts_L charset_Texts_body TabOk.nil [0, 0, 1, 0, 1, 1] _ rfl) (fun i v r K => by kernel_rfl)

noncomputable def charset_Texts (N : Nat) (s : (List UInt8)) : Option (List Int) :=
 charset_Texts_p1 N s ([(0 : Int), (0 : Int), (0 : Int), (0 : Int)] : List Int) ([(0 : Int), (0 : Int), (0 : Int), (0 : Int)] : List Int) (((List.length s) : Nat) : Int) (0 : Int)
 (fun set_ => some set_)

noncomputable def charset_Texts_t (N : Nat) : Tab (List Int) := [([0, 1, 0, 1, 1], charset_Texts_h1 N)]

theorem charset_Texts_link (N : Nat) (x : denS [(0, .v .str)]) : evFX (charset_Texts_E N) N (charset_Texts_t N) charset_Texts_L Go.Proofs.Tryd.f57 (mkS [(0, .v .str)] 0 x) (kRes (.v (.arr 4 (.int .u64))) 1) = charset_Texts N x.1 := by kernel_rfl

noncomputable def charset_Texts_res (N : Nat) : List A → Res := resOf [(0, .v .str)] (fun x => charset_Texts N x.1) (oRes (.v (.arr 4 (.int .u64))) 1)

theorem charset_Texts_ct (N : Nat) : Contract Go.Proofs.Tryd.prog glob 57 (charset_Texts_res N) :=
  Contract.of (E := charset_Texts_E N) (H := charset_Texts_t N) (L := charset_Texts_L) (N := N) (body := charset_Texts_body) (K := (kRes (.v (.arr 4 (.int .u64))) 1)) (charset_Texts_Eok N) Go.Proofs.Tryd.func57 (by kernel_rfl) (by decide) (fun _ hb => (TabOk.cons (charset_Texts_ok1 hb) TabOk.nil)) (fun x y h => by rw [charset_Texts_link]; exact h) (kRes_ok (s := (.v (.arr 4 (.int .u64)))) (m := 1))

noncomputable def regex_digit_body : Code := (Go.Proofs.Tryd.f60.body).getD .skip

noncomputable def regex_digit_L : List (List Nat × List Nat) := [([0], [0]), ([0, 1], [2]), ([1, 1], [2])]

noncomputable def regex_digit_E (N : Nat) : Env := mkEnv tys glob [] [] [] [] false [] []

theorem regex_digit_Eok (N : Nat) : EnvOk Go.Proofs.Tryd.prog (regex_digit_E N) := mkEnv_ok mixed tys_ok (FnsOk.nil) (ItsOk.nil)

noncomputable def regex_digit (N : Nat) (b : Int) : Option Bool :=
 cond (decide ((48 : Int) ≤ b))
 (some (decide (b ≤ (57 : Int))))
 (some false)

noncomputable def regex_digit_t (N : Nat) : Tab Bool := []

theorem regex_digit_link (N : Nat) (x : denS [(0, .v (.int .u8))]) : evFX (regex_digit_E N) N (regex_digit_t N) regex_digit_L Go.Proofs.Tryd.f60 (mkS [(0, .v (.int .u8))] 0 x) (kRes (.v .bool) 1) = regex_digit N x.1 := by kernel_rfl

noncomputable def regex_digit_res (N : Nat) : List A → Res := resOf [(0, .v (.int .u8))] (fun x => regex_digit N x.1) (oRes (.v .bool) 1)

theorem regex_digit_ct (N : Nat) : Contract Go.Proofs.Tryd.prog glob 60 (regex_digit_res N) :=
  Contract.of (E := regex_digit_E N) (H := regex_digit_t N) (L := regex_digit_L) (N := N) (body := regex_digit_body) (K := (kRes (.v .bool) 1)) (regex_digit_Eok N) Go.Proofs.Tryd.func60 (by kernel_rfl) (by decide) (fun _ hb => TabOk.nil) (fun x y h => by rw [regex_digit_link]; exact h) (kRes_ok (s := (.v .bool)) (m := 1))

noncomputable def regex_parser_hex_body : Code := (Go.Proofs.Tryd.f58.body).getD .skip

noncomputable def regex_parser_hex_L : List (List Nat × List Nat) := [([0], [0, 1]), ([0, 1], [0, 5, 1]), ([0, 1, 1], [5, 0, 1]), ([0, 0, 1, 1, 1], [16, 5, 0, 1]), ([1, 0, 1, 1, 1], [5, 0, 1]), ([0, 0, 1, 0, 1, 1, 1], [4, 0]), ([1, 0, 1, 0, 1, 1, 1], [4, 0]), ([0, 0, 1, 1, 1, 1], [24, 0, 1, 5]), ([1, 0, 1, 1, 1, 1], [5, 0]), ([0, 1, 0, 1, 1, 1, 1], [5, 0]), ([0, 1, 1, 1, 1, 1], [4, 0]), ([1, 1, 1, 1, 1, 1], [4, 0])]

noncomputable def regex_parser_hex_E (N : Nat) : Env := mkEnv tys glob [(60, regex_digit_res N), (56, regex_parser_next_res N)] [] [] [0] false [] []

theorem regex_parser_hex_Eok (N : Nat) : EnvOk Go.Proofs.Tryd.prog (regex_parser_hex_E N) := mkEnv_ok mixed tys_ok (FnsOk.cons (regex_digit_ct N) (FnsOk.cons (regex_parser_next_ct N) (FnsOk.nil))) (ItsOk.nil)

noncomputable def regex_parser_hex_p2 (N : Nat) (p : ((List UInt8) × (Int × (Int × Unit)))) (from_ : Int) (b : Int) (k0 : Bool → Option (Int × (((List UInt8) × (Int × (Int × Unit))) × Unit))) : Option (Int × (((List UInt8) × (Int × (Int × Unit))) × Unit)) :=
 cond (decide (b < (97 : Int)))
 (k0 true)
 (k0 (decide ((102 : Int) < b)))

noncomputable def regex_parser_hex_g2 (N : Nat) (x : denS [(0, .box (.pair .str (.pair (.int .i64) (.pair (.int .i64) .unit)))), (0, .v (.int .i64)), (3, .v (.int .u8))]) (K : Ex → List A → Option (Int × (((List UInt8) × (Int × (Int × Unit))) × Unit))) : Option (Int × (((List UInt8) × (Int × (Int × Unit))) × Unit)) :=
 regex_parser_hex_p2 N x.1 x.2.1 x.2.2.1 (fun a3 => (K .normal (mkS [(0, .box (.pair .str (.pair (.int .i64) (.pair (.int .i64) .unit)))), (0, .v (.int .i64)), (3, .v (.int .u8)), (18, .v .bool)] 6 (x.1, x.2.1, x.2.2.1, a3, ()))))

noncomputable def regex_parser_hex_h2 (N : Nat) : Hd (Int × (((List UInt8) × (Int × (Int × Unit))) × Unit)) := fun st K => (unS [(0, .box (.pair .str (.pair (.int .i64) (.pair (.int .i64) .unit)))), (0, .v (.int .i64)), (3, .v (.int .u8))] 25 (restr [5, 0, 1] 0 st)).bind fun x => regex_parser_hex_g2 N x K

noncomputable def regex_parser_hex_t2 (N : Nat) : Tab (Int × (((List UInt8) × (Int × (Int × Unit))) × Unit)) := []

theorem regex_parser_hex_ok2 {N : Nat} {c : Ctx} (hb : Base Go.Proofs.Tryd.prog (regex_parser_hex_E N) c) : CodeOk Go.Proofs.Tryd.prog c (nodeAt regex_parser_hex_body [0, 0, 1, 1, 1, 1]) (regex_parser_hex_h2 N) :=
  piece_ok (s := [(0, .box (.pair .str (.pair (.int .i64) (.pair (.int .i64) .unit)))), (0, .v (.int .i64)), (3, .v (.int .u8))]) (m := 25) (g := regex_parser_hex_g2 N) [5, 0, 1] (evN_sound hb N (regex_parser_hex_t2 N) regex_parser_hex_L regex_parser_hex_body TabOk.nil [0, 0, 1, 1, 1, 1] _ rfl) (fun x K => by kernel_rfl)

noncomputable def regex_parser_hex_p1 (N : Nat) (p : ((List UInt8) × (Int × (Int × Unit)))) (from_ : Int) (b : Int) (k0 : Option (Int × (((List UInt8) × (Int × (Int × Unit))) × Unit))) : Option (Int × (((List UInt8) × (Int × (Int × Unit))) × Unit)) :=
 regex_parser_hex_p2 N p from_ b
 (fun x24 => cond x24
 (none)
 (k0))

noncomputable def regex_parser_hex_g1 (N : Nat) (x : denS [(0, .box (.pair .str (.pair (.int .i64) (.pair (.int .i64) .unit)))), (0, .v (.int .i64)), (3, .v (.int .u8))]) (K : Ex → List A → Option (Int × (((List UInt8) × (Int × (Int × Unit))) × Unit))) : Option (Int × (((List UInt8) × (Int × (Int × Unit))) × Unit)) :=
 regex_parser_hex_p1 N x.1 x.2.1 x.2.2.1 (K .normal (mkS [(0, .box (.pair .str (.pair (.int .i64) (.pair (.int .i64) .unit)))), (4, .v (.int .u8))] 25 (x.1, x.2.2.1, ())))

noncomputable def regex_parser_hex_h1 (N : Nat) : Hd (Int × (((List UInt8) × (Int × (Int × Unit))) × Unit)) := fun st K => (unS [(0, .box (.pair .str (.pair (.int .i64) (.pair (.int .i64) .unit)))), (0, .v (.int .i64)), (3, .v (.int .u8))] 25 (restr [5, 0, 1] 0 st)).bind fun x => regex_parser_hex_g1 N x K

noncomputable def regex_parser_hex_t1 (N : Nat) : Tab (Int × (((List UInt8) × (Int × (Int × Unit))) × Unit)) := [([0, 0, 1, 1, 1, 1], regex_parser_hex_h2 N)]

theorem regex_parser_hex_ok1 {N : Nat} {c : Ctx} (hb : Base Go.Proofs.Tryd.prog (regex_parser_hex_E N) c) : CodeOk Go.Proofs.Tryd.prog c (nodeAt regex_parser_hex_body [0, 1, 1, 1, 1]) (regex_parser_hex_h1 N) :=
  piece_ok (s := [(0, .box (.pair .str (.pair (.int .i64) (.pair (.int .i64) .unit)))), (0, .v (.int .i64)), (3, .v (.int .u8))]) (m := 25) (g := regex_parser_hex_g1 N) [5, 0, 1] (evN_sound hb N (regex_parser_hex_t1 N) regex_parser_hex_L regex_parser_hex_body (TabOk.cons (regex_parser_hex_ok2 hb) TabOk.nil) [0, 1, 1, 1, 1] _ rfl) (fun x K => by kernel_rfl)

noncomputable def regex_parser_hex (N : Nat) (p : ((List UInt8) × (Int × (Int × Unit)))) (from_ : Int) : Option (Int × (((List UInt8) × (Int × (Int × Unit))) × Unit)) :=
 (regex_parser_next N p).bind fun y =>
 (regex_digit N y.1).bind fun y1 =>
 cond y1
 (some ((Go.IntKind.wrap Go.IntKind.u8 (y.1 - (48 : Int))), ((y.2.1.1, ((Go.IntKind.wrap Go.IntKind.i64 (y.2.1.2.1 + (1 : Int))), y.2.1.2.2)), ())))
 (regex_parser_hex_p1 N (y.2.1.1, ((Go.IntKind.wrap Go.IntKind.i64 (y.2.1.2.1 + (1 : Int))), y.2.1.2.2)) from_ y.1
 (some ((Go.IntKind.wrap Go.IntKind.u8 ((Go.IntKind.wrap Go.IntKind.u8 (y.1 - (97 : Int))) + (10 : Int))), ((y.2.1.1, ((Go.IntKind.wrap Go.IntKind.i64 (y.2.1.2.1 + (1 : Int))), y.2.1.2.2)), ()))))

noncomputable def regex_parser_hex_t (N : Nat) : Tab (Int × (((List UInt8) × (Int × (Int × Unit))) × Unit)) := [([0, 1, 1, 1, 1], regex_parser_hex_h1 N)]

theorem regex_parser_hex_link (N : Nat) (x : denS [(0, .box (.pair .str (.pair (.int .i64) (.pair (.int .i64) .unit)))), (0, .v (.int .i64))]) : evFX (regex_parser_hex_E N) N (regex_parser_hex_t N) regex_parser_hex_L Go.Proofs.Tryd.f58 (mkS [(0, .box (.pair .str (.pair (.int .i64) (.pair (.int .i64) .unit)))), (0, .v (.int .i64))] 0 x) (kResB (.v (.int .u8)) [(0, .box (.pair .str (.pair (.int .i64) (.pair (.int .i64) .unit))))] 1) = regex_parser_hex N x.1 x.2.1 := by kernel_rfl

noncomputable def regex_parser_hex_res (N : Nat) : List A → Res := resOf [(0, .box (.pair .str (.pair (.int .i64) (.pair (.int .i64) .unit)))), (0, .v (.int .i64))] (fun x => regex_parser_hex N x.1 x.2.1) (oResB (.v (.int .u8)) [(0, .box (.pair .str (.pair (.int .i64) (.pair (.int .i64) .unit))))] 1)

theorem regex_parser_hex_ct (N : Nat) : Contract Go.Proofs.Tryd.prog glob 58 (regex_parser_hex_res N) :=
  Contract.of (E := regex_parser_hex_E N) (H := regex_parser_hex_t N) (L := regex_parser_hex_L) (N := N) (body := regex_parser_hex_body) (K := (kResB (.v (.int .u8)) [(0, .box (.pair .str (.pair (.int .i64) (.pair (.int .i64) .unit))))] 1)) (regex_parser_hex_Eok N) Go.Proofs.Tryd.func58 (by kernel_rfl) (by decide) (fun _ hb => (TabOk.cons (regex_parser_hex_ok1 hb) TabOk.nil)) (fun x y h => by rw [regex_parser_hex_link]; exact h) (kResB_ok (s := (.v (.int .u8))) (os := [(0, .box (.pair .str (.pair (.int .i64) (.pair (.int .i64) .unit))))]) (m := 1))

noncomputable def strings_IndexByte_body : Code := (Go.Proofs.Tryd.f44.body).getD .skip

noncomputable def strings_IndexByte_L : List (List Nat × List Nat) := [([0], [0, 1]), ([0, 1], [4]), ([1, 1], [4])]

noncomputable def strings_IndexByte_E (N : Nat) : Env := mkEnv tys glob [(59, idb_res)] [] [] [] false [] []

theorem strings_IndexByte_Eok (N : Nat) : EnvOk Go.Proofs.Tryd.prog (strings_IndexByte_E N) := mkEnv_ok mixed tys_ok (FnsOk.cons (idb_ct glob) (FnsOk.nil)) (ItsOk.nil)

noncomputable def strings_IndexByte (N : Nat) (s : (List UInt8)) (c : Int) : Option Int :=
 some (Go.Lib.indexByte s (Nat.toUInt8 (Int.toNat c)))

noncomputable def strings_IndexByte_t (N : Nat) : Tab Int := []

theorem strings_IndexByte_link (N : Nat) (x : denS [(0, .v .str), (0, .v (.int .u8))]) : evFX (strings_IndexByte_E N) N (strings_IndexByte_t N) strings_IndexByte_L Go.Proofs.Tryd.f44 (mkS [(0, .v .str), (0, .v (.int .u8))] 0 x) (kRes (.v (.int .i64)) 2) = strings_IndexByte N x.1 x.2.1 := by kernel_rfl

noncomputable def strings_IndexByte_res (N : Nat) : List A → Res := resOf [(0, .v .str), (0, .v (.int .u8))] (fun x => strings_IndexByte N x.1 x.2.1) (oRes (.v (.int .i64)) 2)

theorem strings_IndexByte_ct (N : Nat) : Contract Go.Proofs.Tryd.prog glob 44 (strings_IndexByte_res N) :=
  Contract.of (E := strings_IndexByte_E N) (H := strings_IndexByte_t N) (L := strings_IndexByte_L) (N := N) (body := strings_IndexByte_body) (K := (kRes (.v (.int .i64)) 2)) (strings_IndexByte_Eok N) Go.Proofs.Tryd.func44 (by kernel_rfl) (by decide) (fun _ hb => TabOk.nil) (fun x y h => by rw [strings_IndexByte_link]; exact h) (kRes_ok (s := (.v (.int .i64))) (m := 2))

noncomputable def regex_parser_escape_body : Code := (Go.Proofs.Tryd.f43.body).getD .skip

noncomputable def regex_parser_escape_L : List (List Nat × List Nat) := [([0], [0, 2]), ([0, 1], [0, 2, 4]), ([0, 1, 1], [0, 2, 4]), ([0, 1, 1, 1], [0, 5, 2, 4]), ([0, 1, 1, 1, 1], [5, 2, 0, 4]), ([0, 0, 0, 1, 1, 1, 1, 1], [22, 2, 0, 5, 4]), ([1, 0, 0, 1, 1, 1, 1, 1], [5, 2, 0]), ([0, 1, 1, 0, 0, 1, 1, 1, 1, 1], [26, 2, 0, 5, 4]), ([1, 1, 1, 0, 0, 1, 1, 1, 1, 1], [5, 2, 0]), ([0, 1, 1, 1, 1, 0, 0, 1, 1, 1, 1, 1], [30, 0, 4, 2, 5]), ([1, 1, 1, 1, 1, 0, 0, 1, 1, 1, 1, 1], [5, 2, 0]), ([0, 1, 1, 1, 1, 1, 1, 0, 0, 1, 1, 1, 1, 1], [42, 0, 4, 5, 2]), ([1, 1, 1, 1, 1, 1, 1, 0, 0, 1, 1, 1, 1, 1], [5, 2, 0]), ([0, 1, 1, 1, 1, 1, 1, 1, 0, 0, 1, 1, 1, 1, 1], [5, 2, 0]), ([0, 0, 1, 1, 1, 1, 1, 0, 0, 1, 1, 1, 1, 1], [6, 0, 4, 2]), ([1, 0, 1, 1, 1, 1, 1, 0, 0, 1, 1, 1, 1, 1], [5, 2, 0]), ([0, 0, 1, 1, 1, 0, 0, 1, 1, 1, 1, 1], [2, 3, 0]), ([1, 0, 1, 1, 1, 0, 0, 1, 1, 1, 1, 1], [2, 3, 0]), ([0, 0, 1, 0, 0, 1, 1, 1, 1, 1], [2, 3, 0]), ([1, 0, 1, 0, 0, 1, 1, 1, 1, 1], [2, 3, 0]), ([0, 1, 1, 1, 1, 1], [5, 2, 0]), ([0, 1, 1, 1, 1, 1, 1], [2, 3, 0]), ([1, 1, 1, 1, 1, 1, 1], [2, 3, 0])]

noncomputable def regex_parser_escape_E (N : Nat) : Env := mkEnv tys glob [(44, strings_IndexByte_res N), (58, regex_parser_hex_res N), (57, charset_Texts_res N), (41, charset_Of_res N), (46, regex_parser_need_res N), (56, regex_parser_next_res N)] [] [] [0] false [] []

theorem regex_parser_escape_Eok (N : Nat) : EnvOk Go.Proofs.Tryd.prog (regex_parser_escape_E N) := mkEnv_ok mixed tys_ok (FnsOk.cons (strings_IndexByte_ct N) (FnsOk.cons (regex_parser_hex_ct N) (FnsOk.cons (charset_Texts_ct N) (FnsOk.cons (charset_Of_ct N) (FnsOk.cons (regex_parser_need_ct N) (FnsOk.cons (regex_parser_next_ct N) (FnsOk.nil))))))) (ItsOk.nil)

noncomputable def regex_parser_escape_p1 (N : Nat) (p : ((List UInt8) × (Int × (Int × Unit)))) (set_ : (List Int)) (from_ : Int) (b : Int) (k0 : (List Int) → Bool → Option (((List Int) × Bool × Unit) × (((List UInt8) × (Int × (Int × Unit))) × Unit))) (k1 : ((List UInt8) × (Int × (Int × Unit))) → Int → Option (((List Int) × Bool × Unit) × (((List UInt8) × (Int × (Int × Unit))) × Unit))) : Option (((List Int) × Bool × Unit) × (((List UInt8) × (Int × (Int × Unit))) × Unit)) :=
 cond (b == (100 : Int))
 ((charset_Of N (48 : Int) (57 : Int)).bind fun y =>
 k0 y true)
 (cond (b == (119 : Int))
 ((charset_Texts N ((48 : UInt8) :: (49 : UInt8) :: (50 : UInt8) :: (51 : UInt8) :: (52 : UInt8) :: (53 : UInt8) :: (54 : UInt8) :: (55 : UInt8) :: (56 : UInt8) :: (57 : UInt8) :: (65 : UInt8) :: (66 : UInt8) :: (67 : UInt8) :: (68 : UInt8) :: (69 : UInt8) :: (70 : UInt8) :: (71 : UInt8) :: (72 : UInt8) :: (73 : UInt8) :: (74 : UInt8) :: (75 : UInt8) :: (76 : UInt8) :: (77 : UInt8) :: (78 : UInt8) :: (79 : UInt8) :: (80 : UInt8) :: (81 : UInt8) :: (82 : UInt8) :: (83 : UInt8) :: (84 : UInt8) :: (85 : UInt8) :: (86 : UInt8) :: (87 : UInt8) :: (88 : UInt8) :: (89 : UInt8) :: (90 : UInt8) :: (95 : UInt8) :: (97 : UInt8) :: (98 : UInt8) :: (99 : UInt8) :: (100 : UInt8) :: (101 : UInt8) :: (102 : UInt8) :: (103 : UInt8) :: (104 : UInt8) :: (105 : UInt8) :: (106 : UInt8) :: (107 : UInt8) :: (108 : UInt8) :: (109 : UInt8) :: (110 : UInt8) :: (111 : UInt8) :: (112 : UInt8) :: (113 : UInt8) :: (114 : UInt8) :: (115 : UInt8) :: (116 : UInt8) :: (117 : UInt8) :: (118 : UInt8) :: (119 : UInt8) :: (120 : UInt8) :: (121 : UInt8) :: (122 : UInt8) :: ([] : List UInt8))).bind fun y1 =>
 k0 y1 true)
 (cond (b == (120 : Int))
 ((regex_parser_hex N p from_).bind fun y2 =>
 (regex_parser_hex N y2.2.1 from_).bind fun y3 =>
 k1 y3.2.1 (Go.Lift.bitsOp Go.BinOp.or Go.IntKind.u8 (Go.Lift.shlI Go.IntKind.u8 y2.1 (4 : Int)) y3.1))
 (cond (decide ((Go.Lib.indexByte ([(92 : UInt8), (46 : UInt8), (91 : UInt8), (93 : UInt8), (40 : UInt8), (41 : UInt8), (123 : UInt8), (125 : UInt8), (124 : UInt8), (42 : UInt8), (43 : UInt8), (63 : UInt8), (45 : UInt8), (94 : UInt8)] : List UInt8) (Nat.toUInt8 (Int.toNat b))) < (0 : Int)))
 (none)
 (k1 p b))))

noncomputable def regex_parser_escape_g1 (N : Nat) (x : denS [(0, .box (.pair .str (.pair (.int .i64) (.pair (.int .i64) .unit)))), (1, .box (.arr 4 (.int .u64))), (1, .v (.int .i64)), (0, .v (.int .u8))]) (K : Ex → List A → Option (((List Int) × Bool × Unit) × (((List UInt8) × (Int × (Int × Unit))) × Unit))) : Option (((List Int) × Bool × Unit) × (((List UInt8) × (Int × (Int × Unit))) × Unit)) :=
 regex_parser_escape_p1 N x.1 x.2.1 x.2.2.1 x.2.2.2.1 (fun a1 a2 => (K .ret (mkS [(0, .box (.pair .str (.pair (.int .i64) (.pair (.int .i64) .unit)))), (1, .box (.arr 4 (.int .u64))), (0, .v .bool)] 48 (x.1, a1, a2, ())))) (fun a0 a2 => (K .normal (mkS [(0, .box (.pair .str (.pair (.int .i64) (.pair (.int .i64) .unit)))), (1, .box (.arr 4 (.int .u64))), (2, .v (.int .u8))] 46 (a0, x.2.1, a2, ()))))

noncomputable def regex_parser_escape_h1 (N : Nat) : Hd (((List Int) × Bool × Unit) × (((List UInt8) × (Int × (Int × Unit))) × Unit)) := fun st K => (unS [(0, .box (.pair .str (.pair (.int .i64) (.pair (.int .i64) .unit)))), (1, .box (.arr 4 (.int .u64))), (1, .v (.int .i64)), (0, .v (.int .u8))] 46 (restr [5, 2, 0, 4] 0 st)).bind fun x => regex_parser_escape_g1 N x K

noncomputable def regex_parser_escape_t1 (N : Nat) : Tab (((List Int) × Bool × Unit) × (((List UInt8) × (Int × (Int × Unit))) × Unit)) := []

theorem regex_parser_escape_ok1 {N : Nat} {c : Ctx} (hb : Base Go.Proofs.Tryd.prog (regex_parser_escape_E N) c) : CodeOk Go.Proofs.Tryd.prog c (nodeAt regex_parser_escape_body [0, 1, 1, 1, 1, 1]) (regex_parser_escape_h1 N) :=
  piece_ok (s := [(0, .box (.pair .str (.pair (.int .i64) (.pair (.int .i64) .unit)))), (1, .box (.arr 4 (.int .u64))), (1, .v (.int .i64)), (0, .v (.int .u8))]) (m := 46) (g := regex_parser_escape_g1 N) [5, 2, 0, 4] (evN_sound hb N (regex_parser_escape_t1 N) regex_parser_escape_L regex_parser_escape_body TabOk.nil [0, 1, 1, 1, 1, 1] _ rfl) (fun x K => by kernel_rfl)

noncomputable def regex_parser_escape (N : Nat) (p : ((List UInt8) × (Int × (Int × Unit)))) : Option (((List Int) × Bool × Unit) × (((List UInt8) × (Int × (Int × Unit))) × Unit)) :=
 (regex_parser_need N p (92 : Int)).bind fun y =>
 (regex_parser_next N y.2.1).bind fun y1 =>
 regex_parser_escape_p1 N (y1.2.1.1, ((Go.IntKind.wrap Go.IntKind.i64 (y1.2.1.2.1 + (1 : Int))), y1.2.1.2.2)) ([(0 : Int), (0 : Int), (0 : Int), (0 : Int)] : List Int) p.2.1 y1.1
 (fun set_ class_ => some ((set_, (class_, ())), ((y1.2.1.1, ((Go.IntKind.wrap Go.IntKind.i64 (y1.2.1.2.1 + (1 : Int))), y1.2.1.2.2)), ())))
 (fun p1 b => (charset_Of N b b).bind fun y2 =>
 some ((y2, (false, ())), (p1, ())))

noncomputable def regex_parser_escape_t (N : Nat) : Tab (((List Int) × Bool × Unit) × (((List UInt8) × (Int × (Int × Unit))) × Unit)) := [([0, 1, 1, 1, 1, 1], regex_parser_escape_h1 N)]

theorem regex_parser_escape_link (N : Nat) (x : denS [(0, .box (.pair .str (.pair (.int .i64) (.pair (.int .i64) .unit))))]) : evFX (regex_parser_escape_E N) N (regex_parser_escape_t N) regex_parser_escape_L Go.Proofs.Tryd.f43 (mkS [(0, .box (.pair .str (.pair (.int .i64) (.pair (.int .i64) .unit))))] 0 x) (kResB (.tup [(.arr 4 (.int .u64)), .bool]) [(0, .box (.pair .str (.pair (.int .i64) (.pair (.int .i64) .unit))))] 0) = regex_parser_escape N x.1 := by kernel_rfl

noncomputable def regex_parser_escape_res (N : Nat) : List A → Res := resOf [(0, .box (.pair .str (.pair (.int .i64) (.pair (.int .i64) .unit))))] (fun x => regex_parser_escape N x.1) (oResB (.tup [(.arr 4 (.int .u64)), .bool]) [(0, .box (.pair .str (.pair (.int .i64) (.pair (.int .i64) .unit))))] 0)

theorem regex_parser_escape_ct (N : Nat) : Contract Go.Proofs.Tryd.prog glob 43 (regex_parser_escape_res N) :=
  Contract.of (E := regex_parser_escape_E N) (H := regex_parser_escape_t N) (L := regex_parser_escape_L) (N := N) (body := regex_parser_escape_body) (K := (kResB (.tup [(.arr 4 (.int .u64)), .bool]) [(0, .box (.pair .str (.pair (.int .i64) (.pair (.int .i64) .unit))))] 0)) (regex_parser_escape_Eok N) Go.Proofs.Tryd.func43 (by kernel_rfl) (by decide) (fun _ hb => (TabOk.cons (regex_parser_escape_ok1 hb) TabOk.nil)) (fun x y h => by rw [regex_parser_escape_link]; exact h) (kResB_ok (s := (.tup [(.arr 4 (.int .u64)), .bool])) (os := [(0, .box (.pair .str (.pair (.int .i64) (.pair (.int .i64) .unit))))]) (m := 0))

noncomputable def regex_parser_sign_body : Code := (Go.Proofs.Tryd.f68.body).getD .skip

noncomputable def regex_parser_sign_L : List (List Nat × List Nat) := [([0], [0, 2]), ([0, 1], [4, 0, 2]), ([0, 0, 1, 1], [7, 0, 2, 4]), ([0, 0, 1, 0, 1, 1], [8, 0, 2, 7, 4]), ([1, 0, 1, 0, 1, 1], [0, 4, 2]), ([0, 0, 1, 1, 0, 1, 0, 1, 1], [14, 0, 4, 2, 7]), ([1, 0, 1, 1, 0, 1, 0, 1, 1], [14, 0, 4, 2]), ([0, 1, 1, 0, 1, 1, 0, 1, 0, 1, 1], [14, 0, 4, 2, 7]), ([1, 1, 1, 0, 1, 1, 0, 1, 0, 1, 1], [14, 0, 4, 2]), ([0, 1, 1, 1, 1, 0, 1, 1, 0, 1, 0, 1, 1], [14, 0, 4, 2, 7]), ([1, 1, 1, 1, 1, 0, 1, 1, 0, 1, 0, 1, 1], [14, 0, 4, 2]), ([1, 1, 1, 1, 1, 1, 0, 1, 1, 0, 1, 0, 1, 1], [14, 0, 4, 2]), ([1, 1, 1, 0, 1, 0, 1, 1], [0, 4, 2]), ([0, 1, 1, 1, 0, 1, 0, 1, 1], [0, 4, 2]), ([0, 0, 1, 0, 1, 0, 1, 1], [2, 3, 0]), ([1, 0, 1, 0, 1, 0, 1, 1], [2, 3, 0]), ([1, 0, 1, 1], [0, 4, 2]), ([0, 1, 1, 1], [4, 2, 0]), ([0, 1, 1, 1, 1], [2, 3, 0]), ([1, 1, 1, 1, 1], [2, 3, 0])]

noncomputable def regex_parser_sign_E (N : Nat) : Env := mkEnv tys glob [(43, regex_parser_escape_res N), (41, charset_Of_res N), (56, regex_parser_next_res N)] [] [] [0] false [] []

theorem regex_parser_sign_Eok (N : Nat) : EnvOk Go.Proofs.Tryd.prog (regex_parser_sign_E N) := mkEnv_ok mixed tys_ok (FnsOk.cons (regex_parser_escape_ct N) (FnsOk.cons (charset_Of_ct N) (FnsOk.cons (regex_parser_next_ct N) (FnsOk.nil)))) (ItsOk.nil)

noncomputable def regex_parser_sign_p2 (N : Nat) (p : ((List UInt8) × (Int × (Int × Unit)))) (set_ : (List Int)) (b : Int) (x7 : Int) (k0 : Bool → Option (((List Int) × Bool × Unit) × (((List UInt8) × (Int × (Int × Unit))) × Unit))) : Option (((List Int) × Bool × Unit) × (((List UInt8) × (Int × (Int × Unit))) × Unit)) :=
 cond (x7 == (91 : Int))
 (k0 (x7 == (91 : Int)))
 (cond (x7 == (93 : Int))
 (k0 (x7 == (93 : Int)))
 (cond (x7 == (45 : Int))
 (k0 (x7 == (45 : Int)))
 (k0 (x7 == (94 : Int)))))

noncomputable def regex_parser_sign_g2 (N : Nat) (x : denS [(0, .box (.pair .str (.pair (.int .i64) (.pair (.int .i64) .unit)))), (1, .box (.arr 4 (.int .u64))), (1, .v (.int .u8)), (2, .v (.int .u8))]) (K : Ex → List A → Option (((List Int) × Bool × Unit) × (((List UInt8) × (Int × (Int × Unit))) × Unit))) : Option (((List Int) × Bool × Unit) × (((List UInt8) × (Int × (Int × Unit))) × Unit)) :=
 regex_parser_sign_p2 N x.1 x.2.1 x.2.2.1 x.2.2.2.1 (fun a3 => (K .normal (mkS [(0, .box (.pair .str (.pair (.int .i64) (.pair (.int .i64) .unit)))), (1, .box (.arr 4 (.int .u64))), (1, .v (.int .u8)), (9, .v .bool)] 20 (x.1, x.2.1, x.2.2.1, a3, ()))))

noncomputable def regex_parser_sign_h2 (N : Nat) : Hd (((List Int) × Bool × Unit) × (((List UInt8) × (Int × (Int × Unit))) × Unit)) := fun st K => (unS [(0, .box (.pair .str (.pair (.int .i64) (.pair (.int .i64) .unit)))), (1, .box (.arr 4 (.int .u64))), (1, .v (.int .u8)), (2, .v (.int .u8))] 27 (restr [7, 0, 4, 2] 0 st)).bind fun x => regex_parser_sign_g2 N x K

noncomputable def regex_parser_sign_t2 (N : Nat) : Tab (((List Int) × Bool × Unit) × (((List UInt8) × (Int × (Int × Unit))) × Unit)) := []

theorem regex_parser_sign_ok2 {N : Nat} {c : Ctx} (hb : Base Go.Proofs.Tryd.prog (regex_parser_sign_E N) c) : CodeOk Go.Proofs.Tryd.prog c (nodeAt regex_parser_sign_body [0, 1, 1, 0, 1, 0, 1, 1]) (regex_parser_sign_h2 N) :=
  piece_ok (s := [(0, .box (.pair .str (.pair (.int .i64) (.pair (.int .i64) .unit)))), (1, .box (.arr 4 (.int .u64))), (1, .v (.int .u8)), (2, .v (.int .u8))]) (m := 27) (g := regex_parser_sign_g2 N) [7, 0, 4, 2] (evN_sound hb N (regex_parser_sign_t2 N) regex_parser_sign_L regex_parser_sign_body TabOk.nil [0, 1, 1, 0, 1, 0, 1, 1] _ rfl) (fun x K => by kernel_rfl)

noncomputable def regex_parser_sign_p1 (N : Nat) (p : ((List UInt8) × (Int × (Int × Unit)))) (set_ : (List Int)) (b : Int) (k0 : ((List UInt8) × (Int × (Int × Unit))) → (List Int) → Bool → Option (((List Int) × Bool × Unit) × (((List UInt8) × (Int × (Int × Unit))) × Unit))) (k1 : Option (((List Int) × Bool × Unit) × (((List UInt8) × (Int × (Int × Unit))) × Unit))) : Option (((List Int) × Bool × Unit) × (((List UInt8) × (Int × (Int × Unit))) × Unit)) :=
 cond (b == (92 : Int))
 ((regex_parser_escape N p).bind fun y =>
 k0 y.2.1 y.1.1 y.1.2.1)
 (regex_parser_sign_p2 N p set_ b b
 (fun x14 => cond x14
 (none)
 (k1)))

noncomputable def regex_parser_sign_g1 (N : Nat) (x : denS [(0, .box (.pair .str (.pair (.int .i64) (.pair (.int .i64) .unit)))), (1, .box (.arr 4 (.int .u64))), (1, .v (.int .u8))]) (K : Ex → List A → Option (((List Int) × Bool × Unit) × (((List UInt8) × (Int × (Int × Unit))) × Unit))) : Option (((List Int) × Bool × Unit) × (((List UInt8) × (Int × (Int × Unit))) × Unit)) :=
 regex_parser_sign_p1 N x.1 x.2.1 x.2.2.1 (fun a0 a1 a2 => (K .ret (mkS [(0, .box (.pair .str (.pair (.int .i64) (.pair (.int .i64) .unit)))), (1, .box (.arr 4 (.int .u64))), (0, .v .bool)] 31 (a0, a1, a2, ())))) (K .normal (mkS [(0, .box (.pair .str (.pair (.int .i64) (.pair (.int .i64) .unit)))), (1, .box (.arr 4 (.int .u64))), (1, .v (.int .u8))] 30 (x.1, x.2.1, x.2.2.1, ())))

noncomputable def regex_parser_sign_h1 (N : Nat) : Hd (((List Int) × Bool × Unit) × (((List UInt8) × (Int × (Int × Unit))) × Unit)) := fun st K => (unS [(0, .box (.pair .str (.pair (.int .i64) (.pair (.int .i64) .unit)))), (1, .box (.arr 4 (.int .u64))), (1, .v (.int .u8))] 30 (restr [4, 0, 2] 0 st)).bind fun x => regex_parser_sign_g1 N x K

noncomputable def regex_parser_sign_t1 (N : Nat) : Tab (((List Int) × Bool × Unit) × (((List UInt8) × (Int × (Int × Unit))) × Unit)) := [([0, 1, 1, 0, 1, 0, 1, 1], regex_parser_sign_h2 N)]

theorem regex_parser_sign_ok1 {N : Nat} {c : Ctx} (hb : Base Go.Proofs.Tryd.prog (regex_parser_sign_E N) c) : CodeOk Go.Proofs.Tryd.prog c (nodeAt regex_parser_sign_body [0, 1, 1]) (regex_parser_sign_h1 N) :=
  piece_ok (s := [(0, .box (.pair .str (.pair (.int .i64) (.pair (.int .i64) .unit)))), (1, .box (.arr 4 (.int .u64))), (1, .v (.int .u8))]) (m := 30) (g := regex_parser_sign_g1 N) [4, 0, 2] (evN_sound hb N (regex_parser_sign_t1 N) regex_parser_sign_L regex_parser_sign_body (TabOk.cons (regex_parser_sign_ok2 hb) TabOk.nil) [0, 1, 1] _ rfl) (fun x K => by kernel_rfl)

noncomputable def regex_parser_sign (N : Nat) (p : ((List UInt8) × (Int × (Int × Unit)))) : Option (((List Int) × Bool × Unit) × (((List UInt8) × (Int × (Int × Unit))) × Unit)) :=
 (regex_parser_next N p).bind fun y =>
 regex_parser_sign_p1 N y.2.1 ([(0 : Int), (0 : Int), (0 : Int), (0 : Int)] : List Int) y.1
 (fun p1 set_ class_ => some ((set_, (class_, ())), (p1, ())))
 ((charset_Of N y.1 y.1).bind fun y1 =>
 some ((y1, (false, ())), ((y.2.1.1, ((Go.IntKind.wrap Go.IntKind.i64 (y.2.1.2.1 + (1 : Int))), y.2.1.2.2)), ())))

noncomputable def regex_parser_sign_t (N : Nat) : Tab (((List Int) × Bool × Unit) × (((List UInt8) × (Int × (Int × Unit))) × Unit)) := [([0, 1, 1], regex_parser_sign_h1 N)]

theorem regex_parser_sign_link (N : Nat) (x : denS [(0, .box (.pair .str (.pair (.int .i64) (.pair (.int .i64) .unit))))]) : evFX (regex_parser_sign_E N) N (regex_parser_sign_t N) regex_parser_sign_L Go.Proofs.Tryd.f68 (mkS [(0, .box (.pair .str (.pair (.int .i64) (.pair (.int .i64) .unit))))] 0 x) (kResB (.tup [(.arr 4 (.int .u64)), .bool]) [(0, .box (.pair .str (.pair (.int .i64) (.pair (.int .i64) .unit))))] 0) = regex_parser_sign N x.1 := by kernel_rfl

noncomputable def regex_parser_sign_res (N : Nat) : List A → Res := resOf [(0, .box (.pair .str (.pair (.int .i64) (.pair (.int .i64) .unit))))] (fun x => regex_parser_sign N x.1) (oResB (.tup [(.arr 4 (.int .u64)), .bool]) [(0, .box (.pair .str (.pair (.int .i64) (.pair (.int .i64) .unit))))] 0)

theorem regex_parser_sign_ct (N : Nat) : Contract Go.Proofs.Tryd.prog glob 68 (regex_parser_sign_res N) :=
  Contract.of (E := regex_parser_sign_E N) (H := regex_parser_sign_t N) (L := regex_parser_sign_L) (N := N) (body := regex_parser_sign_body) (K := (kResB (.tup [(.arr 4 (.int .u64)), .bool]) [(0, .box (.pair .str (.pair (.int .i64) (.pair (.int .i64) .unit))))] 0)) (regex_parser_sign_Eok N) Go.Proofs.Tryd.func68 (by kernel_rfl) (by decide) (fun _ hb => (TabOk.cons (regex_parser_sign_ok1 hb) TabOk.nil)) (fun x y h => by rw [regex_parser_sign_link]; exact h) (kResB_ok (s := (.tup [(.arr 4 (.int .u64)), .bool])) (os := [(0, .box (.pair .str (.pair (.int .i64) (.pair (.int .i64) .unit))))]) (m := 0))

noncomputable def math_bits_TrailingZeros64_body : Code := (Go.Proofs.Tryd.f74.body).getD .skip

noncomputable def math_bits_TrailingZeros64_L : List (List Nat × List Nat) := [([0], [0]), ([0, 0, 1], [4, 0]), ([1, 0, 1], [0]), ([0, 0, 1, 0, 1], [2]), ([1, 0, 1, 0, 1], [2]), ([0, 1, 1], [2]), ([1, 1, 1], [2])]

noncomputable def math_bits_TrailingZeros64_E (N : Nat) : Env := mkEnv tys glob [] [] [] [] false [] []

theorem math_bits_TrailingZeros64_Eok (N : Nat) : EnvOk Go.Proofs.Tryd.prog (math_bits_TrailingZeros64_E N) := mkEnv_ok mixed tys_ok (FnsOk.nil) (ItsOk.nil)

noncomputable def math_bits_TrailingZeros64 (N : Nat) (x0 : Int) : Option Int :=
 cond (x0 == (0 : Int))
 (some (64 : Int))
 (cond (Go.Lift.inR (Go.Lift.shrI Go.IntKind.u64 (Go.IntKind.wrap Go.IntKind.u64 ((285870213051353865 : Int) * (Go.Lift.bitsOp Go.BinOp.and Go.IntKind.u64 x0 (Go.IntKind.wrap Go.IntKind.u64 ((0 : Int) - x0))))) (58 : Int)) 64)
 (some (Go.IntKind.wrap Go.IntKind.i64 (List.getD glob1 (Int.toNat (Go.Lift.shrI Go.IntKind.u64 (Go.IntKind.wrap Go.IntKind.u64 ((285870213051353865 : Int) * (Go.Lift.bitsOp Go.BinOp.and Go.IntKind.u64 x0 (Go.IntKind.wrap Go.IntKind.u64 ((0 : Int) - x0))))) (58 : Int))) (0 : Int))))
 (none))

noncomputable def math_bits_TrailingZeros64_t (N : Nat) : Tab Int := []

theorem math_bits_TrailingZeros64_link (N : Nat) (x : denS [(0, .v (.int .u64))]) : evFX (math_bits_TrailingZeros64_E N) N (math_bits_TrailingZeros64_t N) math_bits_TrailingZeros64_L Go.Proofs.Tryd.f74 (mkS [(0, .v (.int .u64))] 0 x) (kRes (.v (.int .i64)) 1) = math_bits_TrailingZeros64 N x.1 := by kernel_rfl

noncomputable def math_bits_TrailingZeros64_res (N : Nat) : List A → Res := resOf [(0, .v (.int .u64))] (fun x => math_bits_TrailingZeros64 N x.1) (oRes (.v (.int .i64)) 1)

theorem math_bits_TrailingZeros64_ct (N : Nat) : Contract Go.Proofs.Tryd.prog glob 74 (math_bits_TrailingZeros64_res N) :=
  Contract.of (E := math_bits_TrailingZeros64_E N) (H := math_bits_TrailingZeros64_t N) (L := math_bits_TrailingZeros64_L) (N := N) (body := math_bits_TrailingZeros64_body) (K := (kRes (.v (.int .i64)) 1)) (math_bits_TrailingZeros64_Eok N) Go.Proofs.Tryd.func74 (by kernel_rfl) (by decide) (fun _ hb => TabOk.nil) (fun x y h => by rw [math_bits_TrailingZeros64_link]; exact h) (kRes_ok (s := (.v (.int .i64))) (m := 1))

noncomputable def charset_First_body : Code := (Go.Proofs.Tryd.f69.body).getD .skip

noncomputable def charset_First_L : List (List Nat × List Nat) := [([0], [1]), ([0, 0, 1], [6, 1]), ([1, 0, 1], [1]), ([0, 0, 1, 0, 1], [2]), ([1, 0, 1, 0, 1], [2]), ([0, 1, 1], [3, 1]), ([0, 0, 1, 1, 1], [3, 1]), ([0, 0, 0, 0, 0, 1, 1, 1], [10, 3, 1]), ([1, 0, 0, 0, 0, 1, 1, 1], [3, 1]), ([1, 1, 0, 0, 0, 0, 1, 1, 1], [3, 1]), ([0, 1, 0, 0, 0, 1, 1, 1], [3, 1]), ([1, 0, 0, 0, 1, 1, 1], [3, 1]), ([0, 1, 1, 1], [3, 1]), ([0, 1, 1, 1, 1], [2]), ([1, 1, 1, 1, 1], [2])]

noncomputable def charset_First_E (N : Nat) : Env := mkEnv tys glob [(74, math_bits_TrailingZeros64_res N)] [] [] [] false [] []

theorem charset_First_Eok (N : Nat) : EnvOk Go.Proofs.Tryd.prog (charset_First_E N) := mkEnv_ok mixed tys_ok (FnsOk.cons (math_bits_TrailingZeros64_ct N) (FnsOk.nil)) (ItsOk.nil)

noncomputable def charset_First_s1 (N : Nat) (s : (List Int)) (i : Int) (rec : Int → Option Int) (k0 : Int → Option Int) : Option Int :=
 cond (Go.Lift.inR i 4)
 (cond (decide ((Int.toNat i) < (List.length s)))
 (cond ((List.getD s (Int.toNat i) (0 : Int)) == (0 : Int))
 (rec (Go.IntKind.wrap Go.IntKind.i64 (i + (1 : Int))))
 (k0 i))
 (none))
 (none)

noncomputable def charset_First_p1 (N : Nat) (s : (List Int)) (i : Int) (k0 : Int → Option Int) : Option Int :=
 iter (fun (v : Int) r => charset_First_s1 N s v (fun i => (r i)) k0) N i

noncomputable def charset_First_g1 (N : Nat) (i : (List Int)) (v : Int) (r : Int → Option Int) (K : Ex → List A → Option Int) : Option Int :=
 charset_First_s1 N i v (fun i => (r i)) (fun a1 => (K (.exit 0) (mkS [(1, .box (.arr 4 (.int .u64))), (1, .v (.int .i64))] 16 (i, a1, ()))))

noncomputable def charset_First_h1 (N : Nat) : Hd Int := fun st K => (unS [(1, .box (.arr 4 (.int .u64))), (1, .v (.int .i64))] 16 (restr [3, 1] 0 st)).bind fun x => iter (fun v r => charset_First_g1 N ((fun x => x.1) x) v r K) N ((fun x => x.2.1) x)

noncomputable def charset_First_t1 (N : Nat) : Tab Int := []

theorem charset_First_ok1 {N : Nat} {c : Ctx} (hb : Base Go.Proofs.Tryd.prog (charset_First_E N) c) : CodeOk Go.Proofs.Tryd.prog c (nodeAt charset_First_body [0, 0, 1, 1, 1]) (charset_First_h1 N) :=
  loop_ok (s := [(1, .box (.arr 4 (.int .u64))), (1, .v (.int .i64))]) (m := 16) (charset_First_g1 N) [3, 1] N (fun x => x.1) (fun x => x.2.1) (fun i v => (i, v, ())) (fun _ => rfl) (evN_sound hb N (charset_First_t1 N) charset_First_L charset_First_body TabOk.nil [0, 0, 0, 1, 1, 1] _ rfl) (fun i v r K => by kernel_rfl)

noncomputable def charset_First (N : Nat) (s : (List Int)) : Option Int :=
 cond (Go.Lift.eqD (Go.Lift.T.arr 4 (Go.Lift.T.int Go.IntKind.u64)) s ([(0 : Int), (0 : Int), (0 : Int), (0 : Int)] : List Int))
 (some (-(1 : Int)))
 (charset_First_p1 N s (0 : Int)
 (fun i => cond (Go.Lift.inR i 4)
 (cond (decide ((Int.toNat i) < (List.length s)))
 ((math_bits_TrailingZeros64 N (List.getD s (Int.toNat i) (0 : Int))).bind fun y =>
 some (Go.IntKind.wrap Go.IntKind.i64 ((Go.IntKind.wrap Go.IntKind.i64 (i * (64 : Int))) + y)))
 (none))
 (none)))

noncomputable def charset_First_t (N : Nat) : Tab Int := [([0, 0, 1, 1, 1], charset_First_h1 N)]

theorem charset_First_link (N : Nat) (x : denS [(0, .v (.arr 4 (.int .u64)))]) : evFX (charset_First_E N) N (charset_First_t N) charset_First_L Go.Proofs.Tryd.f69 (mkS [(0, .v (.arr 4 (.int .u64)))] 0 x) (kRes (.v (.int .i64)) 1) = charset_First N x.1 := by kernel_rfl

noncomputable def charset_First_res (N : Nat) : List A → Res := resOf [(0, .v (.arr 4 (.int .u64)))] (fun x => charset_First N x.1) (oRes (.v (.int .i64)) 1)

theorem charset_First_ct (N : Nat) : Contract Go.Proofs.Tryd.prog glob 69 (charset_First_res N) :=
  Contract.of (E := charset_First_E N) (H := charset_First_t N) (L := charset_First_L) (N := N) (body := charset_First_body) (K := (kRes (.v (.int .i64)) 1)) (charset_First_Eok N) Go.Proofs.Tryd.func69 (by kernel_rfl) (by decide) (fun _ hb => (TabOk.cons (charset_First_ok1 hb) TabOk.nil)) (fun x y h => by rw [charset_First_link]; exact h) (kRes_ok (s := (.v (.int .i64))) (m := 1))

noncomputable def regex_parser_item_body : Code := (Go.Proofs.Tryd.f53.body).getD .skip

noncomputable def regex_parser_item_L : List (List Nat × List Nat) := [([0], [0, 2]), ([0, 1], [4, 0, 3, 2]), ([0, 0, 1, 1], [17, 3, 2, 0]), ([1, 0, 1, 1], [0, 3, 2]), ([0, 0, 1, 0, 1, 1], [2, 0]), ([1, 0, 1, 0, 1, 1], [2, 0]), ([0, 1, 1, 1], [0, 3, 5, 2]), ([0, 1, 1, 1, 1], [4, 6, 3, 0, 5, 2]), ([0, 0, 1, 1, 1, 1, 1], [35, 0, 5, 3, 6, 2]), ([1, 0, 1, 1, 1, 1, 1], [3, 6, 2, 0]), ([0, 1, 0, 1, 1, 1, 1, 1], [3, 6, 2, 0]), ([0, 1, 1, 1, 1, 1, 1], [2, 0]), ([1, 1, 1, 1, 1, 1, 1], [2, 0])]

noncomputable def regex_parser_item_E (N : Nat) : Env := mkEnv tys glob [(69, charset_First_res N), (68, regex_parser_sign_res N), (26, regex_parser_skip_res N), (41, charset_Of_res N)] [] [] [0] false [] []

theorem regex_parser_item_Eok (N : Nat) : EnvOk Go.Proofs.Tryd.prog (regex_parser_item_E N) := mkEnv_ok mixed tys_ok (FnsOk.cons (charset_First_ct N) (FnsOk.cons (regex_parser_sign_ct N) (FnsOk.cons (regex_parser_skip_ct N) (FnsOk.cons (charset_Of_ct N) (FnsOk.nil))))) (ItsOk.nil)

noncomputable def regex_parser_item_p2 (N : Nat) (p : ((List UInt8) × (Int × (Int × Unit)))) (x2 : (List Int)) (first : (List Int)) (class_ : Bool) (k0 : ((List UInt8) × (Int × (Int × Unit))) → Bool → Option ((List Int) × (((List UInt8) × (Int × (Int × Unit))) × Unit))) : Option ((List Int) × (((List UInt8) × (Int × (Int × Unit))) × Unit)) :=
 cond class_
 (k0 p true)
 ((regex_parser_skip N p (45 : Int)).bind fun y =>
 k0 y.2.1 (!y.1))

noncomputable def regex_parser_item_g2 (N : Nat) (x : denS [(0, .box (.pair .str (.pair (.int .i64) (.pair (.int .i64) .unit)))), (1, .box (.arr 4 (.int .u64))), (0, .box (.arr 4 (.int .u64))), (0, .v .bool)]) (K : Ex → List A → Option ((List Int) × (((List UInt8) × (Int × (Int × Unit))) × Unit))) : Option ((List Int) × (((List UInt8) × (Int × (Int × Unit))) × Unit)) :=
 regex_parser_item_p2 N x.1 x.2.1 x.2.2.1 x.2.2.2.1 (fun a0 a3 => (K .normal (mkS [(0, .box (.pair .str (.pair (.int .i64) (.pair (.int .i64) .unit)))), (1, .box (.arr 4 (.int .u64))), (0, .box (.arr 4 (.int .u64))), (13, .v .bool)] 28 (a0, x.2.1, x.2.2.1, a3, ()))))

noncomputable def regex_parser_item_h2 (N : Nat) : Hd ((List Int) × (((List UInt8) × (Int × (Int × Unit))) × Unit)) := fun st K => (unS [(0, .box (.pair .str (.pair (.int .i64) (.pair (.int .i64) .unit)))), (1, .box (.arr 4 (.int .u64))), (0, .box (.arr 4 (.int .u64))), (0, .v .bool)] 41 (restr [4, 0, 3, 2] 0 st)).bind fun x => regex_parser_item_g2 N x K

noncomputable def regex_parser_item_t2 (N : Nat) : Tab ((List Int) × (((List UInt8) × (Int × (Int × Unit))) × Unit)) := []

theorem regex_parser_item_ok2 {N : Nat} {c : Ctx} (hb : Base Go.Proofs.Tryd.prog (regex_parser_item_E N) c) : CodeOk Go.Proofs.Tryd.prog c (nodeAt regex_parser_item_body [0, 0, 1, 1]) (regex_parser_item_h2 N) :=
  piece_ok (s := [(0, .box (.pair .str (.pair (.int .i64) (.pair (.int .i64) .unit)))), (1, .box (.arr 4 (.int .u64))), (0, .box (.arr 4 (.int .u64))), (0, .v .bool)]) (m := 41) (g := regex_parser_item_g2 N) [4, 0, 3, 2] (evN_sound hb N (regex_parser_item_t2 N) regex_parser_item_L regex_parser_item_body TabOk.nil [0, 0, 1, 1] _ rfl) (fun x K => by kernel_rfl)

noncomputable def regex_parser_item_p1 (N : Nat) (p : ((List UInt8) × (Int × (Int × Unit)))) (x2 : (List Int)) (first : (List Int)) (class_ : Bool) (k0 : ((List UInt8) × (Int × (Int × Unit))) → Option ((List Int) × (((List UInt8) × (Int × (Int × Unit))) × Unit))) (k1 : ((List UInt8) × (Int × (Int × Unit))) → Option ((List Int) × (((List UInt8) × (Int × (Int × Unit))) × Unit))) : Option ((List Int) × (((List UInt8) × (Int × (Int × Unit))) × Unit)) :=
 regex_parser_item_p2 N p x2 first class_
 (fun p1 x17 => cond x17
 (k0 p1)
 (k1 p1))

noncomputable def regex_parser_item_g1 (N : Nat) (x : denS [(0, .box (.pair .str (.pair (.int .i64) (.pair (.int .i64) .unit)))), (1, .box (.arr 4 (.int .u64))), (0, .box (.arr 4 (.int .u64))), (0, .v .bool)]) (K : Ex → List A → Option ((List Int) × (((List UInt8) × (Int × (Int × Unit))) × Unit))) : Option ((List Int) × (((List UInt8) × (Int × (Int × Unit))) × Unit)) :=
 regex_parser_item_p1 N x.1 x.2.1 x.2.2.1 x.2.2.2.1 (fun a0 => (K .ret (mkS [(0, .box (.pair .str (.pair (.int .i64) (.pair (.int .i64) .unit)))), (1, .box (.arr 4 (.int .u64)))] 43 (a0, x.2.2.1, ())))) (fun a0 => (K .normal (mkS [(0, .box (.pair .str (.pair (.int .i64) (.pair (.int .i64) .unit)))), (1, .box (.arr 4 (.int .u64))), (0, .box (.arr 4 (.int .u64)))] 42 (a0, x.2.1, x.2.2.1, ()))))

noncomputable def regex_parser_item_h1 (N : Nat) : Hd ((List Int) × (((List UInt8) × (Int × (Int × Unit))) × Unit)) := fun st K => (unS [(0, .box (.pair .str (.pair (.int .i64) (.pair (.int .i64) .unit)))), (1, .box (.arr 4 (.int .u64))), (0, .box (.arr 4 (.int .u64))), (0, .v .bool)] 41 (restr [4, 0, 3, 2] 0 st)).bind fun x => regex_parser_item_g1 N x K

noncomputable def regex_parser_item_t1 (N : Nat) : Tab ((List Int) × (((List UInt8) × (Int × (Int × Unit))) × Unit)) := [([0, 0, 1, 1], regex_parser_item_h2 N)]

theorem regex_parser_item_ok1 {N : Nat} {c : Ctx} (hb : Base Go.Proofs.Tryd.prog (regex_parser_item_E N) c) : CodeOk Go.Proofs.Tryd.prog c (nodeAt regex_parser_item_body [0, 1, 1]) (regex_parser_item_h1 N) :=
  piece_ok (s := [(0, .box (.pair .str (.pair (.int .i64) (.pair (.int .i64) .unit)))), (1, .box (.arr 4 (.int .u64))), (0, .box (.arr 4 (.int .u64))), (0, .v .bool)]) (m := 41) (g := regex_parser_item_g1 N) [4, 0, 3, 2] (evN_sound hb N (regex_parser_item_t1 N) regex_parser_item_L regex_parser_item_body (TabOk.cons (regex_parser_item_ok2 hb) TabOk.nil) [0, 1, 1] _ rfl) (fun x K => by kernel_rfl)

noncomputable def regex_parser_item_p4 (N : Nat) (p : ((List UInt8) × (Int × (Int × Unit)))) (x2 : (List Int)) (first : (List Int)) (class_ : Bool) (from_ : Int) (last : (List Int)) (k0 : Bool → Option ((List Int) × (((List UInt8) × (Int × (Int × Unit))) × Unit))) : Option ((List Int) × (((List UInt8) × (Int × (Int × Unit))) × Unit)) :=
 cond class_
 (k0 true)
 ((charset_First N last).bind fun y =>
 (charset_First N first).bind fun y1 =>
 k0 (decide (y < y1)))

noncomputable def regex_parser_item_g4 (N : Nat) (x : denS [(0, .box (.pair .str (.pair (.int .i64) (.pair (.int .i64) .unit)))), (1, .box (.arr 4 (.int .u64))), (0, .box (.arr 4 (.int .u64))), (0, .v .bool), (0, .v (.int .i64)), (0, .box (.arr 4 (.int .u64)))]) (K : Ex → List A → Option ((List Int) × (((List UInt8) × (Int × (Int × Unit))) × Unit))) : Option ((List Int) × (((List UInt8) × (Int × (Int × Unit))) × Unit)) :=
 regex_parser_item_p4 N x.1 x.2.1 x.2.2.1 x.2.2.2.1 x.2.2.2.2.1 x.2.2.2.2.2.1 (fun a5 => (K .normal (mkS [(0, .box (.pair .str (.pair (.int .i64) (.pair (.int .i64) .unit)))), (1, .box (.arr 4 (.int .u64))), (0, .box (.arr 4 (.int .u64))), (1, .v (.int .i64)), (0, .box (.arr 4 (.int .u64))), (28, .v .bool)] 10 (x.1, x.2.1, x.2.2.1, x.2.2.2.2.1, x.2.2.2.2.2.1, a5, ()))))

noncomputable def regex_parser_item_h4 (N : Nat) : Hd ((List Int) × (((List UInt8) × (Int × (Int × Unit))) × Unit)) := fun st K => (unS [(0, .box (.pair .str (.pair (.int .i64) (.pair (.int .i64) .unit)))), (1, .box (.arr 4 (.int .u64))), (0, .box (.arr 4 (.int .u64))), (0, .v .bool), (0, .v (.int .i64)), (0, .box (.arr 4 (.int .u64)))] 39 (restr [4, 6, 3, 0, 5, 2] 0 st)).bind fun x => regex_parser_item_g4 N x K

noncomputable def regex_parser_item_t4 (N : Nat) : Tab ((List Int) × (((List UInt8) × (Int × (Int × Unit))) × Unit)) := []

theorem regex_parser_item_ok4 {N : Nat} {c : Ctx} (hb : Base Go.Proofs.Tryd.prog (regex_parser_item_E N) c) : CodeOk Go.Proofs.Tryd.prog c (nodeAt regex_parser_item_body [0, 0, 1, 1, 1, 1, 1]) (regex_parser_item_h4 N) :=
  piece_ok (s := [(0, .box (.pair .str (.pair (.int .i64) (.pair (.int .i64) .unit)))), (1, .box (.arr 4 (.int .u64))), (0, .box (.arr 4 (.int .u64))), (0, .v .bool), (0, .v (.int .i64)), (0, .box (.arr 4 (.int .u64)))]) (m := 39) (g := regex_parser_item_g4 N) [4, 6, 3, 0, 5, 2] (evN_sound hb N (regex_parser_item_t4 N) regex_parser_item_L regex_parser_item_body TabOk.nil [0, 0, 1, 1, 1, 1, 1] _ rfl) (fun x K => by kernel_rfl)

noncomputable def regex_parser_item_p3 (N : Nat) (p : ((List UInt8) × (Int × (Int × Unit)))) (x2 : (List Int)) (first : (List Int)) (class_ : Bool) (from_ : Int) (last : (List Int)) (k0 : Option ((List Int) × (((List UInt8) × (Int × (Int × Unit))) × Unit))) : Option ((List Int) × (((List UInt8) × (Int × (Int × Unit))) × Unit)) :=
 regex_parser_item_p4 N p x2 first class_ from_ last
 (fun x35 => cond x35
 (none)
 (k0))

noncomputable def regex_parser_item_g3 (N : Nat) (x : denS [(0, .box (.pair .str (.pair (.int .i64) (.pair (.int .i64) .unit)))), (1, .box (.arr 4 (.int .u64))), (0, .box (.arr 4 (.int .u64))), (0, .v .bool), (0, .v (.int .i64)), (0, .box (.arr 4 (.int .u64)))]) (K : Ex → List A → Option ((List Int) × (((List UInt8) × (Int × (Int × Unit))) × Unit))) : Option ((List Int) × (((List UInt8) × (Int × (Int × Unit))) × Unit)) :=
 regex_parser_item_p3 N x.1 x.2.1 x.2.2.1 x.2.2.2.1 x.2.2.2.2.1 x.2.2.2.2.2.1 (K .normal (mkS [(0, .box (.pair .str (.pair (.int .i64) (.pair (.int .i64) .unit)))), (1, .box (.arr 4 (.int .u64))), (0, .box (.arr 4 (.int .u64))), (2, .box (.arr 4 (.int .u64)))] 39 (x.1, x.2.1, x.2.2.1, x.2.2.2.2.2.1, ())))

noncomputable def regex_parser_item_h3 (N : Nat) : Hd ((List Int) × (((List UInt8) × (Int × (Int × Unit))) × Unit)) := fun st K => (unS [(0, .box (.pair .str (.pair (.int .i64) (.pair (.int .i64) .unit)))), (1, .box (.arr 4 (.int .u64))), (0, .box (.arr 4 (.int .u64))), (0, .v .bool), (0, .v (.int .i64)), (0, .box (.arr 4 (.int .u64)))] 39 (restr [4, 6, 3, 0, 5, 2] 0 st)).bind fun x => regex_parser_item_g3 N x K

noncomputable def regex_parser_item_t3 (N : Nat) : Tab ((List Int) × (((List UInt8) × (Int × (Int × Unit))) × Unit)) := [([0, 0, 1, 1, 1, 1, 1], regex_parser_item_h4 N)]

theorem regex_parser_item_ok3 {N : Nat} {c : Ctx} (hb : Base Go.Proofs.Tryd.prog (regex_parser_item_E N) c) : CodeOk Go.Proofs.Tryd.prog c (nodeAt regex_parser_item_body [0, 1, 1, 1, 1, 1]) (regex_parser_item_h3 N) :=
  piece_ok (s := [(0, .box (.pair .str (.pair (.int .i64) (.pair (.int .i64) .unit)))), (1, .box (.arr 4 (.int .u64))), (0, .box (.arr 4 (.int .u64))), (0, .v .bool), (0, .v (.int .i64)), (0, .box (.arr 4 (.int .u64)))]) (m := 39) (g := regex_parser_item_g3 N) [4, 6, 3, 0, 5, 2] (evN_sound hb N (regex_parser_item_t3 N) regex_parser_item_L regex_parser_item_body (TabOk.cons (regex_parser_item_ok4 hb) TabOk.nil) [0, 1, 1, 1, 1, 1] _ rfl) (fun x K => by kernel_rfl)

noncomputable def regex_parser_item (N : Nat) (p : ((List UInt8) × (Int × (Int × Unit)))) : Option ((List Int) × (((List UInt8) × (Int × (Int × Unit))) × Unit)) :=
 (regex_parser_sign N p).bind fun y =>
 regex_parser_item_p1 N y.2.1 ([(0 : Int), (0 : Int), (0 : Int), (0 : Int)] : List Int) y.1.1 y.1.2.1
 (fun p1 => some (y.1.1, (p1, ())))
 (fun p2 => (regex_parser_sign N p2).bind fun y1 =>
 regex_parser_item_p3 N y1.2.1 ([(0 : Int), (0 : Int), (0 : Int), (0 : Int)] : List Int) y.1.1 y1.1.2.1 p2.2.1 y1.1.1
 ((charset_First N y.1.1).bind fun y2 =>
 (charset_First N y1.1.1).bind fun y3 =>
 (charset_Of N (Go.IntKind.wrap Go.IntKind.u8 y2) (Go.IntKind.wrap Go.IntKind.u8 y3)).bind fun y4 =>
 some (y4, (y1.2.1, ()))))

noncomputable def regex_parser_item_t (N : Nat) : Tab ((List Int) × (((List UInt8) × (Int × (Int × Unit))) × Unit)) := [([0, 1, 1], regex_parser_item_h1 N), ([0, 1, 1, 1, 1, 1], regex_parser_item_h3 N)]

theorem regex_parser_item_link (N : Nat) (x : denS [(0, .box (.pair .str (.pair (.int .i64) (.pair (.int .i64) .unit))))]) : evFX (regex_parser_item_E N) N (regex_parser_item_t N) regex_parser_item_L Go.Proofs.Tryd.f53 (mkS [(0, .box (.pair .str (.pair (.int .i64) (.pair (.int .i64) .unit))))] 0 x) (kResB (.v (.arr 4 (.int .u64))) [(0, .box (.pair .str (.pair (.int .i64) (.pair (.int .i64) .unit))))] 0) = regex_parser_item N x.1 := by kernel_rfl

noncomputable def regex_parser_item_res (N : Nat) : List A → Res := resOf [(0, .box (.pair .str (.pair (.int .i64) (.pair (.int .i64) .unit))))] (fun x => regex_parser_item N x.1) (oResB (.v (.arr 4 (.int .u64))) [(0, .box (.pair .str (.pair (.int .i64) (.pair (.int .i64) .unit))))] 0)

theorem regex_parser_item_ct (N : Nat) : Contract Go.Proofs.Tryd.prog glob 53 (regex_parser_item_res N) :=
  Contract.of (E := regex_parser_item_E N) (H := regex_parser_item_t N) (L := regex_parser_item_L) (N := N) (body := regex_parser_item_body) (K := (kResB (.v (.arr 4 (.int .u64))) [(0, .box (.pair .str (.pair (.int .i64) (.pair (.int .i64) .unit))))] 0)) (regex_parser_item_Eok N) Go.Proofs.Tryd.func53 (by kernel_rfl) (by decide) (fun _ hb => (TabOk.cons (regex_parser_item_ok1 hb) (TabOk.cons (regex_parser_item_ok3 hb) TabOk.nil))) (fun x y h => by rw [regex_parser_item_link]; exact h) (kResB_ok (s := (.v (.arr 4 (.int .u64)))) (os := [(0, .box (.pair .str (.pair (.int .i64) (.pair (.int .i64) .unit))))]) (m := 0))

noncomputable def charset_Or_body : Code := (Go.Proofs.Tryd.f54.body).getD .skip

noncomputable def charset_Or_L : List (List Nat × List Nat) := [([0], [2, 3, 4]), ([0, 0, 1], [6, 2, 3, 4]), ([0, 1, 0, 1], [6, 2, 3, 4]), ([0, 0, 0, 1, 0, 1], [7, 6, 2, 3, 4]), ([0, 1, 0, 0, 1, 0, 1], [6, 2, 3, 4]), ([1, 0, 1, 0, 0, 1, 0, 1], [2, 4]), ([0, 0, 0, 1, 1, 0, 0, 1, 0, 1], [5, 2, 3, 6, 4]), ([1, 0, 0, 1, 1, 0, 0, 1, 0, 1], [6, 2, 3, 4]), ([0, 1, 1, 0, 0, 1, 0, 1], [6, 2, 3, 4]), ([1, 1, 1, 0, 0, 1, 0, 1], [6, 2, 3, 4]), ([1, 0, 1], [2, 4]), ([0, 1, 1], [4]), ([1, 1, 1], [4])]

noncomputable def charset_Or_E (N : Nat) : Env := mkEnv tys glob [] [] [] [] false [] []

theorem charset_Or_Eok (N : Nat) : EnvOk Go.Proofs.Tryd.prog (charset_Or_E N) := mkEnv_ok mixed tys_ok (FnsOk.nil) (ItsOk.nil)

noncomputable def charset_Or_s1 (N : Nat) (t : (List Int)) (x4 : (List Int)) (s : (List Int)) (x6 : Int) (rec : (List Int) → Int → Option (List Int)) (k0 : (List Int) → Option (List Int)) : Option (List Int) :=
 cond (decide (x6 < (4 : Int)))
 (cond (Go.Lift.inR x6 4)
 (cond (decide ((Int.toNat x6) < (List.length s)))
 (cond (Go.Lift.inR x6 4)
 (cond (decide ((Int.toNat x6) < (List.length t)))
 (cond (Go.Lift.inR x6 4)
 (cond (decide ((Int.toNat x6) < (List.length s)))
 (rec (List.set s (Int.toNat x6) (Go.Lift.bitsOp Go.BinOp.or Go.IntKind.u64 (List.getD s (Int.toNat x6) (0 : Int)) (List.getD t (Int.toNat x6) (0 : Int)))) (Go.IntKind.wrap Go.IntKind.i64 (x6 + (1 : Int))))
 (none))
 (none))
 (none))
 (none))
 (none))
 (none))
 (k0 s)

noncomputable def charset_Or_p1 (N : Nat) (s : (List Int)) (t : (List Int)) (x4 : (List Int)) (x6 : Int) (k0 : (List Int) → Option (List Int)) : Option (List Int) :=
 iter (fun (v : ((List Int) × Int)) r => charset_Or_s1 N t x4 v.1 v.2 (fun s x6 => (r (s, x6))) k0) N (s, x6)

noncomputable def charset_Or_g1 (N : Nat) (i : ((List Int) × (List Int))) (v : ((List Int) × Int)) (r : ((List Int) × Int) → Option (List Int)) (K : Ex → List A → Option (List Int)) : Option (List Int) :=
 charset_Or_s1 N i.1 i.2 v.1 v.2 (fun s x6 => (r (s, x6))) (fun a0 => (K (.exit 0) (mkS [(2, .box (.arr 4 (.int .u64))), (1, .box (.arr 4 (.int .u64)))] 14 (a0, i.2, ()))))

noncomputable def charset_Or_h1 (N : Nat) : Hd (List Int) := fun st K => (unS [(2, .box (.arr 4 (.int .u64))), (0, .box (.arr 4 (.int .u64))), (0, .box (.arr 4 (.int .u64))), (1, .v (.int .i64))] 12 (restr [6, 2, 3, 4] 0 st)).bind fun x => iter (fun v r => charset_Or_g1 N ((fun x => (x.2.1, x.2.2.1)) x) v r K) N ((fun x => (x.1, x.2.2.2.1)) x)

noncomputable def charset_Or_t1 (N : Nat) : Tab (List Int) := []

theorem charset_Or_ok1 {N : Nat} {c : Ctx} (hb : Base Go.Proofs.Tryd.prog (charset_Or_E N) c) : CodeOk Go.Proofs.Tryd.prog c (nodeAt charset_Or_body [0, 1, 0, 1]) (charset_Or_h1 N) :=
  loop_ok (s := [(2, .box (.arr 4 (.int .u64))), (0, .box (.arr 4 (.int .u64))), (0, .box (.arr 4 (.int .u64))), (1, .v (.int .i64))]) (m := 12) (charset_Or_g1 N) [6, 2, 3, 4] N (fun x => (x.2.1, x.2.2.1)) (fun x => (x.1, x.2.2.2.1)) (fun i v => (v.1, i.1, i.2, v.2, ())) (fun _ => rfl) (evN_sound hb N (charset_Or_t1 N) charset_Or_L charset_Or_body TabOk.nil [0, 0, 1, 0, 1] _ rfl) (fun i v r K => by kernel_rfl)

noncomputable def charset_Or (N : Nat) (s : (List Int)) (t : (List Int)) : Option (List Int) :=
 charset_Or_p1 N s t ([(0 : Int), (0 : Int), (0 : Int), (0 : Int)] : List Int) (0 : Int)
 (fun s1 => some s1)

noncomputable def charset_Or_t (N : Nat) : Tab (List Int) := [([0, 1, 0, 1], charset_Or_h1 N)]

theorem charset_Or_link (N : Nat) (x : denS [(0, .v (.arr 4 (.int .u64))), (0, .v (.arr 4 (.int .u64)))]) : evFX (charset_Or_E N) N (charset_Or_t N) charset_Or_L Go.Proofs.Tryd.f54 (mkS [(0, .v (.arr 4 (.int .u64))), (0, .v (.arr 4 (.int .u64)))] 0 x) (kRes (.v (.arr 4 (.int .u64))) 2) = charset_Or N x.1 x.2.1 := by kernel_rfl

noncomputable def charset_Or_res (N : Nat) : List A → Res := resOf [(0, .v (.arr 4 (.int .u64))), (0, .v (.arr 4 (.int .u64)))] (fun x => charset_Or N x.1 x.2.1) (oRes (.v (.arr 4 (.int .u64))) 2)

theorem charset_Or_ct (N : Nat) : Contract Go.Proofs.Tryd.prog glob 54 (charset_Or_res N) :=
  Contract.of (E := charset_Or_E N) (H := charset_Or_t N) (L := charset_Or_L) (N := N) (body := charset_Or_body) (K := (kRes (.v (.arr 4 (.int .u64))) 2)) (charset_Or_Eok N) Go.Proofs.Tryd.func54 (by kernel_rfl) (by decide) (fun _ hb => (TabOk.cons (charset_Or_ok1 hb) TabOk.nil)) (fun x y h => by rw [charset_Or_link]; exact h) (kRes_ok (s := (.v (.arr 4 (.int .u64)))) (m := 2))

noncomputable def charset_Not_body : Code := (Go.Proofs.Tryd.f55.body).getD .skip

noncomputable def charset_Not_L : List (List Nat × List Nat) := [([0], [1, 2]), ([0, 0, 1], [4, 1, 2]), ([0, 1, 0, 1], [4, 1, 2]), ([0, 0, 0, 1, 0, 1], [5, 4, 1, 2]), ([0, 1, 0, 0, 1, 0, 1], [4, 1, 2]), ([1, 0, 1, 0, 0, 1, 0, 1], [1, 2]), ([0, 0, 0, 1, 1, 0, 0, 1, 0, 1], [3, 1, 4, 2]), ([1, 0, 0, 1, 1, 0, 0, 1, 0, 1], [4, 1, 2]), ([0, 1, 1, 0, 0, 1, 0, 1], [4, 1, 2]), ([1, 1, 1, 0, 0, 1, 0, 1], [4, 1, 2]), ([1, 0, 1], [1, 2]), ([0, 1, 1], [2]), ([1, 1, 1], [2])]

noncomputable def charset_Not_E (N : Nat) : Env := mkEnv tys glob [] [] [] [] false [] []

theorem charset_Not_Eok (N : Nat) : EnvOk Go.Proofs.Tryd.prog (charset_Not_E N) := mkEnv_ok mixed tys_ok (FnsOk.nil) (ItsOk.nil)

noncomputable def charset_Not_s1 (N : Nat) (x2 : (List Int)) (s : (List Int)) (x4 : Int) (rec : (List Int) → Int → Option (List Int)) (k0 : (List Int) → Option (List Int)) : Option (List Int) :=
 cond (decide (x4 < (4 : Int)))
 (cond (Go.Lift.inR x4 4)
 (cond (decide ((Int.toNat x4) < (List.length s)))
 (cond (Go.Lift.inR x4 4)
 (cond (decide ((Int.toNat x4) < (List.length s)))
 (rec (List.set s (Int.toNat x4) (Go.Lift.bitsOp Go.BinOp.xor Go.IntKind.u64 (if ((Go.IntKind.signed Go.IntKind.u64) = true) then (-(1 : Int)) else (Go.IntKind.max Go.IntKind.u64)) (List.getD s (Int.toNat x4) (0 : Int)))) (Go.IntKind.wrap Go.IntKind.i64 (x4 + (1 : Int))))
 (none))
 (none))
 (none))
 (none))
 (k0 s)

noncomputable def charset_Not_p1 (N : Nat) (s : (List Int)) (x2 : (List Int)) (x4 : Int) (k0 : (List Int) → Option (List Int)) : Option (List Int) :=
 iter (fun (v : ((List Int) × Int)) r => charset_Not_s1 N x2 v.1 v.2 (fun s x4 => (r (s, x4))) k0) N (s, x4)

noncomputable def charset_Not_g1 (N : Nat) (i : (List Int)) (v : ((List Int) × Int)) (r : ((List Int) × Int) → Option (List Int)) (K : Ex → List A → Option (List Int)) : Option (List Int) :=
 charset_Not_s1 N i v.1 v.2 (fun s x4 => (r (s, x4))) (fun a0 => (K (.exit 0) (mkS [(1, .box (.arr 4 (.int .u64))), (0, .box (.arr 4 (.int .u64)))] 12 (a0, i, ()))))

noncomputable def charset_Not_h1 (N : Nat) : Hd (List Int) := fun st K => (unS [(1, .box (.arr 4 (.int .u64))), (0, .box (.arr 4 (.int .u64))), (1, .v (.int .i64))] 10 (restr [4, 1, 2] 0 st)).bind fun x => iter (fun v r => charset_Not_g1 N ((fun x => x.2.1) x) v r K) N ((fun x => (x.1, x.2.2.1)) x)

noncomputable def charset_Not_t1 (N : Nat) : Tab (List Int) := []

theorem charset_Not_ok1 {N : Nat} {c : Ctx} (hb : Base Go.Proofs.Tryd.prog (charset_Not_E N) c) : CodeOk Go.Proofs.Tryd.prog c (nodeAt charset_Not_body [0, 1, 0, 1]) (charset_Not_h1 N) :=
  loop_ok (s := [(1, .box (.arr 4 (.int .u64))), (0, .box (.arr 4 (.int .u64))), (1, .v (.int .i64))]) (m := 10) (charset_Not_g1 N) [4, 1, 2] N (fun x => x.2.1) (fun x => (x.1, x.2.2.1)) (fun i v => (v.1, i, v.2, ())) (fun _ => rfl) (evN_sound hb N (charset_Not_t1 N) charset_Not_L charset_Not_body TabOk.nil [0, 0, 1, 0, 1] _ rfl) (fun i v r K => by kernel_rfl)

noncomputable def charset_Not (N : Nat) (s : (List Int)) : Option (List Int) :=
 charset_Not_p1 N s ([(0 : Int), (0 : Int), (0 : Int), (0 : Int)] : List Int) (0 : Int)
 (fun s1 => some s1)

noncomputable def charset_Not_t (N : Nat) : Tab (List Int) := [([0, 1, 0, 1], charset_Not_h1 N)]

theorem charset_Not_link (N : Nat) (x : denS [(0, .v (.arr 4 (.int .u64)))]) : evFX (charset_Not_E N) N (charset_Not_t N) charset_Not_L Go.Proofs.Tryd.f55 (mkS [(0, .v (.arr 4 (.int .u64)))] 0 x) (kRes (.v (.arr 4 (.int .u64))) 1) = charset_Not N x.1 := by kernel_rfl

noncomputable def charset_Not_res (N : Nat) : List A → Res := resOf [(0, .v (.arr 4 (.int .u64)))] (fun x => charset_Not N x.1) (oRes (.v (.arr 4 (.int .u64))) 1)

theorem charset_Not_ct (N : Nat) : Contract Go.Proofs.Tryd.prog glob 55 (charset_Not_res N) :=
  Contract.of (E := charset_Not_E N) (H := charset_Not_t N) (L := charset_Not_L) (N := N) (body := charset_Not_body) (K := (kRes (.v (.arr 4 (.int .u64))) 1)) (charset_Not_Eok N) Go.Proofs.Tryd.func55 (by kernel_rfl) (by decide) (fun _ hb => (TabOk.cons (charset_Not_ok1 hb) TabOk.nil)) (fun x y h => by rw [charset_Not_link]; exact h) (kRes_ok (s := (.v (.arr 4 (.int .u64)))) (m := 1))

noncomputable def regex_parser_brackets_body : Code := (Go.Proofs.Tryd.f42.body).getD .skip

noncomputable def regex_parser_brackets_L : List (List Nat × List Nat) := [([0], [0, 2]), ([0, 1], [0, 2]), ([0, 1, 1], [0, 3, 2]), ([0, 1, 1, 1], [0, 4, 3, 2]), ([0, 0, 1, 1, 1, 1], [0, 4, 3, 2]), ([0, 0, 0, 0, 0, 1, 1, 1, 1], [13, 4, 0, 3, 2]), ([1, 0, 0, 0, 0, 1, 1, 1, 1], [4, 0, 3, 2]), ([1, 1, 0, 0, 0, 0, 1, 1, 1, 1], [3, 4, 2, 0]), ([0, 1, 0, 0, 0, 1, 1, 1, 1], [0, 4, 3, 2]), ([1, 0, 0, 0, 1, 1, 1, 1], [0, 4, 3, 2]), ([0, 1, 1, 1, 1], [3, 4, 2, 0]), ([0, 0, 1, 1, 1, 1, 1], [18, 4, 2, 0]), ([1, 0, 1, 1, 1, 1, 1], [4, 2, 0]), ([0, 0, 1, 0, 1, 1, 1, 1, 1], [2, 0]), ([1, 0, 1, 0, 1, 1, 1, 1, 1], [2, 0]), ([0, 1, 1, 1, 1, 1, 1], [2, 0]), ([1, 1, 1, 1, 1, 1, 1], [2, 0])]

noncomputable def regex_parser_brackets_E (N : Nat) : Env := mkEnv tys glob [(55, charset_Not_res N), (54, charset_Or_res N), (53, regex_parser_item_res N), (26, regex_parser_skip_res N), (46, regex_parser_need_res N)] [] [] [0] false [] []

theorem regex_parser_brackets_Eok (N : Nat) : EnvOk Go.Proofs.Tryd.prog (regex_parser_brackets_E N) := mkEnv_ok mixed tys_ok (FnsOk.cons (charset_Not_ct N) (FnsOk.cons (charset_Or_ct N) (FnsOk.cons (regex_parser_item_ct N) (FnsOk.cons (regex_parser_skip_ct N) (FnsOk.cons (regex_parser_need_ct N) (FnsOk.nil)))))) (ItsOk.nil)

noncomputable def regex_parser_brackets_s1 (N : Nat) (x2 : (List Int)) (not_ : Bool) (p : ((List UInt8) × (Int × (Int × Unit)))) (set_ : (List Int)) (rec : ((List UInt8) × (Int × (Int × Unit))) → (List Int) → Option ((List Int) × (((List UInt8) × (Int × (Int × Unit))) × Unit))) (k0 : ((List UInt8) × (Int × (Int × Unit))) → (List Int) → Option ((List Int) × (((List UInt8) × (Int × (Int × Unit))) × Unit))) : Option ((List Int) × (((List UInt8) × (Int × (Int × Unit))) × Unit)) :=
 (regex_parser_skip N p (93 : Int)).bind fun y =>
 cond (!y.1)
 ((regex_parser_item N y.2.1).bind fun y1 =>
 (charset_Or N set_ y1.1).bind fun y2 =>
 rec y1.2.1 y2)
 (k0 y.2.1 set_)

noncomputable def regex_parser_brackets_p1 (N : Nat) (p : ((List UInt8) × (Int × (Int × Unit)))) (x2 : (List Int)) (not_ : Bool) (set_ : (List Int)) (k0 : ((List UInt8) × (Int × (Int × Unit))) → (List Int) → Option ((List Int) × (((List UInt8) × (Int × (Int × Unit))) × Unit))) : Option ((List Int) × (((List UInt8) × (Int × (Int × Unit))) × Unit)) :=
 iter (fun (v : (((List UInt8) × (Int × (Int × Unit))) × (List Int))) r => regex_parser_brackets_s1 N x2 not_ v.1 v.2 (fun p set_ => (r (p, set_))) k0) N (p, set_)

noncomputable def regex_parser_brackets_g1 (N : Nat) (i : ((List Int) × Bool)) (v : (((List UInt8) × (Int × (Int × Unit))) × (List Int))) (r : (((List UInt8) × (Int × (Int × Unit))) × (List Int)) → Option ((List Int) × (((List UInt8) × (Int × (Int × Unit))) × Unit))) (K : Ex → List A → Option ((List Int) × (((List UInt8) × (Int × (Int × Unit))) × Unit))) : Option ((List Int) × (((List UInt8) × (Int × (Int × Unit))) × Unit)) :=
 regex_parser_brackets_s1 N i.1 i.2 v.1 v.2 (fun p set_ => (r (p, set_))) (fun a0 a3 => (K (.exit 0) (mkS [(0, .box (.pair .str (.pair (.int .i64) (.pair (.int .i64) .unit)))), (1, .box (.arr 4 (.int .u64))), (0, .v .bool), (0, .box (.arr 4 (.int .u64)))] 17 (a0, i.1, i.2, a3, ()))))

noncomputable def regex_parser_brackets_h1 (N : Nat) : Hd ((List Int) × (((List UInt8) × (Int × (Int × Unit))) × Unit)) := fun st K => (unS [(0, .box (.pair .str (.pair (.int .i64) (.pair (.int .i64) .unit)))), (1, .box (.arr 4 (.int .u64))), (0, .v .bool), (0, .box (.arr 4 (.int .u64)))] 17 (restr [0, 4, 3, 2] 0 st)).bind fun x => iter (fun v r => regex_parser_brackets_g1 N ((fun x => (x.2.1, x.2.2.1)) x) v r K) N ((fun x => (x.1, x.2.2.2.1)) x)

noncomputable def regex_parser_brackets_t1 (N : Nat) : Tab ((List Int) × (((List UInt8) × (Int × (Int × Unit))) × Unit)) := []

theorem regex_parser_brackets_ok1 {N : Nat} {c : Ctx} (hb : Base Go.Proofs.Tryd.prog (regex_parser_brackets_E N) c) : CodeOk Go.Proofs.Tryd.prog c (nodeAt regex_parser_brackets_body [0, 0, 1, 1, 1, 1]) (regex_parser_brackets_h1 N) :=
  loop_ok (s := [(0, .box (.pair .str (.pair (.int .i64) (.pair (.int .i64) .unit)))), (1, .box (.arr 4 (.int .u64))), (0, .v .bool), (0, .box (.arr 4 (.int .u64)))]) (m := 17) (regex_parser_brackets_g1 N) [0, 4, 3, 2] N (fun x => (x.2.1, x.2.2.1)) (fun x => (x.1, x.2.2.2.1)) (fun i v => (v.1, i.1, i.2, v.2, ())) (fun _ => rfl) (evN_sound hb N (regex_parser_brackets_t1 N) regex_parser_brackets_L regex_parser_brackets_body TabOk.nil [0, 0, 0, 1, 1, 1, 1] _ rfl) (fun i v r K => by kernel_rfl)

noncomputable def regex_parser_brackets (N : Nat) (p : ((List UInt8) × (Int × (Int × Unit)))) : Option ((List Int) × (((List UInt8) × (Int × (Int × Unit))) × Unit)) :=
 (regex_parser_need N p (91 : Int)).bind fun y =>
 (regex_parser_skip N y.2.1 (94 : Int)).bind fun y1 =>
 (regex_parser_item N y1.2.1).bind fun y2 =>
 regex_parser_brackets_p1 N y2.2.1 ([(0 : Int), (0 : Int), (0 : Int), (0 : Int)] : List Int) y1.1 y2.1
 (fun p1 set_ => cond y1.1
 ((charset_Not N set_).bind fun y3 =>
 some (y3, (p1, ())))
 (some (set_, (p1, ()))))

noncomputable def regex_parser_brackets_t (N : Nat) : Tab ((List Int) × (((List UInt8) × (Int × (Int × Unit))) × Unit)) := [([0, 0, 1, 1, 1, 1], regex_parser_brackets_h1 N)]

theorem regex_parser_brackets_link (N : Nat) (x : denS [(0, .box (.pair .str (.pair (.int .i64) (.pair (.int .i64) .unit))))]) : evFX (regex_parser_brackets_E N) N (regex_parser_brackets_t N) regex_parser_brackets_L Go.Proofs.Tryd.f42 (mkS [(0, .box (.pair .str (.pair (.int .i64) (.pair (.int .i64) .unit))))] 0 x) (kResB (.v (.arr 4 (.int .u64))) [(0, .box (.pair .str (.pair (.int .i64) (.pair (.int .i64) .unit))))] 0) = regex_parser_brackets N x.1 := by kernel_rfl

noncomputable def regex_parser_brackets_res (N : Nat) : List A → Res := resOf [(0, .box (.pair .str (.pair (.int .i64) (.pair (.int .i64) .unit))))] (fun x => regex_parser_brackets N x.1) (oResB (.v (.arr 4 (.int .u64))) [(0, .box (.pair .str (.pair (.int .i64) (.pair (.int .i64) .unit))))] 0)

theorem regex_parser_brackets_ct (N : Nat) : Contract Go.Proofs.Tryd.prog glob 42 (regex_parser_brackets_res N) :=
  Contract.of (E := regex_parser_brackets_E N) (H := regex_parser_brackets_t N) (L := regex_parser_brackets_L) (N := N) (body := regex_parser_brackets_body) (K := (kResB (.v (.arr 4 (.int .u64))) [(0, .box (.pair .str (.pair (.int .i64) (.pair (.int .i64) .unit))))] 0)) (regex_parser_brackets_Eok N) Go.Proofs.Tryd.func42 (by kernel_rfl) (by decide) (fun _ hb => (TabOk.cons (regex_parser_brackets_ok1 hb) TabOk.nil)) (fun x y h => by rw [regex_parser_brackets_link]; exact h) (kResB_ok (s := (.v (.arr 4 (.int .u64)))) (os := [(0, .box (.pair .str (.pair (.int .i64) (.pair (.int .i64) .unit))))]) (m := 0))

noncomputable def regex_parser_atom_body : Code := (Go.Proofs.Tryd.f34.body).getD .skip

noncomputable def regex_parser_atom_L : List (List Nat × List Nat) := [([0], [0, 2]), ([0, 1], [3, 0, 2]), ([0, 1, 1], [15, 0, 2, 3]), ([0, 0, 1, 1, 1], [36, 0, 2, 15, 3]), ([1, 0, 1, 1, 1], [2, 0]), ([0, 1, 1, 0, 1, 1, 1], [40, 0, 2, 15, 3]), ([1, 1, 1, 0, 1, 1, 1], [2, 0]), ([0, 1, 1, 1, 1, 0, 1, 1, 1], [51, 0, 2, 15, 3]), ([1, 1, 1, 1, 1, 0, 1, 1, 1], [2, 0]), ([0, 1, 1, 1, 1, 1, 1, 0, 1, 1, 1], [56, 0, 2, 3]), ([1, 1, 1, 1, 1, 1, 1, 0, 1, 1, 1], [2, 0]), ([0, 0, 1, 1, 1, 1, 1, 1, 1, 1, 0, 1, 1, 1], [18, 0, 3, 2]), ([1, 0, 1, 1, 1, 1, 1, 1, 1, 1, 0, 1, 1, 1], [0, 3, 2]), ([0, 1, 0, 1, 1, 1, 1, 1, 1, 1, 1, 0, 1, 1, 1], [0, 3, 2]), ([0, 1, 1, 1, 1, 1, 1, 1, 1, 1, 0, 1, 1, 1], [3, 2, 0]), ([0, 1, 1, 1, 1, 1, 1, 1, 1, 1, 1, 0, 1, 1, 1], [2, 0]), ([1, 1, 1, 1, 1, 1, 1, 1, 1, 1, 1, 0, 1, 1, 1], [2, 0]), ([0, 0, 1, 1, 1, 1, 1, 1, 1, 0, 1, 1, 1], [4, 2, 0]), ([0, 1, 0, 1, 1, 1, 1, 1, 1, 1, 0, 1, 1, 1], [2, 0]), ([1, 1, 0, 1, 1, 1, 1, 1, 1, 1, 0, 1, 1, 1], [2, 0]), ([0, 0, 1, 1, 1, 1, 1, 0, 1, 1, 1], [2, 0]), ([1, 0, 1, 1, 1, 1, 1, 0, 1, 1, 1], [2, 0]), ([0, 0, 1, 1, 1, 0, 1, 1, 1], [2, 0]), ([0, 1, 0, 1, 1, 1, 0, 1, 1, 1], [2, 0]), ([1, 1, 0, 1, 1, 1, 0, 1, 1, 1], [2, 0]), ([0, 0, 1, 0, 1, 1, 1], [2, 0]), ([1, 0, 1, 0, 1, 1, 1], [2, 0]), ([1, 1, 1], [2, 0])]

noncomputable def regex_parser_atom_E (N : Nat) (self : regex_parser_alt_Self) : Env := mkEnv tys glob [(42, regex_parser_brackets_res N), (43, regex_parser_escape_res N), (44, strings_IndexByte_res N), (40, regex_one_res N), (41, charset_Of_res N), (39, regex_parser_group_res N self), (19, resOf [(0, .box (.pair .str (.pair (.int .i64) (.pair (.int .i64) .unit))))] (fun x => self x.1) (oResB (.v (.pair (.int .i64) (.pair (.arr 4 (.int .u64)) (.pair (.sl .nod) (.pair (.int .i64) (.pair (.int .i64) .unit)))))) [(0, .box (.pair .str (.pair (.int .i64) (.pair (.int .i64) .unit))))] 0))] [] [] [0] false [] []

theorem regex_parser_atom_Eok (N : Nat) (self : regex_parser_alt_Self) (hself : Contract Go.Proofs.Tryd.prog glob 19 (resOf [(0, .box (.pair .str (.pair (.int .i64) (.pair (.int .i64) .unit))))] (fun x => self x.1) (oResB (.v (.pair (.int .i64) (.pair (.arr 4 (.int .u64)) (.pair (.sl .nod) (.pair (.int .i64) (.pair (.int .i64) .unit)))))) [(0, .box (.pair .str (.pair (.int .i64) (.pair (.int .i64) .unit))))] 0))) : EnvOk Go.Proofs.Tryd.prog (regex_parser_atom_E N self) := mkEnv_ok mixed tys_ok (FnsOk.cons (regex_parser_brackets_ct N) (FnsOk.cons (regex_parser_escape_ct N) (FnsOk.cons (strings_IndexByte_ct N) (FnsOk.cons (regex_one_ct N) (FnsOk.cons (charset_Of_ct N) (FnsOk.cons (regex_parser_group_ct N self hself) (FnsOk.cons (hself) (FnsOk.nil)))))))) (ItsOk.nil)

noncomputable def regex_parser_atom_p1 (N : Nat) (self : regex_parser_alt_Self) (p : ((List UInt8) × (Int × (Int × Unit)))) (x2 : (Int × ((List Int) × ((List Tree) × (Int × (Int × Unit)))))) (b : Int) (k0 : Option ((Int × ((List Int) × ((List Tree) × (Int × (Int × Unit))))) × (((List UInt8) × (Int × (Int × Unit))) × Unit))) : Option ((Int × ((List Int) × ((List Tree) × (Int × (Int × Unit))))) × (((List UInt8) × (Int × (Int × Unit))) × Unit)) :=
 cond (decide ((0 : Int) ≤ (Go.Lib.indexByte ([(92 : UInt8), (46 : UInt8), (91 : UInt8), (93 : UInt8), (40 : UInt8), (41 : UInt8), (123 : UInt8), (125 : UInt8), (124 : UInt8), (42 : UInt8), (43 : UInt8), (63 : UInt8)] : List UInt8) (Nat.toUInt8 (Int.toNat b)))))
 (none)
 (k0)

noncomputable def regex_parser_atom_g1 (N : Nat) (self : regex_parser_alt_Self) (x : denS [(0, .box (.pair .str (.pair (.int .i64) (.pair (.int .i64) .unit)))), (1, .box (.pair (.int .i64) (.pair (.arr 4 (.int .u64)) (.pair (.sl .nod) (.pair (.int .i64) (.pair (.int .i64) .unit)))))), (0, .v (.int .u8))]) (K : Ex → List A → Option ((Int × ((List Int) × ((List Tree) × (Int × (Int × Unit))))) × (((List UInt8) × (Int × (Int × Unit))) × Unit))) : Option ((Int × ((List Int) × ((List Tree) × (Int × (Int × Unit))))) × (((List UInt8) × (Int × (Int × Unit))) × Unit)) :=
 regex_parser_atom_p1 N self x.1 x.2.1 x.2.2.1 (K .normal (mkS [(0, .box (.pair .str (.pair (.int .i64) (.pair (.int .i64) .unit)))), (1, .box (.pair (.int .i64) (.pair (.arr 4 (.int .u64)) (.pair (.sl .nod) (.pair (.int .i64) (.pair (.int .i64) .unit)))))), (0, .v (.int .u8))] 61 (x.1, x.2.1, x.2.2.1, ())))

noncomputable def regex_parser_atom_h1 (N : Nat) (self : regex_parser_alt_Self) : Hd ((Int × ((List Int) × ((List Tree) × (Int × (Int × Unit))))) × (((List UInt8) × (Int × (Int × Unit))) × Unit)) := fun st K => (unS [(0, .box (.pair .str (.pair (.int .i64) (.pair (.int .i64) .unit)))), (1, .box (.pair (.int .i64) (.pair (.arr 4 (.int .u64)) (.pair (.sl .nod) (.pair (.int .i64) (.pair (.int .i64) .unit)))))), (0, .v (.int .u8))] 61 (restr [3, 0, 2] 0 st)).bind fun x => regex_parser_atom_g1 N self x K

noncomputable def regex_parser_atom_t1 (N : Nat) (self : regex_parser_alt_Self) : Tab ((Int × ((List Int) × ((List Tree) × (Int × (Int × Unit))))) × (((List UInt8) × (Int × (Int × Unit))) × Unit)) := []

theorem regex_parser_atom_ok1 {N : Nat} {self : regex_parser_alt_Self} {c : Ctx} (hb : Base Go.Proofs.Tryd.prog (regex_parser_atom_E N self) c) : CodeOk Go.Proofs.Tryd.prog c (nodeAt regex_parser_atom_body [0, 1, 1, 1, 1, 1, 1, 1, 1, 0, 1, 1, 1]) (regex_parser_atom_h1 N self) :=
  piece_ok (s := [(0, .box (.pair .str (.pair (.int .i64) (.pair (.int .i64) .unit)))), (1, .box (.pair (.int .i64) (.pair (.arr 4 (.int .u64)) (.pair (.sl .nod) (.pair (.int .i64) (.pair (.int .i64) .unit)))))), (0, .v (.int .u8))]) (m := 61) (g := regex_parser_atom_g1 N self) [3, 0, 2] (evN_sound hb N (regex_parser_atom_t1 N self) regex_parser_atom_L regex_parser_atom_body TabOk.nil [0, 1, 1, 1, 1, 1, 1, 1, 1, 0, 1, 1, 1] _ rfl) (fun x K => by kernel_rfl)

noncomputable def regex_parser_atom (N : Nat) (self : regex_parser_alt_Self) (p : ((List UInt8) × (Int × (Int × Unit)))) : Option ((Int × ((List Int) × ((List Tree) × (Int × (Int × Unit))))) × (((List UInt8) × (Int × (Int × Unit))) × Unit)) :=
 cond (Go.Lift.inR p.2.1 (List.length p.1))
 (cond ((((UInt8.toNat (List.getD p.1 (Int.toNat p.2.1) (0 : UInt8))) : Nat) : Int) == (40 : Int))
 ((regex_parser_group N self p).bind fun y =>
 some (y.1, (y.2.1, ())))
 (cond ((((UInt8.toNat (List.getD p.1 (Int.toNat p.2.1) (0 : UInt8))) : Nat) : Int) == (46 : Int))
 ((charset_Of N (0 : Int) (255 : Int)).bind fun y1 =>
 some (((1 : Int), (y1, (([] : List Go.Lift.Tree), ((0 : Int), ((0 : Int), ()))))), ((p.1, ((Go.IntKind.wrap Go.IntKind.i64 (p.2.1 + (1 : Int))), p.2.2)), ())))
 (cond ((((UInt8.toNat (List.getD p.1 (Int.toNat p.2.1) (0 : UInt8))) : Nat) : Int) == (91 : Int))
 ((regex_parser_brackets N p).bind fun y2 =>
 some (((1 : Int), (y2.1, (([] : List Go.Lift.Tree), ((0 : Int), ((0 : Int), ()))))), (y2.2.1, ())))
 (cond ((((UInt8.toNat (List.getD p.1 (Int.toNat p.2.1) (0 : UInt8))) : Nat) : Int) == (92 : Int))
 ((regex_parser_escape N p).bind fun y3 =>
 some (((1 : Int), (y3.1.1, (([] : List Go.Lift.Tree), ((0 : Int), ((0 : Int), ()))))), (y3.2.1, ())))
 (regex_parser_atom_p1 N self p ((0 : Int), (([(0 : Int), (0 : Int), (0 : Int), (0 : Int)] : List Int), (([] : List Go.Lift.Tree), ((0 : Int), ((0 : Int), ()))))) (((UInt8.toNat (List.getD p.1 (Int.toNat p.2.1) (0 : UInt8))) : Nat) : Int)
 ((charset_Of N (((UInt8.toNat (List.getD p.1 (Int.toNat p.2.1) (0 : UInt8))) : Nat) : Int) (((UInt8.toNat (List.getD p.1 (Int.toNat p.2.1) (0 : UInt8))) : Nat) : Int)).bind fun y4 =>
 some (((1 : Int), (y4, (([] : List Go.Lift.Tree), ((0 : Int), ((0 : Int), ()))))), ((p.1, ((Go.IntKind.wrap Go.IntKind.i64 (p.2.1 + (1 : Int))), p.2.2)), ()))))))))
 (none)

noncomputable def regex_parser_atom_t (N : Nat) (self : regex_parser_alt_Self) : Tab ((Int × ((List Int) × ((List Tree) × (Int × (Int × Unit))))) × (((List UInt8) × (Int × (Int × Unit))) × Unit)) := [([0, 1, 1, 1, 1, 1, 1, 1, 1, 0, 1, 1, 1], regex_parser_atom_h1 N self)]

theorem regex_parser_atom_link (N : Nat) (self : regex_parser_alt_Self) (x : denS [(0, .box (.pair .str (.pair (.int .i64) (.pair (.int .i64) .unit))))]) : evFX (regex_parser_atom_E N self) N (regex_parser_atom_t N self) regex_parser_atom_L Go.Proofs.Tryd.f34 (mkS [(0, .box (.pair .str (.pair (.int .i64) (.pair (.int .i64) .unit))))] 0 x) (kResB (.v (.pair (.int .i64) (.pair (.arr 4 (.int .u64)) (.pair (.sl .nod) (.pair (.int .i64) (.pair (.int .i64) .unit)))))) [(0, .box (.pair .str (.pair (.int .i64) (.pair (.int .i64) .unit))))] 0) = regex_parser_atom N self x.1 := by kernel_rfl

noncomputable def regex_parser_atom_res (N : Nat) (self : regex_parser_alt_Self) : List A → Res := resOf [(0, .box (.pair .str (.pair (.int .i64) (.pair (.int .i64) .unit))))] (fun x => regex_parser_atom N self x.1) (oResB (.v (.pair (.int .i64) (.pair (.arr 4 (.int .u64)) (.pair (.sl .nod) (.pair (.int .i64) (.pair (.int .i64) .unit)))))) [(0, .box (.pair .str (.pair (.int .i64) (.pair (.int .i64) .unit))))] 0)

theorem regex_parser_atom_ct (N : Nat) (self : regex_parser_alt_Self) (hself : Contract Go.Proofs.Tryd.prog glob 19 (resOf [(0, .box (.pair .str (.pair (.int .i64) (.pair (.int .i64) .unit))))] (fun x => self x.1) (oResB (.v (.pair (.int .i64) (.pair (.arr 4 (.int .u64)) (.pair (.sl .nod) (.pair (.int .i64) (.pair (.int .i64) .unit)))))) [(0, .box (.pair .str (.pair (.int .i64) (.pair (.int .i64) .unit))))] 0))) : Contract Go.Proofs.Tryd.prog glob 34 (regex_parser_atom_res N self) :=
  Contract.of (E := regex_parser_atom_E N self) (H := regex_parser_atom_t N self) (L := regex_parser_atom_L) (N := N) (body := regex_parser_atom_body) (K := (kResB (.v (.pair (.int .i64) (.pair (.arr 4 (.int .u64)) (.pair (.sl .nod) (.pair (.int .i64) (.pair (.int .i64) .unit)))))) [(0, .box (.pair .str (.pair (.int .i64) (.pair (.int .i64) .unit))))] 0)) (regex_parser_atom_Eok N self hself) Go.Proofs.Tryd.func34 (by kernel_rfl) (by decide) (fun _ hb => (TabOk.cons (regex_parser_atom_ok1 hb) TabOk.nil)) (fun x y h => by rw [regex_parser_atom_link]; exact h) (kResB_ok (s := (.v (.pair (.int .i64) (.pair (.arr 4 (.int .u64)) (.pair (.sl .nod) (.pair (.int .i64) (.pair (.int .i64) .unit))))))) (os := [(0, .box (.pair .str (.pair (.int .i64) (.pair (.int .i64) .unit))))]) (m := 0))

noncomputable def regex_parser_num_body : Code := (Go.Proofs.Tryd.f45.body).getD .skip

noncomputable def regex_parser_num_L : List (List Nat × List Nat) := [([0], [0]), ([0, 1], [0, 3]), ([0, 0, 1, 1], [12, 0, 3]), ([1, 0, 1, 1], [0, 3]), ([0, 1, 0, 1, 1], [0, 3]), ([0, 1, 1, 1], [0, 4, 3]), ([0, 0, 1, 1, 1, 1], [0, 4, 3]), ([0, 0, 0, 0, 0, 1, 1, 1, 1], [37, 4, 0, 3]), ([1, 0, 0, 0, 0, 1, 1, 1, 1], [4, 0, 3]), ([1, 1, 0, 0, 0, 0, 1, 1, 1, 1], [0, 3, 4]), ([0, 0, 1, 0, 0, 0, 1, 1, 1, 1], [0, 4, 3]), ([1, 0, 1, 0, 0, 0, 1, 1, 1, 1], [0, 4, 3]), ([1, 0, 0, 0, 1, 1, 1, 1], [0, 4, 3]), ([0, 1, 1, 1, 1], [0, 3, 4]), ([0, 0, 1, 1, 1, 1, 1], [75, 0, 3, 4]), ([1, 0, 1, 1, 1, 1, 1], [4, 0, 3]), ([0, 1, 0, 1, 1, 1, 1, 1], [4, 0, 3]), ([0, 0, 1, 1, 1, 1, 1, 1], [80, 0, 3, 4]), ([1, 0, 1, 1, 1, 1, 1, 1], [4, 0]), ([0, 1, 0, 1, 1, 1, 1, 1, 1], [4, 0]), ([0, 1, 1, 1, 1, 1, 1, 1], [2, 0]), ([1, 1, 1, 1, 1, 1, 1, 1], [2, 0])]

noncomputable def regex_parser_num_E (N : Nat) : Env := mkEnv tys glob [(60, regex_digit_res N), (56, regex_parser_next_res N)] [] [] [0] false [] []

theorem regex_parser_num_Eok (N : Nat) : EnvOk Go.Proofs.Tryd.prog (regex_parser_num_E N) := mkEnv_ok mixed tys_ok (FnsOk.cons (regex_digit_ct N) (FnsOk.cons (regex_parser_next_ct N) (FnsOk.nil))) (ItsOk.nil)

noncomputable def regex_parser_num_p1 (N : Nat) (p : ((List UInt8) × (Int × (Int × Unit)))) (from_ : Int) (k0 : ((List UInt8) × (Int × (Int × Unit))) → Option (Int × (((List UInt8) × (Int × (Int × Unit))) × Unit))) : Option (Int × (((List UInt8) × (Int × (Int × Unit))) × Unit)) :=
 (regex_parser_next N p).bind fun y =>
 (regex_digit N y.1).bind fun y1 =>
 cond (!y1)
 (none)
 (k0 y.2.1)

noncomputable def regex_parser_num_g1 (N : Nat) (x : denS [(0, .box (.pair .str (.pair (.int .i64) (.pair (.int .i64) .unit)))), (2, .v (.int .i64))]) (K : Ex → List A → Option (Int × (((List UInt8) × (Int × (Int × Unit))) × Unit))) : Option (Int × (((List UInt8) × (Int × (Int × Unit))) × Unit)) :=
 regex_parser_num_p1 N x.1 x.2.1 (fun a0 => (K .normal (mkS [(0, .box (.pair .str (.pair (.int .i64) (.pair (.int .i64) .unit)))), (2, .v (.int .i64))] 81 (a0, x.2.1, ()))))

noncomputable def regex_parser_num_h1 (N : Nat) : Hd (Int × (((List UInt8) × (Int × (Int × Unit))) × Unit)) := fun st K => (unS [(0, .box (.pair .str (.pair (.int .i64) (.pair (.int .i64) .unit)))), (2, .v (.int .i64))] 81 (restr [0, 3] 0 st)).bind fun x => regex_parser_num_g1 N x K

noncomputable def regex_parser_num_t1 (N : Nat) : Tab (Int × (((List UInt8) × (Int × (Int × Unit))) × Unit)) := []

theorem regex_parser_num_ok1 {N : Nat} {c : Ctx} (hb : Base Go.Proofs.Tryd.prog (regex_parser_num_E N) c) : CodeOk Go.Proofs.Tryd.prog c (nodeAt regex_parser_num_body [0, 1, 1]) (regex_parser_num_h1 N) :=
  piece_ok (s := [(0, .box (.pair .str (.pair (.int .i64) (.pair (.int .i64) .unit)))), (2, .v (.int .i64))]) (m := 81) (g := regex_parser_num_g1 N) [0, 3] (evN_sound hb N (regex_parser_num_t1 N) regex_parser_num_L regex_parser_num_body TabOk.nil [0, 1, 1] _ rfl) (fun x K => by kernel_rfl)

noncomputable def regex_parser_num_p4 (N : Nat) (p : ((List UInt8) × (Int × (Int × Unit)))) (from_ : Int) (n : Int) (k0 : Option (Int × (((List UInt8) × (Int × (Int × Unit))) × Unit))) (k1 : Option (Int × (((List UInt8) × (Int × (Int × Unit))) × Unit))) : Option (Int × (((List UInt8) × (Int × (Int × Unit))) × Unit)) :=
 cond (decide (p.2.1 < (((List.length p.1) : Nat) : Int)))
 (cond (Go.Lift.inR p.2.1 (List.length p.1))
 ((regex_digit N (((UInt8.toNat (List.getD p.1 (Int.toNat p.2.1) (0 : UInt8))) : Nat) : Int)).bind fun y =>
 cond y
 (k0)
 (k1))
 (none))
 (k1)

noncomputable def regex_parser_num_g4 (N : Nat) (x : denS [(0, .box (.pair .str (.pair (.int .i64) (.pair (.int .i64) .unit)))), (2, .v (.int .i64)), (0, .v (.int .i64))]) (K : Ex → List A → Option (Int × (((List UInt8) × (Int × (Int × Unit))) × Unit))) : Option (Int × (((List UInt8) × (Int × (Int × Unit))) × Unit)) :=
 regex_parser_num_p4 N x.1 x.2.1 x.2.2.1 (K .normal (mkS [(0, .box (.pair .str (.pair (.int .i64) (.pair (.int .i64) .unit)))), (2, .v (.int .i64)), (0, .v (.int .i64))] 80 (x.1, x.2.1, x.2.2.1, ()))) (K (.exit 0) (mkS [(0, .box (.pair .str (.pair (.int .i64) (.pair (.int .i64) .unit)))), (2, .v (.int .i64)), (0, .v (.int .i64))] 80 (x.1, x.2.1, x.2.2.1, ())))

noncomputable def regex_parser_num_h4 (N : Nat) : Hd (Int × (((List UInt8) × (Int × (Int × Unit))) × Unit)) := fun st K => (unS [(0, .box (.pair .str (.pair (.int .i64) (.pair (.int .i64) .unit)))), (2, .v (.int .i64)), (0, .v (.int .i64))] 80 (restr [0, 4, 3] 0 st)).bind fun x => regex_parser_num_g4 N x K

noncomputable def regex_parser_num_t4 (N : Nat) : Tab (Int × (((List UInt8) × (Int × (Int × Unit))) × Unit)) := []

theorem regex_parser_num_ok4 {N : Nat} {c : Ctx} (hb : Base Go.Proofs.Tryd.prog (regex_parser_num_E N) c) : CodeOk Go.Proofs.Tryd.prog c (nodeAt regex_parser_num_body [0, 0, 0, 0, 1, 1, 1, 1]) (regex_parser_num_h4 N) :=
  piece_ok (s := [(0, .box (.pair .str (.pair (.int .i64) (.pair (.int .i64) .unit)))), (2, .v (.int .i64)), (0, .v (.int .i64))]) (m := 80) (g := regex_parser_num_g4 N) [0, 4, 3] (evN_sound hb N (regex_parser_num_t4 N) regex_parser_num_L regex_parser_num_body TabOk.nil [0, 0, 0, 0, 1, 1, 1, 1] _ rfl) (fun x K => by kernel_rfl)

noncomputable def regex_parser_num_s3 (N : Nat) (from_ : Int) (p : ((List UInt8) × (Int × (Int × Unit)))) (n : Int) (rec : ((List UInt8) × (Int × (Int × Unit))) → Int → Option (Int × (((List UInt8) × (Int × (Int × Unit))) × Unit))) (k0 : ((List UInt8) × (Int × (Int × Unit))) → Int → Option (Int × (((List UInt8) × (Int × (Int × Unit))) × Unit))) : Option (Int × (((List UInt8) × (Int × (Int × Unit))) × Unit)) :=
 regex_parser_num_p4 N p from_ n
 (cond (Go.Lift.inR p.2.1 (List.length p.1))
 (rec (p.1, ((Go.IntKind.wrap Go.IntKind.i64 (p.2.1 + (1 : Int))), p.2.2)) (if ((17 : Int) < (Go.IntKind.wrap Go.IntKind.i64 ((Go.IntKind.wrap Go.IntKind.i64 ((10 : Int) * n)) + (Go.IntKind.wrap Go.IntKind.i64 (Go.IntKind.wrap Go.IntKind.u8 ((((UInt8.toNat (List.getD p.1 (Int.toNat p.2.1) (0 : UInt8))) : Nat) : Int) - (48 : Int))))))) then (17 : Int) else (Go.IntKind.wrap Go.IntKind.i64 ((Go.IntKind.wrap Go.IntKind.i64 ((10 : Int) * n)) + (Go.IntKind.wrap Go.IntKind.i64 (Go.IntKind.wrap Go.IntKind.u8 ((((UInt8.toNat (List.getD p.1 (Int.toNat p.2.1) (0 : UInt8))) : Nat) : Int) - (48 : Int))))))))
 (none))
 (k0 p n)

noncomputable def regex_parser_num_p3 (N : Nat) (p : ((List UInt8) × (Int × (Int × Unit)))) (from_ : Int) (n : Int) (k0 : ((List UInt8) × (Int × (Int × Unit))) → Int → Option (Int × (((List UInt8) × (Int × (Int × Unit))) × Unit))) : Option (Int × (((List UInt8) × (Int × (Int × Unit))) × Unit)) :=
 iter (fun (v : (((List UInt8) × (Int × (Int × Unit))) × Int)) r => regex_parser_num_s3 N from_ v.1 v.2 (fun p n => (r (p, n))) k0) N (p, n)

noncomputable def regex_parser_num_g3 (N : Nat) (i : Int) (v : (((List UInt8) × (Int × (Int × Unit))) × Int)) (r : (((List UInt8) × (Int × (Int × Unit))) × Int) → Option (Int × (((List UInt8) × (Int × (Int × Unit))) × Unit))) (K : Ex → List A → Option (Int × (((List UInt8) × (Int × (Int × Unit))) × Unit))) : Option (Int × (((List UInt8) × (Int × (Int × Unit))) × Unit)) :=
 regex_parser_num_s3 N i v.1 v.2 (fun p n => (r (p, n))) (fun a0 a2 => (K (.exit 0) (mkS [(0, .box (.pair .str (.pair (.int .i64) (.pair (.int .i64) .unit)))), (2, .v (.int .i64)), (0, .v (.int .i64))] 80 (a0, i, a2, ()))))

noncomputable def regex_parser_num_h3 (N : Nat) : Hd (Int × (((List UInt8) × (Int × (Int × Unit))) × Unit)) := fun st K => (unS [(0, .box (.pair .str (.pair (.int .i64) (.pair (.int .i64) .unit)))), (2, .v (.int .i64)), (0, .v (.int .i64))] 80 (restr [0, 4, 3] 0 st)).bind fun x => iter (fun v r => regex_parser_num_g3 N ((fun x => x.2.1) x) v r K) N ((fun x => (x.1, x.2.2.1)) x)

noncomputable def regex_parser_num_t3 (N : Nat) : Tab (Int × (((List UInt8) × (Int × (Int × Unit))) × Unit)) := [([0, 0, 0, 0, 1, 1, 1, 1], regex_parser_num_h4 N)]

theorem regex_parser_num_ok3 {N : Nat} {c : Ctx} (hb : Base Go.Proofs.Tryd.prog (regex_parser_num_E N) c) : CodeOk Go.Proofs.Tryd.prog c (nodeAt regex_parser_num_body [0, 0, 1, 1, 1, 1]) (regex_parser_num_h3 N) :=
  loop_ok (s := [(0, .box (.pair .str (.pair (.int .i64) (.pair (.int .i64) .unit)))), (2, .v (.int .i64)), (0, .v (.int .i64))]) (m := 80) (regex_parser_num_g3 N) [0, 4, 3] N (fun x => x.2.1) (fun x => (x.1, x.2.2.1)) (fun i v => (v.1, i, v.2, ())) (fun _ => rfl) (evN_sound hb N (regex_parser_num_t3 N) regex_parser_num_L regex_parser_num_body (TabOk.cons (regex_parser_num_ok4 hb) TabOk.nil) [0, 0, 0, 1, 1, 1, 1] _ rfl) (fun i v r K => by kernel_rfl)

noncomputable def regex_parser_num_p2 (N : Nat) (p : ((List UInt8) × (Int × (Int × Unit)))) (from_ : Int) (n : Int) (k0 : ((List UInt8) × (Int × (Int × Unit))) → Int → Option (Int × (((List UInt8) × (Int × (Int × Unit))) × Unit))) : Option (Int × (((List UInt8) × (Int × (Int × Unit))) × Unit)) :=
 regex_parser_num_p3 N p from_ n
 (fun p1 n1 => k0 p1 n1)

noncomputable def regex_parser_num_g2 (N : Nat) (x : denS [(0, .box (.pair .str (.pair (.int .i64) (.pair (.int .i64) .unit)))), (2, .v (.int .i64)), (0, .v (.int .i64))]) (K : Ex → List A → Option (Int × (((List UInt8) × (Int × (Int × Unit))) × Unit))) : Option (Int × (((List UInt8) × (Int × (Int × Unit))) × Unit)) :=
 regex_parser_num_p2 N x.1 x.2.1 x.2.2.1 (fun a0 a2 => (K .normal (mkS [(0, .box (.pair .str (.pair (.int .i64) (.pair (.int .i64) .unit)))), (2, .v (.int .i64)), (0, .v (.int .i64))] 80 (a0, x.2.1, a2, ()))))

noncomputable def regex_parser_num_h2 (N : Nat) : Hd (Int × (((List UInt8) × (Int × (Int × Unit))) × Unit)) := fun st K => (unS [(0, .box (.pair .str (.pair (.int .i64) (.pair (.int .i64) .unit)))), (2, .v (.int .i64)), (0, .v (.int .i64))] 80 (restr [0, 4, 3] 0 st)).bind fun x => regex_parser_num_g2 N x K

noncomputable def regex_parser_num_t2 (N : Nat) : Tab (Int × (((List UInt8) × (Int × (Int × Unit))) × Unit)) := [([0, 0, 1, 1, 1, 1], regex_parser_num_h3 N)]

theorem regex_parser_num_ok2 {N : Nat} {c : Ctx} (hb : Base Go.Proofs.Tryd.prog (regex_parser_num_E N) c) : CodeOk Go.Proofs.Tryd.prog c (nodeAt regex_parser_num_body [0, 1, 1, 1, 1]) (regex_parser_num_h2 N) :=
  piece_ok (s := [(0, .box (.pair .str (.pair (.int .i64) (.pair (.int .i64) .unit)))), (2, .v (.int .i64)), (0, .v (.int .i64))]) (m := 80) (g := regex_parser_num_g2 N) [0, 4, 3] (evN_sound hb N (regex_parser_num_t2 N) regex_parser_num_L regex_parser_num_body (TabOk.cons (regex_parser_num_ok3 hb) TabOk.nil) [0, 1, 1, 1, 1] _ rfl) (fun x K => by kernel_rfl)

noncomputable def regex_parser_num_p6 (N : Nat) (p : ((List UInt8) × (Int × (Int × Unit)))) (from_ : Int) (n : Int) (k0 : Bool → Option (Int × (((List UInt8) × (Int × (Int × Unit))) × Unit))) : Option (Int × (((List UInt8) × (Int × (Int × Unit))) × Unit)) :=
 cond (Go.Lift.inR from_ (List.length p.1))
 (cond ((((UInt8.toNat (List.getD p.1 (Int.toNat from_) (0 : UInt8))) : Nat) : Int) == (48 : Int))
 (k0 (decide ((Go.IntKind.wrap Go.IntKind.i64 (from_ + (1 : Int))) < p.2.1)))
 (k0 false))
 (none)

noncomputable def regex_parser_num_g6 (N : Nat) (x : denS [(0, .box (.pair .str (.pair (.int .i64) (.pair (.int .i64) .unit)))), (2, .v (.int .i64)), (0, .v (.int .i64))]) (K : Ex → List A → Option (Int × (((List UInt8) × (Int × (Int × Unit))) × Unit))) : Option (Int × (((List UInt8) × (Int × (Int × Unit))) × Unit)) :=
 regex_parser_num_p6 N x.1 x.2.1 x.2.2.1 (fun a3 => (K .normal (mkS [(0, .box (.pair .str (.pair (.int .i64) (.pair (.int .i64) .unit)))), (2, .v (.int .i64)), (0, .v (.int .i64)), (70, .v .bool)] 9 (x.1, x.2.1, x.2.2.1, a3, ()))))

noncomputable def regex_parser_num_h6 (N : Nat) : Hd (Int × (((List UInt8) × (Int × (Int × Unit))) × Unit)) := fun st K => (unS [(0, .box (.pair .str (.pair (.int .i64) (.pair (.int .i64) .unit)))), (2, .v (.int .i64)), (0, .v (.int .i64))] 80 (restr [0, 3, 4] 0 st)).bind fun x => regex_parser_num_g6 N x K

noncomputable def regex_parser_num_t6 (N : Nat) : Tab (Int × (((List UInt8) × (Int × (Int × Unit))) × Unit)) := []

theorem regex_parser_num_ok6 {N : Nat} {c : Ctx} (hb : Base Go.Proofs.Tryd.prog (regex_parser_num_E N) c) : CodeOk Go.Proofs.Tryd.prog c (nodeAt regex_parser_num_body [0, 0, 1, 1, 1, 1, 1]) (regex_parser_num_h6 N) :=
  piece_ok (s := [(0, .box (.pair .str (.pair (.int .i64) (.pair (.int .i64) .unit)))), (2, .v (.int .i64)), (0, .v (.int .i64))]) (m := 80) (g := regex_parser_num_g6 N) [0, 3, 4] (evN_sound hb N (regex_parser_num_t6 N) regex_parser_num_L regex_parser_num_body TabOk.nil [0, 0, 1, 1, 1, 1, 1] _ rfl) (fun x K => by kernel_rfl)

noncomputable def regex_parser_num_p5 (N : Nat) (p : ((List UInt8) × (Int × (Int × Unit)))) (from_ : Int) (n : Int) (k0 : Option (Int × (((List UInt8) × (Int × (Int × Unit))) × Unit))) : Option (Int × (((List UInt8) × (Int × (Int × Unit))) × Unit)) :=
 regex_parser_num_p6 N p from_ n
 (fun x75 => cond x75
 (none)
 (k0))

noncomputable def regex_parser_num_g5 (N : Nat) (x : denS [(0, .box (.pair .str (.pair (.int .i64) (.pair (.int .i64) .unit)))), (2, .v (.int .i64)), (0, .v (.int .i64))]) (K : Ex → List A → Option (Int × (((List UInt8) × (Int × (Int × Unit))) × Unit))) : Option (Int × (((List UInt8) × (Int × (Int × Unit))) × Unit)) :=
 regex_parser_num_p5 N x.1 x.2.1 x.2.2.1 (K .normal (mkS [(0, .box (.pair .str (.pair (.int .i64) (.pair (.int .i64) .unit)))), (2, .v (.int .i64)), (0, .v (.int .i64))] 80 (x.1, x.2.1, x.2.2.1, ())))

noncomputable def regex_parser_num_h5 (N : Nat) : Hd (Int × (((List UInt8) × (Int × (Int × Unit))) × Unit)) := fun st K => (unS [(0, .box (.pair .str (.pair (.int .i64) (.pair (.int .i64) .unit)))), (2, .v (.int .i64)), (0, .v (.int .i64))] 80 (restr [0, 3, 4] 0 st)).bind fun x => regex_parser_num_g5 N x K

noncomputable def regex_parser_num_t5 (N : Nat) : Tab (Int × (((List UInt8) × (Int × (Int × Unit))) × Unit)) := [([0, 0, 1, 1, 1, 1, 1], regex_parser_num_h6 N)]

theorem regex_parser_num_ok5 {N : Nat} {c : Ctx} (hb : Base Go.Proofs.Tryd.prog (regex_parser_num_E N) c) : CodeOk Go.Proofs.Tryd.prog c (nodeAt regex_parser_num_body [0, 1, 1, 1, 1, 1]) (regex_parser_num_h5 N) :=
  piece_ok (s := [(0, .box (.pair .str (.pair (.int .i64) (.pair (.int .i64) .unit)))), (2, .v (.int .i64)), (0, .v (.int .i64))]) (m := 80) (g := regex_parser_num_g5 N) [0, 3, 4] (evN_sound hb N (regex_parser_num_t5 N) regex_parser_num_L regex_parser_num_body (TabOk.cons (regex_parser_num_ok6 hb) TabOk.nil) [0, 1, 1, 1, 1, 1] _ rfl) (fun x K => by kernel_rfl)

noncomputable def regex_parser_num (N : Nat) (p : ((List UInt8) × (Int × (Int × Unit)))) : Option (Int × (((List UInt8) × (Int × (Int × Unit))) × Unit)) :=
 regex_parser_num_p1 N p p.2.1
 (fun p1 => regex_parser_num_p2 N p1 p.2.1 (0 : Int)
 (fun p2 n => regex_parser_num_p5 N p2 p.2.1 n
 (cond (decide ((16 : Int) < n))
 (none)
 (some (n, (p2, ()))))))

noncomputable def regex_parser_num_t (N : Nat) : Tab (Int × (((List UInt8) × (Int × (Int × Unit))) × Unit)) := [([0, 1, 1], regex_parser_num_h1 N), ([0, 1, 1, 1, 1], regex_parser_num_h2 N), ([0, 1, 1, 1, 1, 1], regex_parser_num_h5 N)]

theorem regex_parser_num_link (N : Nat) (x : denS [(0, .box (.pair .str (.pair (.int .i64) (.pair (.int .i64) .unit))))]) : evFX (regex_parser_num_E N) N (regex_parser_num_t N) regex_parser_num_L Go.Proofs.Tryd.f45 (mkS [(0, .box (.pair .str (.pair (.int .i64) (.pair (.int .i64) .unit))))] 0 x) (kResB (.v (.int .i64)) [(0, .box (.pair .str (.pair (.int .i64) (.pair (.int .i64) .unit))))] 0) = regex_parser_num N x.1 := by kernel_rfl

noncomputable def regex_parser_num_res (N : Nat) : List A → Res := resOf [(0, .box (.pair .str (.pair (.int .i64) (.pair (.int .i64) .unit))))] (fun x => regex_parser_num N x.1) (oResB (.v (.int .i64)) [(0, .box (.pair .str (.pair (.int .i64) (.pair (.int .i64) .unit))))] 0)

theorem regex_parser_num_ct (N : Nat) : Contract Go.Proofs.Tryd.prog glob 45 (regex_parser_num_res N) :=
  Contract.of (E := regex_parser_num_E N) (H := regex_parser_num_t N) (L := regex_parser_num_L) (N := N) (body := regex_parser_num_body) (K := (kResB (.v (.int .i64)) [(0, .box (.pair .str (.pair (.int .i64) (.pair (.int .i64) .unit))))] 0)) (regex_parser_num_Eok N) Go.Proofs.Tryd.func45 (by kernel_rfl) (by decide) (fun _ hb => (TabOk.cons (regex_parser_num_ok1 hb) (TabOk.cons (regex_parser_num_ok2 hb) (TabOk.cons (regex_parser_num_ok5 hb) TabOk.nil)))) (fun x y h => by rw [regex_parser_num_link]; exact h) (kResB_ok (s := (.v (.int .i64))) (os := [(0, .box (.pair .str (.pair (.int .i64) (.pair (.int .i64) .unit))))]) (m := 0))

noncomputable def regex_parser_braces_body : Code := (Go.Proofs.Tryd.f35.body).getD .skip

noncomputable def regex_parser_braces_L : List (List Nat × List Nat) := [([0], [0]), ([0, 1], [0, 4]), ([0, 1, 1], [2, 0, 4]), ([0, 1, 1, 1], [0, 2, 3, 4]), ([0, 0, 1, 1, 1, 1], [13, 0, 2, 3, 4]), ([1, 0, 1, 1, 1, 1], [3, 2, 0, 4]), ([0, 0, 0, 1, 0, 1, 1, 1, 1], [15, 2, 0]), ([1, 0, 0, 1, 0, 1, 1, 1, 1], [0, 2]), ([0, 0, 1, 0, 0, 1, 0, 1, 1, 1, 1], [2, 3, 0]), ([1, 0, 1, 0, 0, 1, 0, 1, 1, 1, 1], [2, 3, 0]), ([0, 1, 0, 1, 0, 1, 1, 1, 1], [0, 2, 4]), ([1, 1, 0, 1, 0, 1, 1, 1, 1], [3, 2, 0, 4]), ([0, 0, 1, 1, 1, 1, 1], [26, 0, 4, 2, 3]), ([1, 0, 1, 1, 1, 1, 1], [0, 2, 3]), ([0, 1, 0, 1, 1, 1, 1, 1], [0, 2, 3]), ([0, 1, 1, 1, 1, 1, 1], [2, 3, 0]), ([0, 1, 1, 1, 1, 1, 1, 1], [2, 3, 0]), ([1, 1, 1, 1, 1, 1, 1, 1], [2, 3, 0])]

noncomputable def regex_parser_braces_E (N : Nat) : Env := mkEnv tys glob [(45, regex_parser_num_res N), (26, regex_parser_skip_res N), (46, regex_parser_need_res N)] [] [] [0] false [] []

theorem regex_parser_braces_Eok (N : Nat) : EnvOk Go.Proofs.Tryd.prog (regex_parser_braces_E N) := mkEnv_ok mixed tys_ok (FnsOk.cons (regex_parser_num_ct N) (FnsOk.cons (regex_parser_skip_ct N) (FnsOk.cons (regex_parser_need_ct N) (FnsOk.nil)))) (ItsOk.nil)

noncomputable def regex_parser_braces_p1 (N : Nat) (p : ((List UInt8) × (Int × (Int × Unit)))) (low : Int) (high : Int) (from_ : Int) (k0 : ((List UInt8) × (Int × (Int × Unit))) → Int → Option ((Int × Int × Unit) × (((List UInt8) × (Int × (Int × Unit))) × Unit))) (k1 : ((List UInt8) × (Int × (Int × Unit))) → Int → Int → Option ((Int × Int × Unit) × (((List UInt8) × (Int × (Int × Unit))) × Unit))) : Option ((Int × Int × Unit) × (((List UInt8) × (Int × (Int × Unit))) × Unit)) :=
 (regex_parser_skip N p (44 : Int)).bind fun y =>
 cond y.1
 ((regex_parser_skip N y.2.1 (125 : Int)).bind fun y1 =>
 cond y1.1
 (k0 y1.2.1 (-(1 : Int)))
 ((regex_parser_num N y1.2.1).bind fun y2 =>
 k1 y2.2.1 y2.1 y1.2.1.2.1))
 (k1 y.2.1 high from_)

noncomputable def regex_parser_braces_g1 (N : Nat) (x : denS [(0, .box (.pair .str (.pair (.int .i64) (.pair (.int .i64) .unit)))), (1, .v (.int .i64)), (0, .v (.int .i64)), (0, .v (.int .i64))]) (K : Ex → List A → Option ((Int × Int × Unit) × (((List UInt8) × (Int × (Int × Unit))) × Unit))) : Option ((Int × Int × Unit) × (((List UInt8) × (Int × (Int × Unit))) × Unit)) :=
 regex_parser_braces_p1 N x.1 x.2.1 x.2.2.1 x.2.2.2.1 (fun a0 a2 => (K .ret (mkS [(0, .box (.pair .str (.pair (.int .i64) (.pair (.int .i64) .unit)))), (1, .v (.int .i64)), (0, .v (.int .i64))] 30 (a0, x.2.1, a2, ())))) (fun a0 a2 a3 => (K .normal (mkS [(0, .box (.pair .str (.pair (.int .i64) (.pair (.int .i64) .unit)))), (1, .v (.int .i64)), (0, .v (.int .i64)), (0, .v (.int .i64))] 29 (a0, x.2.1, a2, a3, ()))))

noncomputable def regex_parser_braces_h1 (N : Nat) : Hd ((Int × Int × Unit) × (((List UInt8) × (Int × (Int × Unit))) × Unit)) := fun st K => (unS [(0, .box (.pair .str (.pair (.int .i64) (.pair (.int .i64) .unit)))), (1, .v (.int .i64)), (0, .v (.int .i64)), (0, .v (.int .i64))] 29 (restr [0, 2, 3, 4] 0 st)).bind fun x => regex_parser_braces_g1 N x K

noncomputable def regex_parser_braces_t1 (N : Nat) : Tab ((Int × Int × Unit) × (((List UInt8) × (Int × (Int × Unit))) × Unit)) := []

theorem regex_parser_braces_ok1 {N : Nat} {c : Ctx} (hb : Base Go.Proofs.Tryd.prog (regex_parser_braces_E N) c) : CodeOk Go.Proofs.Tryd.prog c (nodeAt regex_parser_braces_body [0, 1, 1, 1, 1]) (regex_parser_braces_h1 N) :=
  piece_ok (s := [(0, .box (.pair .str (.pair (.int .i64) (.pair (.int .i64) .unit)))), (1, .v (.int .i64)), (0, .v (.int .i64)), (0, .v (.int .i64))]) (m := 29) (g := regex_parser_braces_g1 N) [0, 2, 3, 4] (evN_sound hb N (regex_parser_braces_t1 N) regex_parser_braces_L regex_parser_braces_body TabOk.nil [0, 1, 1, 1, 1] _ rfl) (fun x K => by kernel_rfl)

noncomputable def regex_parser_braces_p2 (N : Nat) (p : ((List UInt8) × (Int × (Int × Unit)))) (low : Int) (high : Int) (from_ : Int) (k0 : Option ((Int × Int × Unit) × (((List UInt8) × (Int × (Int × Unit))) × Unit))) : Option ((Int × Int × Unit) × (((List UInt8) × (Int × (Int × Unit))) × Unit)) :=
 cond (decide (high < (if ((1 : Int) > low) then (1 : Int) else low)))
 (none)
 (k0)

noncomputable def regex_parser_braces_g2 (N : Nat) (x : denS [(0, .box (.pair .str (.pair (.int .i64) (.pair (.int .i64) .unit)))), (1, .v (.int .i64)), (0, .v (.int .i64)), (0, .v (.int .i64))]) (K : Ex → List A → Option ((Int × Int × Unit) × (((List UInt8) × (Int × (Int × Unit))) × Unit))) : Option ((Int × Int × Unit) × (((List UInt8) × (Int × (Int × Unit))) × Unit)) :=
 regex_parser_braces_p2 N x.1 x.2.1 x.2.2.1 x.2.2.2.1 (K .normal (mkS [(0, .box (.pair .str (.pair (.int .i64) (.pair (.int .i64) .unit)))), (1, .v (.int .i64)), (0, .v (.int .i64))] 30 (x.1, x.2.1, x.2.2.1, ())))

noncomputable def regex_parser_braces_h2 (N : Nat) : Hd ((Int × Int × Unit) × (((List UInt8) × (Int × (Int × Unit))) × Unit)) := fun st K => (unS [(0, .box (.pair .str (.pair (.int .i64) (.pair (.int .i64) .unit)))), (1, .v (.int .i64)), (0, .v (.int .i64)), (0, .v (.int .i64))] 29 (restr [3, 2, 0, 4] 0 st)).bind fun x => regex_parser_braces_g2 N x K

noncomputable def regex_parser_braces_t2 (N : Nat) : Tab ((Int × Int × Unit) × (((List UInt8) × (Int × (Int × Unit))) × Unit)) := []

theorem regex_parser_braces_ok2 {N : Nat} {c : Ctx} (hb : Base Go.Proofs.Tryd.prog (regex_parser_braces_E N) c) : CodeOk Go.Proofs.Tryd.prog c (nodeAt regex_parser_braces_body [0, 1, 1, 1, 1, 1]) (regex_parser_braces_h2 N) :=
  piece_ok (s := [(0, .box (.pair .str (.pair (.int .i64) (.pair (.int .i64) .unit)))), (1, .v (.int .i64)), (0, .v (.int .i64)), (0, .v (.int .i64))]) (m := 29) (g := regex_parser_braces_g2 N) [3, 2, 0, 4] (evN_sound hb N (regex_parser_braces_t2 N) regex_parser_braces_L regex_parser_braces_body TabOk.nil [0, 1, 1, 1, 1, 1] _ rfl) (fun x K => by kernel_rfl)

noncomputable def regex_parser_braces (N : Nat) (p : ((List UInt8) × (Int × (Int × Unit)))) : Option ((Int × Int × Unit) × (((List UInt8) × (Int × (Int × Unit))) × Unit)) :=
 (regex_parser_num N p).bind fun y =>
 regex_parser_braces_p1 N y.2.1 y.1 y.1 p.2.1
 (fun p1 high => some ((y.1, (high, ())), (p1, ())))
 (fun p2 high1 from_ => regex_parser_braces_p2 N p2 y.1 high1 from_
 ((regex_parser_need N p2 (125 : Int)).bind fun y1 =>
 some ((y.1, (high1, ())), (y1.2.1, ()))))

noncomputable def regex_parser_braces_t (N : Nat) : Tab ((Int × Int × Unit) × (((List UInt8) × (Int × (Int × Unit))) × Unit)) := [([0, 1, 1, 1, 1], regex_parser_braces_h1 N), ([0, 1, 1, 1, 1, 1], regex_parser_braces_h2 N)]

theorem regex_parser_braces_link (N : Nat) (x : denS [(0, .box (.pair .str (.pair (.int .i64) (.pair (.int .i64) .unit))))]) : evFX (regex_parser_braces_E N) N (regex_parser_braces_t N) regex_parser_braces_L Go.Proofs.Tryd.f35 (mkS [(0, .box (.pair .str (.pair (.int .i64) (.pair (.int .i64) .unit))))] 0 x) (kResB (.tup [(.int .i64), (.int .i64)]) [(0, .box (.pair .str (.pair (.int .i64) (.pair (.int .i64) .unit))))] 0) = regex_parser_braces N x.1 := by kernel_rfl

noncomputable def regex_parser_braces_res (N : Nat) : List A → Res := resOf [(0, .box (.pair .str (.pair (.int .i64) (.pair (.int .i64) .unit))))] (fun x => regex_parser_braces N x.1) (oResB (.tup [(.int .i64), (.int .i64)]) [(0, .box (.pair .str (.pair (.int .i64) (.pair (.int .i64) .unit))))] 0)

theorem regex_parser_braces_ct (N : Nat) : Contract Go.Proofs.Tryd.prog glob 35 (regex_parser_braces_res N) :=
  Contract.of (E := regex_parser_braces_E N) (H := regex_parser_braces_t N) (L := regex_parser_braces_L) (N := N) (body := regex_parser_braces_body) (K := (kResB (.tup [(.int .i64), (.int .i64)]) [(0, .box (.pair .str (.pair (.int .i64) (.pair (.int .i64) .unit))))] 0)) (regex_parser_braces_Eok N) Go.Proofs.Tryd.func35 (by kernel_rfl) (by decide) (fun _ hb => (TabOk.cons (regex_parser_braces_ok1 hb) (TabOk.cons (regex_parser_braces_ok2 hb) TabOk.nil))) (fun x y h => by rw [regex_parser_braces_link]; exact h) (kResB_ok (s := (.tup [(.int .i64), (.int .i64)])) (os := [(0, .box (.pair .str (.pair (.int .i64) (.pair (.int .i64) .unit))))]) (m := 0))

noncomputable def regex_parser_piece_body : Code := (Go.Proofs.Tryd.f32.body).getD .skip

noncomputable def regex_parser_piece_L : List (List Nat × List Nat) := [([0], [0, 2]), ([0, 1], [0, 3, 2]), ([0, 0, 1, 1], [16, 3, 2, 0]), ([1, 0, 1, 1], [3, 0, 2]), ([0, 0, 1, 0, 1, 1], [2, 0]), ([1, 0, 1, 0, 1, 1], [2, 0]), ([0, 1, 1, 1], [0, 4, 2, 3]), ([0, 0, 1, 1, 1, 1], [29, 4, 0, 2, 3]), ([0, 0, 0, 0, 0, 0, 0, 0, 0, 0, 0, 0, 0, 0, 1, 0, 1, 1, 1, 1], [30, 4, 0, 2, 29, 3]), ([1, 0, 0, 0, 0, 0, 0, 0, 0, 0, 0, 0, 0, 0, 1, 0, 1, 1, 1, 1], [29, 0, 4, 2, 3]), ([0, 1, 0, 0, 0, 0, 0, 0, 0, 0, 0, 0, 0, 0, 0, 1, 0, 1, 1, 1, 1], [4, 0, 2]), ([0, 0, 1, 0, 0, 0, 0, 0, 0, 0, 0, 0, 0, 0, 0, 1, 0, 1, 1, 1, 1], [32, 0, 4, 2, 29, 3]), ([1, 0, 1, 0, 0, 0, 0, 0, 0, 0, 0, 0, 0, 0, 0, 1, 0, 1, 1, 1, 1], [29, 0, 4, 2, 3]), ([0, 1, 0, 1, 0, 0, 0, 0, 0, 0, 0, 0, 0, 0, 0, 0, 1, 0, 1, 1, 1, 1], [0, 4, 2]), ([0, 0, 1, 1, 0, 0, 0, 0, 0, 0, 0, 0, 0, 0, 0, 0, 1, 0, 1, 1, 1, 1], [34, 0, 4, 2, 29, 3]), ([1, 0, 1, 1, 0, 0, 0, 0, 0, 0, 0, 0, 0, 0, 0, 0, 1, 0, 1, 1, 1, 1], [29, 0, 4, 2, 3]), ([0, 1, 0, 1, 1, 0, 0, 0, 0, 0, 0, 0, 0, 0, 0, 0, 0, 1, 0, 1, 1, 1, 1], [0, 4, 2]), ([0, 1, 1, 1, 0, 0, 0, 0, 0, 0, 0, 0, 0, 0, 0, 0, 1, 0, 1, 1, 1, 1], [36, 0, 4, 2, 3]), ([1, 1, 1, 1, 0, 0, 0, 0, 0, 0, 0, 0, 0, 0, 0, 0, 1, 0, 1, 1, 1, 1], [3, 2, 0]), ([0, 1, 1, 1, 1, 0, 0, 0, 0, 0, 0, 0, 0, 0, 0, 0, 0, 1, 0, 1, 1, 1, 1], [0, 4, 2]), ([1, 0, 0, 0, 0, 0, 0, 0, 0, 0, 0, 0, 1, 0, 1, 1, 1, 1], [3, 2, 0]), ([0, 0, 0, 0, 0, 0, 0, 0, 0, 0, 1, 0, 1, 1, 1, 1], [4, 0, 2]), ([1, 0, 0, 0, 0, 0, 0, 0, 0, 0, 1, 0, 1, 1, 1, 1], [0, 4, 2]), ([0, 0, 0, 0, 0, 0, 0, 0, 1, 0, 1, 1, 1, 1], [0, 4, 2]), ([0, 1, 0, 0, 0, 0, 0, 0, 0, 1, 0, 1, 1, 1, 1], [4, 2, 0]), ([1, 1, 0, 0, 0, 0, 0, 0, 0, 1, 0, 1, 1, 1, 1], [4, 2, 0]), ([0, 0, 0, 0, 0, 0, 1, 0, 1, 1, 1, 1], [0, 4, 2]), ([0, 0, 1, 0, 0, 0, 0, 0, 1, 0, 1, 1, 1, 1], [4, 2, 0]), ([1, 0, 1, 0, 0, 0, 0, 0, 1, 0, 1, 1, 1, 1], [4, 2, 0]), ([1, 1, 0, 0, 0, 0, 0, 1, 0, 1, 1, 1, 1], [4, 2, 0]), ([0, 0, 0, 0, 1, 0, 1, 1, 1, 1], [0, 4, 2]), ([0, 0, 1, 0, 0, 0, 1, 0, 1, 1, 1, 1], [0, 4, 2]), ([1, 0, 1, 0, 0, 0, 1, 0, 1, 1, 1, 1], [4, 2, 0]), ([1, 1, 0, 0, 0, 1, 0, 1, 1, 1, 1], [4, 2, 0]), ([0, 0, 1, 0, 1, 1, 1, 1], [3, 2, 0]), ([0, 0, 1, 0, 1, 0, 1, 1, 1, 1], [2, 0]), ([1, 0, 1, 0, 1, 0, 1, 1, 1, 1], [2, 0]), ([1, 1, 0, 1, 0, 1, 1, 1, 1], [4, 2, 0]), ([1, 0, 1, 1, 1, 1], [4, 2, 0]), ([0, 1, 1, 1, 1, 1], [2, 0]), ([1, 1, 1, 1, 1, 1], [2, 0])]

noncomputable def regex_parser_piece_E (N : Nat) (self : regex_parser_alt_Self) : Env := mkEnv tys glob [(35, regex_parser_braces_res N), (34, regex_parser_atom_res N self), (19, resOf [(0, .box (.pair .str (.pair (.int .i64) (.pair (.int .i64) .unit))))] (fun x => self x.1) (oResB (.v (.pair (.int .i64) (.pair (.arr 4 (.int .u64)) (.pair (.sl .nod) (.pair (.int .i64) (.pair (.int .i64) .unit)))))) [(0, .box (.pair .str (.pair (.int .i64) (.pair (.int .i64) .unit))))] 0))] [] [] [0] false [] []

theorem regex_parser_piece_Eok (N : Nat) (self : regex_parser_alt_Self) (hself : Contract Go.Proofs.Tryd.prog glob 19 (resOf [(0, .box (.pair .str (.pair (.int .i64) (.pair (.int .i64) .unit))))] (fun x => self x.1) (oResB (.v (.pair (.int .i64) (.pair (.arr 4 (.int .u64)) (.pair (.sl .nod) (.pair (.int .i64) (.pair (.int .i64) .unit)))))) [(0, .box (.pair .str (.pair (.int .i64) (.pair (.int .i64) .unit))))] 0))) : EnvOk Go.Proofs.Tryd.prog (regex_parser_piece_E N self) := mkEnv_ok mixed tys_ok (FnsOk.cons (regex_parser_braces_ct N) (FnsOk.cons (regex_parser_atom_ct N self hself) (FnsOk.cons (hself) (FnsOk.nil)))) (ItsOk.nil)

noncomputable def regex_parser_piece_p1 (N : Nat) (self : regex_parser_alt_Self) (p : ((List UInt8) × (Int × (Int × Unit)))) (x2 : (Int × ((List Int) × ((List Tree) × (Int × (Int × Unit)))))) (kid : (Int × ((List Int) × ((List Tree) × (Int × (Int × Unit)))))) (rep : (Int × ((List Int) × ((List Tree) × (Int × (Int × Unit)))))) (x29 : Int) (k0 : (Int × ((List Int) × ((List Tree) × (Int × (Int × Unit))))) → Option ((Int × ((List Int) × ((List Tree) × (Int × (Int × Unit))))) × (((List UInt8) × (Int × (Int × Unit))) × Unit))) (k1 : Option ((Int × ((List Int) × ((List Tree) × (Int × (Int × Unit))))) × (((List UInt8) × (Int × (Int × Unit))) × Unit))) (k2 : Option ((Int × ((List Int) × ((List Tree) × (Int × (Int × Unit))))) × (((List UInt8) × (Int × (Int × Unit))) × Unit))) (k3 : Option ((Int × ((List Int) × ((List Tree) × (Int × (Int × Unit))))) × (((List UInt8) × (Int × (Int × Unit))) × Unit))) : Option ((Int × ((List Int) × ((List Tree) × (Int × (Int × Unit))))) × (((List UInt8) × (Int × (Int × Unit))) × Unit)) :=
 cond (x29 == (43 : Int))
 (k0 (rep.1, (rep.2.1, (rep.2.2.1, ((1 : Int), rep.2.2.2.2)))))
 (cond (x29 == (42 : Int))
 (k0 rep)
 (cond (x29 == (63 : Int))
 (k1)
 (cond (x29 == (123 : Int))
 (k2)
 (k3))))

end Go.Proofs.YtbfmhambfonpcaaDoorLg
