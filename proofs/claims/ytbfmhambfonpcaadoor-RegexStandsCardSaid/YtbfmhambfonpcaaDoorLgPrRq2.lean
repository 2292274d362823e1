import Derived.Test.YtbfmhambfonpcaaDoorLgW
import Derived.Test.YtbfmhambfonpcaaDoorChecked
import Derived.Shelf.Strings.Search1
import Derived.KernelRfl
import Derived.Test.YtbfmhambfonpcaaDoorLgOr
import Derived.Test.YtbfmhambfonpcaaDoorLgPrRq1
set_option linter.all false
namespace Go.Proofs.YtbfmhambfonpcaaDoorLg
noncomputable section
open Go Go.Lift Go.Proofs Go.Shelf

def zpw : Go.Shelf.Ren := ⟨fun | 217 => 59 | 266 => 70 | n => n, fun | 9 => 9 | 5 => 5 | 3 => 3 | n => n, fun | n => n⟩
theorem z12e : Lays.n217 Tryd.prog zpw where
  mixed := by kernel_rfl
  f217 := Tryd.func59.trans (congrArg some (by kernel_rfl))
  f266 := Tryd.func70.trans (congrArg some (by kernel_rfl))
  t3 := Tryd.underlying3
  a3 := Tryd.isAgg3
  z3 := Tryd.sizeOf3
  v3 := Tryd.zeroValue3
  t5 := Tryd.underlying5
  a5 := Tryd.isAgg5
  z5 := Tryd.sizeOf5
  v5 := Tryd.zeroValue5
  t9 := Tryd.underlying9
  a9 := Tryd.isAgg9
  z9 := Tryd.sizeOf9
  v9 := Tryd.zeroValue9

def z16r (x : z1p [(0, .v .str), (0, .v (.int .u8))]) : Option Int := some (Lib.indexByte x.1 x.2.1.toNat.toUInt8)

def zw0 : List A -> Res := z1z [(0, .v .str), (0, .v (.int .u8))] z16r (zfe (.v (.int .i64)) 2)

theorem z16q (glob : Nat -> Option Dat) : Contract Tryd.prog glob 59 zw0 := by
  refine Contract.hand ⟨_, Tryd.func59, by kernel_rfl, by decide⟩ ?_
  intro w S vals ob x y har hS hg hy
  obtain ⟨s, c, u⟩ := x
  cases u
  unfold z16r at hy
  dsimp only at hy s c
  cases hy
  obtain ⟨⟨v0, hv0, hA0, ho0⟩, _⟩ := har.rel 0 _ rfl
  obtain ⟨⟨v1, hv1, hA1, ho1⟩, _⟩ := har.rel 1 _ rfl
  have hlen := har.len
  obtain ⟨u0, u1, rfl⟩ : ∃ u0 u1, vals = [u0, u1] := by
    have : vals.length = 2 := by simpa [mkS, zda] using hlen.symm
    match vals, this with
    | [a, b], _ => exact ⟨a, b, rfl⟩
  simp at hv0 hv1
  subst hv0; subst hv1
  have e0 := hA0.str_inv
  subst e0
  have e1 := hA1.int_inv
  subst e1
  have hnone : ∀ i, ob i = [] := by
    intro i
    match i with
    | 0 => exact ho0
    | 1 => exact ho1
    | i + 2 => exact har.out _ (by simp [mkS, zda])
  refine (Any.stringslite_IndexByte z12e ⟨⟨s⟩⟩ c w).mono ?_
  rintro e w' ⟨rfl, rfl⟩
  refine ⟨_, S, [], ob, rfl, WF.refl _ _, Lift.Sub.refl _, hS, fun k hk => .inl hk, ⟨⟨VR.int, rfl⟩, rfl⟩, (fun k hk => by cases hk), .nil, ?_, ?_, har.inj, har.nd, fun i hi => hi⟩
  . intro i z hz hbx
    match i with
    | 0 => simp [mkS, zda, AS.mk] at hz; subst hz; cases hbx
    | 1 => simp [mkS, zda, AS.mk] at hz; subst hz; cases hbx
    | i + 2 => simp [mkS, zda] at hz
  . intro i k hk
    rw [hnone i] at hk; cases hk

end
end Go.Proofs.YtbfmhambfonpcaaDoorLg

set_option linter.all false
set_option maxRecDepth 100000
namespace Go.Proofs.YtbfmhambfonpcaaDoorLg
noncomputable section
open Go Go.Lift

abbrev TT0 : T := (.pair (.int .i64) (.pair (.arr 4 (.int .u64)) (.pair (.sl .nod) (.pair (.int .i64) (.pair (.int .i64) .unit)))))

abbrev DT1 : Type := (Int × ((List Int) × ((List Tree) × (Int × (Int × Unit)))))

abbrev TT2 : T := (.pair TT0 (.pair (.arr 4 (.int .u64)) (.pair .bool (.pair (.int .i64) (.pair (.pair (.int .i64) (.pair (.int .i64) .unit)) .unit)))))

abbrev TT4 : T := (.pair .str (.pair (.int .i64) (.pair (.int .i64) .unit)))

abbrev DT5 : Type := ((List UInt8) × (Int × (Int × Unit)))

abbrev TT6 : T := (.pair (.int .i64) (.pair (.int .i64) .unit))

abbrev DT7 : Type := (Int × ((List Int) × ((List Tree) × (Int × (Int × Unit)))))

abbrev DT8 : Type := (((List Int) × Bool × Unit) × (DT5 × Unit))

abbrev DT9 : Type := ((List Int) × (DT5 × Unit))

abbrev zyq : List Nat := [0, 0, 0, 1, 0, 1, 1]

abbrev zu0 : List Nat := [1, 1, 1, 1, 1, 1, 1]

abbrev PQ82 : List Nat := [0, 1, 0, 0, 1, 0, 1]

abbrev z1b6 : List Nat := [1, 0, 1, 0, 1, 1, 1]

abbrev z1b7 : List Nat := [0, 0, 1, 0, 1, 1, 1]

abbrev zyn : List Nat := [1, 0, 1, 1, 1, 1, 1]

abbrev ztx : List Nat := [0, 1, 1, 1, 1, 1, 1]

abbrev zkp : List Nat := [0, 0, 1, 1, 1, 1, 1]

abbrev zyo : List Nat := [1, 1, 0, 0, 0, 0, 1, 1]

abbrev zyp : List Nat := [1, 0, 0, 0, 1, 1, 1, 1]

abbrev zty : List Nat := [0, 0, 0, 0, 1, 1, 1, 1]

abbrev ztz : List Nat := [0, 1, 0, 1, 1, 1, 1, 1]

abbrev PQ88 : List Nat := [1, 1, 0, 0, 1, 0, 1, 1]

abbrev PQ87 : List Nat := [1, 0, 0, 0, 1, 0, 1, 1]

abbrev PQ86 : List Nat := [0, 0, 0, 0, 1, 0, 1, 1]

abbrev PQ73 : List Nat := [1, 0, 1, 1, 1, 1, 1, 1]

abbrev PQ64 : List Nat := [0, 0, 1, 0, 1, 1, 1, 1]

abbrev z135 : List Nat := [0, 1, 1, 0, 1, 0, 1, 1]

abbrev z13p : List Nat := [1, 1, 1, 1, 1, 1, 1, 1]

abbrev z13q : List Nat := [0, 1, 1, 1, 1, 1, 1, 1]

abbrev z13r : List Nat := [0, 0, 1, 1, 1, 1, 1, 1]

abbrev z13s : List Nat := [0, 1, 0, 0, 1, 0, 1, 1]

abbrev zx5 : List (Nat × AS) := [(0, .v TT0), (0, .v TT0)]

abbrev zyr : List Nat := [1, 0, 0, 0, 0, 1, 1, 1, 1]

abbrev zys : List Nat := [0, 0, 0, 0, 0, 1, 1, 1, 1]

abbrev zyt : List Nat := [1, 1, 1, 0, 0, 1, 0, 1, 1]

abbrev zyu : List Nat := [0, 1, 1, 0, 0, 1, 0, 1, 1]

abbrev z1b8 : List Nat := [0, 1, 0, 1, 1, 1, 1, 1, 1]

abbrev PQ96 : List Nat := [0, 1, 1, 1, 1, 1, 1, 1, 1]

abbrev PQ95 : List Nat := [0, 0, 1, 1, 1, 1, 1, 1, 1]

abbrev PQ94 : List Nat := [0, 0, 1, 1, 0, 1, 0, 1, 1]

abbrev PQ93 : List Nat := [1, 0, 1, 0, 0, 1, 0, 1, 1]

abbrev PQ92 : List Nat := [1, 0, 1, 0, 1, 1, 1, 1, 1]

abbrev PQ80 : List Nat := [1, 1, 0, 0, 0, 1, 0, 1, 1]

abbrev PQ59 : List Nat := [0, 0, 1, 0, 1, 1, 1, 1, 1]

abbrev zx4 : List (Nat × AS) := [(0, .v .str), (0, .v .str)]

abbrev PQ112 : List Nat := [0, 0, 0, 1, 0, 0, 1, 0, 1, 1]

abbrev PQ99 : List Nat := [1, 1, 0, 0, 0, 0, 1, 1, 1, 1]

abbrev PQ85 : List Nat := [1, 0, 1, 0, 1, 1, 1, 1, 1, 1]

abbrev PQ77 : List Nat := [0, 0, 1, 0, 1, 1, 1, 1, 1, 1]

abbrev zzz : List (Nat × AS) := [(0, .box TT4), (1, .box TT0)]

abbrev zyl : List (Nat × AS) := [(0, .v (.arr 4 (.int .u64)))]

abbrev zso : List (Nat × AS) := [(2, .box TT0), (0, .box TT0)]

abbrev PQ91 : List Nat := [0, 0, 0, 1, 1, 0, 0, 1, 0, 1, 1]

abbrev zko : List (Nat × AS) := [(0, .box TT4), (0, .v (.int .u8))]

abbrev z13h : List (Nat × AS) := [(0, .box TT4), (0, .v (.int .i64))]

abbrev z100 : List (Nat × AS) := [(0, .box TT4), (2, .v (.int .i64))]

abbrev z13o : List Nat := [0, 1, 1, 1, 1, 1, 1, 1, 1, 0, 1, 1, 1]

abbrev SQ58 : List (Nat × AS) := [(0, .v (.int .i64)), (0, .v (.sl .nod))]

abbrev z103 : List Nat := [0, 0, 0, 0, 0, 0, 0, 0, 1, 0, 1, 1, 1, 1]

abbrev SQ7 : List (Nat × AS) := [(0, .v (.int .i64)), (0, .v (.int .i64))]

abbrev z13i : List (Nat × AS) := [(0, .box TT4), (1, .box TT0), (1, .box TT0)]

abbrev SQ4 : List (Nat × AS) := [(0, .box TT4), (1, .box TT0), (0, .row TT0)]

abbrev SQ98 : List (Nat × AS) := [(0, .v (.arr 4 (.int .u64))), (0, .v (.int .u8))]

abbrev z101 : List (Nat × AS) := [(0, .box TT4), (1, .box TT0), (0, .v (.int .u8))]

abbrev SQ51 : List (Nat × AS) := [(1, .box (.arr 4 (.int .u64))), (1, .v (.int .i64))]

abbrev zu2 : List (Nat × AS) := [(0, .box TT4), (0, .v (.int .i64)), (3, .v (.int .u8))]

abbrev SQ67 : List (Nat × AS) := [(0, .box TT4), (1, .v (.int .i64)), (0, .v (.int .i64))]

abbrev SQ0 : List (Nat × AS) := [(0, .box TT4), (2, .v (.int .i64)), (0, .v (.int .i64))]

abbrev SQ84 : List (Nat × AS) := [(5, .box TT0), (3, .box TT0), (1, .box TT0), (0, .box TT6)]

abbrev SQ37 : List (Nat × AS) := [(0, .v (.arr 4 (.int .u64))), (0, .v (.arr 4 (.int .u64)))]

abbrev SQ57 : List (Nat × AS) := [(0, .box TT4), (1, .box (.arr 4 (.int .u64))), (0, .v .bool)]

abbrev SQ52 : List (Nat × AS) := [(9, .box TT0), (1, .box TT0), (0, .box TT6), (0, .v (.int .i64))]

abbrev z102 : List (Nat × AS) := [(0, .box TT4), (1, .box (.arr 4 (.int .u64))), (1, .v (.int .u8))]

abbrev SQ8 : List (Nat × AS) := [(0, .box TT4), (1, .v (.int .i64)), (0, .v (.int .i64)), (0, .v (.int .i64))]

abbrev z13j : List (Nat × AS) := [(0, .box TT4), (1, .box TT0), (0, .box TT0), (0, .box TT0), (24, .v (.int .u8))]

abbrev z13k : List (Nat × AS) := [(0, .box TT4), (1, .box (.arr 4 (.int .u64))), (1, .v (.int .u8)), (2, .v (.int .u8))]

abbrev z13l : List (Nat × AS) := [(0, .box TT4), (1, .box (.arr 4 (.int .u64))), (1, .v (.int .i64)), (0, .v (.int .u8))]

abbrev z13m : List (Nat × AS) := [(0, .box TT4), (1, .box (.arr 4 (.int .u64))), (0, .v .bool), (0, .box (.arr 4 (.int .u64)))]

abbrev SQ6 : List (Nat × AS) := [(0, .box TT4), (1, .box (.arr 4 (.int .u64))), (0, .box (.arr 4 (.int .u64))), (0, .v .bool)]

abbrev SQ79 : List (Nat × AS) := [(0, .box TT4), (1, .box (.arr 4 (.int .u64))), (0, .box (.arr 4 (.int .u64))), (13, .v .bool)]

abbrev z13n : List (Nat × AS) := [(0, .v .str), (0, .v .str), (3, .box TT0), (1, .box TT0), (0, .box TT6), (0, .box TT0), (0, .box TT6)]

abbrev SQ75 : List (Nat × AS) := [(1, .v (.int .u8)), (2, .box (.arr 4 (.int .u64))), (0, .box (.arr 4 (.int .u64))), (0, .v (.int .i64))]

abbrev SQ71 : List (Nat × AS) := [(0, .box TT4), (1, .box (.arr 4 (.int .u64))), (0, .box (.arr 4 (.int .u64))), (2, .box (.arr 4 (.int .u64)))]

abbrev SQ69 : List (Nat × AS) := [(0, .v (.int .i64)), (3, .box TT0), (0, .row TT0), (2, .v (.sl .nod)), (0, .v (.int .i64)), (0, .v (.int .i64))]

abbrev SQ65 : List (Nat × AS) := [(2, .box (.arr 4 (.int .u64))), (0, .box (.arr 4 (.int .u64))), (0, .box (.arr 4 (.int .u64))), (1, .v (.int .i64))]

abbrev SQ61 : List (Nat × AS) := [(0, .v .str), (1, .box (.arr 4 (.int .u64))), (0, .box (.arr 4 (.int .u64))), (2, .v (.int .i64)), (0, .v (.int .i64))]

abbrev SQ3 : List (Nat × AS) := [(0, .box TT4), (1, .box (.arr 4 (.int .u64))), (0, .box (.arr 4 (.int .u64))), (0, .v .bool), (0, .v (.int .i64)), (0, .box (.arr 4 (.int .u64)))]

abbrev SQ46 : List (Nat × AS) := [(0, .box TT4), (1, .box (.arr 4 (.int .u64))), (0, .box (.arr 4 (.int .u64))), (1, .v (.int .i64)), (0, .box (.arr 4 (.int .u64))), (28, .v .bool)]

def ty3 : TyI := ⟨(Go.TypeDesc.int IntKind.i64), 1, 8, (.int .i64), (0 : Int), false⟩

theorem z143 : TyOk Tryd.prog 3 ty3 := TyOk.of (by kernel_rfl) (by kernel_rfl) (by kernel_rfl) (by kernel_rfl)

def ty4 : TyI := ⟨Go.TypeDesc.bool, 1, 1, .bool, false, false⟩

theorem z142 : TyOk Tryd.prog 4 ty4 := TyOk.of (by kernel_rfl) (by kernel_rfl) (by kernel_rfl) (by kernel_rfl)

def ty5 : TyI := ⟨(Go.TypeDesc.int IntKind.u8), 1, 1, (.int .u8), (0 : Int), false⟩

theorem z141 : TyOk Tryd.prog 5 ty5 := TyOk.of (by kernel_rfl) (by kernel_rfl) (by kernel_rfl) (by kernel_rfl)

def ty9 : TyI := ⟨Go.TypeDesc.string, 1, 16, .str, ([] : List UInt8), false⟩

theorem z140 : TyOk Tryd.prog 9 ty9 := TyOk.of (by kernel_rfl) (by kernel_rfl) (by kernel_rfl) (by kernel_rfl)

def ty22 : TyI := ⟨(Go.TypeDesc.int IntKind.u64), 1, 8, (.int .u64), (0 : Int), false⟩

theorem z10p : TyOk Tryd.prog 22 ty22 := TyOk.of (by kernel_rfl) (by kernel_rfl) (by kernel_rfl) (by kernel_rfl)

def ty24 : TyI := ⟨(Go.TypeDesc.array 4 22), 4, 32, (.arr 4 (.int .u64)), ([(0 : Int), (0 : Int), (0 : Int), (0 : Int)] : List Int), true⟩

theorem z10o : TyOk Tryd.prog 24 ty24 := TyOk.of (by kernel_rfl) (by kernel_rfl) (by kernel_rfl) (by kernel_rfl)

def ty25 : TyI := ⟨(Go.TypeDesc.slice 27), 1, 24, (.sl .nod), ([] : List Tree), false⟩

theorem z10n : TyOk Tryd.prog 25 ty25 := TyOk.of (by kernel_rfl) (by kernel_rfl) (by kernel_rfl) (by kernel_rfl)

def ty27 : TyI := ⟨(Go.TypeDesc.struct (List.toArray ([(Go.Field.mk "Kind" 3 0 false "" "" 0), (Go.Field.mk "Set" 24 1 false "" "" 8), (Go.Field.mk "Kids" 25 5 false "" "" 40), (Go.Field.mk "Min" 3 6 false "" "" 64), (Go.Field.mk "Max" 3 7 false "" "" 72)] : List Go.Field))), 8, 80, TT0, ((0 : Int), ([(0 : Int), (0 : Int), (0 : Int), (0 : Int)] : List Int), ([] : List Tree), (0 : Int), (0 : Int), ()), true⟩

theorem z10m : TyOk Tryd.prog 27 ty27 := TyOk.of (by kernel_rfl) (by kernel_rfl) (by kernel_rfl) (by kernel_rfl)

def ty34 : TyI := ⟨(Go.TypeDesc.int IntKind.i64), 1, 8, (.int .i64), (0 : Int), false⟩

theorem z10l : TyOk Tryd.prog 34 ty34 := TyOk.of (by kernel_rfl) (by kernel_rfl) (by kernel_rfl) (by kernel_rfl)

def ty36 : TyI := ⟨(Go.TypeDesc.struct (List.toArray ([(Go.Field.mk "E" 34 0 false "" "" 0), (Go.Field.mk "At" 3 1 false "" "" 8)] : List Go.Field))), 2, 16, TT6, ((0 : Int), (0 : Int), ()), true⟩

theorem z10k : TyOk Tryd.prog 36 ty36 := TyOk.of (by kernel_rfl) (by kernel_rfl) (by kernel_rfl) (by kernel_rfl)

def ty43 : TyI := ⟨(Go.TypeDesc.pointer 45), 1, 8, .opq, (Go.Value.pointer none), false⟩

theorem z10j : TyOk Tryd.prog 43 ty43 := TyOk.of (by kernel_rfl) (by kernel_rfl) (by kernel_rfl) (by kernel_rfl)

def ty45 : TyI := ⟨(Go.TypeDesc.struct (List.toArray ([(Go.Field.mk "s" 9 0 false "" "porter/regex" 0), (Go.Field.mk "at" 3 1 false "" "porter/regex" 16), (Go.Field.mk "open" 3 2 false "" "porter/regex" 24)] : List Go.Field))), 3, 32, TT4, (([] : List UInt8), (0 : Int), (0 : Int), ()), true⟩

theorem z10i : TyOk Tryd.prog 45 ty45 := TyOk.of (by kernel_rfl) (by kernel_rfl) (by kernel_rfl) (by kernel_rfl)

def ty49 : TyI := ⟨(Go.TypeDesc.struct (List.toArray ([(Go.Field.mk "N" 27 0 false "" "" 0), (Go.Field.mk "Set" 24 8 false "" "" 80), (Go.Field.mk "Many" 4 12 false "" "" 112), (Go.Field.mk "At" 3 13 false "" "" 120), (Go.Field.mk "F" 36 14 false "" "" 128)] : List Go.Field))), 16, 144, TT2, (((0 : Int), ([(0 : Int), (0 : Int), (0 : Int), (0 : Int)] : List Int), ([] : List Tree), (0 : Int), (0 : Int), ()), ([(0 : Int), (0 : Int), (0 : Int), (0 : Int)] : List Int), false, (0 : Int), ((0 : Int), (0 : Int), ()), ()), true⟩

theorem z10h : TyOk Tryd.prog 49 ty49 := TyOk.of (by kernel_rfl) (by kernel_rfl) (by kernel_rfl) (by kernel_rfl)

def ty78 : TyI := ⟨(Go.TypeDesc.int IntKind.u64), 1, 8, (.int .u64), (0 : Int), false⟩

theorem z10g : TyOk Tryd.prog 78 ty78 := TyOk.of (by kernel_rfl) (by kernel_rfl) (by kernel_rfl) (by kernel_rfl)

def ty84 : TyI := ⟨(Go.TypeDesc.array 64 5), 64, 64, (.arr 64 (.int .u8)), ((0 : Int) :: (0 : Int) :: (0 : Int) :: (0 : Int) :: (0 : Int) :: (0 : Int) :: (0 : Int) :: (0 : Int) :: (0 : Int) :: (0 : Int) :: (0 : Int) :: (0 : Int) :: (0 : Int) :: (0 : Int) :: (0 : Int) :: (0 : Int) :: (0 : Int) :: (0 : Int) :: (0 : Int) :: (0 : Int) :: (0 : Int) :: (0 : Int) :: (0 : Int) :: (0 : Int) :: (0 : Int) :: (0 : Int) :: (0 : Int) :: (0 : Int) :: (0 : Int) :: (0 : Int) :: (0 : Int) :: (0 : Int) :: (0 : Int) :: (0 : Int) :: (0 : Int) :: (0 : Int) :: (0 : Int) :: (0 : Int) :: (0 : Int) :: (0 : Int) :: (0 : Int) :: (0 : Int) :: (0 : Int) :: (0 : Int) :: (0 : Int) :: (0 : Int) :: (0 : Int) :: (0 : Int) :: (0 : Int) :: (0 : Int) :: (0 : Int) :: (0 : Int) :: (0 : Int) :: (0 : Int) :: (0 : Int) :: (0 : Int) :: (0 : Int) :: (0 : Int) :: (0 : Int) :: (0 : Int) :: (0 : Int) :: (0 : Int) :: (0 : Int) :: (0 : Int) :: ([] : List Int)), true⟩

theorem z10f : TyOk Tryd.prog 84 ty84 := TyOk.of (by kernel_rfl) (by kernel_rfl) (by kernel_rfl) (by kernel_rfl)

def tys : List (Nat × TyI) := [(3, ty3), (4, ty4), (5, ty5), (9, ty9), (22, ty22), (24, ty24), (25, ty25), (27, ty27), (34, ty34), (36, ty36), (43, ty43), (45, ty45), (49, ty49), (78, ty78), (84, ty84)]

theorem z1v : TysOk Tryd.prog tys := TysOk.cons z143 (TysOk.cons z142 (TysOk.cons z141 (TysOk.cons z140 (TysOk.cons z10p (TysOk.cons z10o (TysOk.cons z10n (TysOk.cons z10m (TysOk.cons z10l (TysOk.cons z10k (TysOk.cons z10j (TysOk.cons z10i (TysOk.cons z10h (TysOk.cons z10g (TysOk.cons z10f (TysOk.nil)))))))))))))))

theorem mixed : Tryd.prog.follows .mixedOrders = true := by kernel_rfl

def glob1 : List Int := [0, 1, 56, 2, 57, 49, 28, 3, 61, 58, 42, 50, 38, 29, 17, 4, 62, 47, 59, 36, 45, 43, 51, 22, 53, 39, 33, 30, 24, 18, 12, 5, 63, 55, 48, 27, 60, 41, 37, 16, 46, 35, 44, 21, 52, 32, 23, 11, 54, 26, 40, 15, 34, 20, 31, 10, 25, 14, 19, 9, 13, 8, 7, 6]

def glob : Nat -> Option Dat := lk [(1, ⟨(.arr 64 (.int .u8)), glob1⟩)]

def zi8 : Code := (Tryd.f12.body).getD .skip

def L_0 : List (List Nat × List Nat) := [([0], [2, 3]), ([0, 0, 1], [40, 2, 3]), ([1, 0, 1], [2, 3]), ([0, 0, 1, 0, 1], [4]), ([1, 0, 1, 0, 1], [4]), ([0, 0, 1, 1], [5, 2, 3]), ([0, 1, 0, 1, 1], [5, 2, 3]), (PQ86, [45, 2, 5, 3]), (PQ87, [2, 5, 3]), (PQ80, []), (PQ112, [59, 5, 2, 3]), ([1, 0, 0, 1, 0, 0, 1, 0, 1, 1], [5, 2, 3]), ([0, 0, 1, 0, 0, 1, 0, 0, 1, 0, 1, 1], [4]), ([1, 0, 1, 0, 0, 1, 0, 0, 1, 0, 1, 1], [4]), (z13s, [5, 2, 3]), (PQ88, [5, 2, 3]), ([1, 0, 1, 1], []), ([0, 1, 1, 1], [4]), ([1, 1, 1, 1], [4])]

def E_0 (N : Nat) (self : DT1 -> DT1 -> Option Bool) : Env := z3w tys glob [(12, z1z zx5 (fun x => self x.1 x.2.1) (zfe (.v .bool) 2))] [] [] [] false [] []

theorem Eok_0 (N : Nat) (self : DT1 -> DT1 -> Option Bool) (hself : Contract Tryd.prog glob 12 (z1z zx5 (fun x => self x.1 x.2.1) (zfe (.v .bool) 2))) : EnvOk Tryd.prog (E_0 N self) := zn mixed z1v (FnsOk.cons (hself) (FnsOk.nil)) (ItsOk.nil)

def z81 (N : Nat) (self : DT1 -> DT1 -> Option Bool) (a : DT1) (b : DT1) (k0 : Bool -> Option Bool) : Option Bool :=
 cond (a.1 != b.1)
 (k0 true)
 (cond (!(eqD (T.arr 4 (T.int IntKind.u64)) a.2.1 b.2.1))
 (k0 true)
 (cond (a.2.2.2.1 != b.2.2.2.1)
 (k0 true)
 (cond (a.2.2.2.2.1 != b.2.2.2.2.1)
 (k0 true)
 (k0 ((((List.length a.2.2.1) : Nat) : Int) != (((List.length b.2.2.1) : Nat) : Int))))))

def g2_0 (N : Nat) (self : DT1 -> DT1 -> Option Bool) (x : z1p zso) (K : Ex -> List A -> Option Bool) : Option Bool :=
 z81 N self x.1 x.2.1 (fun a2 => (K .normal (mkS [(2, .box TT0), (0, .box TT0), (36, .v .bool)] 19 (x.1, x.2.1, a2, ()))))

def h2_0 (N : Nat) (self : DT1 -> DT1 -> Option Bool) : Hd Bool := fun st K => (unS zso 56 (restr [2, 3] 0 st)).bind fun x => g2_0 N self x K

def t2_0 (N : Nat) (self : DT1 -> DT1 -> Option Bool) : Tab Bool := []

theorem ok2_0 {N : Nat} {self : DT1 -> DT1 -> Option Bool} {c : Ctx} (hb : Base Tryd.prog (E_0 N self) c) : z14 Tryd.prog c (zd zi8 [0, 0, 1]) (h2_0 N self) :=
  z16 (s := zso) (m := 56) (g := g2_0 N self) [2, 3] (zg hb N (t2_0 N self) L_0 zi8 TabOk.nil [0, 0, 1] _ rfl) (fun x K => by kernel_rfl)

def z82 (N : Nat) (self : DT1 -> DT1 -> Option Bool) (a : DT1) (b : DT1) (k0 : Bool -> Option Bool) (k1 : Option Bool) : Option Bool :=
 z81 N self a b
 (fun x40 => cond x40
 (k0 false)
 (k1))

def g1_0 (N : Nat) (self : DT1 -> DT1 -> Option Bool) (x : z1p zso) (K : Ex -> List A -> Option Bool) : Option Bool :=
 z82 N self x.1 x.2.1 (fun a0 => (K .ret (mkS [(4, .v .bool)] 55 (a0, ())))) (K .normal (mkS zso 56 (x.1, x.2.1, ())))

def h1_0 (N : Nat) (self : DT1 -> DT1 -> Option Bool) : Hd Bool := fun st K => (unS zso 56 (restr [2, 3] 0 st)).bind fun x => g1_0 N self x K

def t1_0 (N : Nat) (self : DT1 -> DT1 -> Option Bool) : Tab Bool := [([0, 0, 1], h2_0 N self)]

theorem ok1_0 {N : Nat} {self : DT1 -> DT1 -> Option Bool} {c : Ctx} (hb : Base Tryd.prog (E_0 N self) c) : z14 Tryd.prog c (zd zi8 [0, 1]) (h1_0 N self) :=
  z16 (s := zso) (m := 56) (g := g1_0 N self) [2, 3] (zg hb N (t1_0 N self) L_0 zi8 (TabOk.cons (ok2_0 hb) TabOk.nil) [0, 1] _ rfl) (fun x K => by kernel_rfl)

def zaj (N : Nat) (self : DT1 -> DT1 -> Option Bool) (a : DT1) (b : DT1) (i : Int) (rec : Int -> Option Bool) (k0 : Bool -> Option Bool) (k1 : Option Bool) : Option Bool :=
 cond (decide (i < (((List.length a.2.2.1) : Nat) : Int)))
 (cond (inR i (List.length a.2.2.1))
 (cond (inR i (List.length b.2.2.1))
 ((self (unN (List.getD a.2.2.1 (Int.toNat i) (Tree.mk (0 : Int) ([] : List Int) ([] : List Tree) (0 : Int) (0 : Int)))) (unN (List.getD b.2.2.1 (Int.toNat i) (Tree.mk (0 : Int) ([] : List Int) ([] : List Tree) (0 : Int) (0 : Int))))).bind fun y =>
 cond (!y)
 (k0 false)
 (rec (IntKind.wrap IntKind.i64 (i + (1 : Int)))))
 (none))
 (none))
 (k1)

def zak (N : Nat) (self : DT1 -> DT1 -> Option Bool) (a : DT1) (b : DT1) (i : Int) (k0 : Bool -> Option Bool) (k1 : Option Bool) : Option Bool :=
 iter (fun (v : Int) r => zaj N self a b v (fun i => (r i)) k0 k1) N i

def g3_0 (N : Nat) (self : DT1 -> DT1 -> Option Bool) (i : (DT1 × DT1)) (v : Int) (r : Int -> Option Bool) (K : Ex -> List A -> Option Bool) : Option Bool :=
 zaj N self i.1 i.2 v (fun i => (r i)) (fun a0 => (K .ret (mkS [(4, .v .bool)] 55 (a0, ())))) (K (.exit 0) (mkS [] 60 ()))

def h3_0 (N : Nat) (self : DT1 -> DT1 -> Option Bool) : Hd Bool := fun st K => (unS [(2, .box TT0), (0, .box TT0), (1, .v (.int .i64))] 54 (restr [5, 2, 3] 0 st)).bind fun x => iter (fun v r => g3_0 N self ((fun x => (x.1, x.2.1)) x) v r K) N ((fun x => x.2.2.1) x)

def t3_0 (N : Nat) (self : DT1 -> DT1 -> Option Bool) : Tab Bool := []

theorem ok3_0 {N : Nat} {self : DT1 -> DT1 -> Option Bool} {c : Ctx} (hb : Base Tryd.prog (E_0 N self) c) : z14 Tryd.prog c (zd zi8 [0, 1, 0, 1, 1]) (h3_0 N self) :=
  z8n (s := [(2, .box TT0), (0, .box TT0), (1, .v (.int .i64))]) (m := 54) (g3_0 N self) [5, 2, 3] N (fun x => (x.1, x.2.1)) (fun x => x.2.2.1) (fun i v => (i.1, i.2, v, ())) (fun _ => rfl) (zg hb N (t3_0 N self) L_0 zi8 TabOk.nil [0, 0, 1, 0, 1, 1] _ rfl) (fun i v r K => by kernel_rfl)

def z67 (N : Nat) (self : DT1 -> DT1 -> Option Bool) (a : DT1) (b : DT1) : Option Bool :=
 z82 N self a b
 (fun x4 => some x4)
 (zak N self a b (0 : Int)
 (fun x41 => some x41)
 (some true))

def t_0 (N : Nat) (self : DT1 -> DT1 -> Option Bool) : Tab Bool := [([0, 1], h1_0 N self), ([0, 1, 0, 1, 1], h3_0 N self)]

theorem z16n (N : Nat) (self : DT1 -> DT1 -> Option Bool) (x : z1p zx5) : zc6 (E_0 N self) N (t_0 N self) L_0 Tryd.f12 (mkS zx5 0 x) (zc5 (.v .bool) 2) = z67 N self x.1 x.2.1 := by kernel_rfl

def z1y : Nat -> DT1 -> DT1 -> Option Bool
  | 0 => fun _ _ => none
  | N + 1 => z67 (N + 1) (z1y N)

def z9q (N : Nat) : List A -> Res := z1z zx5 (fun x => z1y N x.1 x.2.1) (zfe (.v .bool) 2)

theorem zal : ∀ N : Nat, Contract Tryd.prog glob 12 (z9q N)
  | 0 => Contract.zero Tryd.func12 (body := zi8) (by kernel_rfl) (by decide) (fun _ => rfl)
  | N + 1 => Contract.of (E := E_0 (N + 1) (z1y N)) (H := t_0 (N + 1) (z1y N)) (L := L_0) (N := (N + 1)) (body := zi8) (K := (zc5 (.v .bool) 2)) (Eok_0 (N + 1) (z1y N) (zal N)) Tryd.func12 (by kernel_rfl) (by decide) (fun _ hb => (TabOk.cons (ok1_0 hb) (TabOk.cons (ok3_0 hb) TabOk.nil))) (fun x y h => by rw [z16n]; exact h) (z5p (s := (.v .bool)) (m := 2))

def zi7 : Code := (Tryd.f11.body).getD .skip

def L_5 : List (List Nat × List Nat) := [([0], [2, 3]), ([0, 0, 1], [40, 2, 3]), ([1, 0, 1], [2, 3]), ([0, 0, 1, 0, 1], [4]), ([1, 0, 1, 0, 1], [4]), ([0, 0, 1, 1], [44, 43, 2, 3]), ([0, 1, 0, 1, 1], [44, 43, 2, 3]), (zyq, [45, 44, 2, 3, 43]), (z13s, [44, 2, 3, 43]), (PQ93, []), (PQ91, [2, 5, 3, 44, 43]), ([0, 1, 0, 0, 1, 1, 0, 0, 1, 0, 1, 1], [58, 44, 43, 2, 3]), ([1, 1, 0, 0, 1, 1, 0, 0, 1, 0, 1, 1], [44, 43, 2, 3]), ([0, 0, 1, 1, 0, 0, 1, 1, 0, 0, 1, 0, 1, 1], [4]), ([1, 0, 1, 1, 0, 0, 1, 1, 0, 0, 1, 0, 1, 1], [4]), (zyu, [44, 43, 2, 3]), (zyt, [44, 43, 2, 3]), ([1, 0, 1, 1], []), ([0, 1, 1, 1], [4]), ([1, 1, 1, 1], [4])]

def E_5 (N : Nat) (self : DT1 -> DT1 -> Option Bool) : Env := z3w tys glob [(11, z1z zx5 (fun x => self x.1 x.2.1) (zfe (.v .bool) 2))] [] [] [] false [] []

theorem Eok_5 (N : Nat) (self : DT1 -> DT1 -> Option Bool) (hself : Contract Tryd.prog glob 11 (z1z zx5 (fun x => self x.1 x.2.1) (zfe (.v .bool) 2))) : EnvOk Tryd.prog (E_5 N self) := zn mixed z1v (FnsOk.cons (hself) (FnsOk.nil)) (ItsOk.nil)

def zcg (N : Nat) (self : DT1 -> DT1 -> Option Bool) (a : DT1) (b : DT1) (k0 : Bool -> Option Bool) : Option Bool :=
 cond (a.1 != b.1)
 (k0 true)
 (cond (!(eqD (T.arr 4 (T.int IntKind.u64)) a.2.1 b.2.1))
 (k0 true)
 (cond (a.2.2.2.1 != b.2.2.2.1)
 (k0 true)
 (cond (a.2.2.2.2.1 != b.2.2.2.2.1)
 (k0 true)
 (k0 ((((List.length a.2.2.1) : Nat) : Int) != (((List.length b.2.2.1) : Nat) : Int))))))

def g2_5 (N : Nat) (self : DT1 -> DT1 -> Option Bool) (x : z1p zso) (K : Ex -> List A -> Option Bool) : Option Bool :=
 zcg N self x.1 x.2.1 (fun a2 => (K .normal (mkS [(2, .box TT0), (0, .box TT0), (36, .v .bool)] 19 (x.1, x.2.1, a2, ()))))

def h2_5 (N : Nat) (self : DT1 -> DT1 -> Option Bool) : Hd Bool := fun st K => (unS zso 56 (restr [2, 3] 0 st)).bind fun x => g2_5 N self x K

def t2_5 (N : Nat) (self : DT1 -> DT1 -> Option Bool) : Tab Bool := []

theorem ok2_5 {N : Nat} {self : DT1 -> DT1 -> Option Bool} {c : Ctx} (hb : Base Tryd.prog (E_5 N self) c) : z14 Tryd.prog c (zd zi7 [0, 0, 1]) (h2_5 N self) :=
  z16 (s := zso) (m := 56) (g := g2_5 N self) [2, 3] (zg hb N (t2_5 N self) L_5 zi7 TabOk.nil [0, 0, 1] _ rfl) (fun x K => by kernel_rfl)

def zch (N : Nat) (self : DT1 -> DT1 -> Option Bool) (a : DT1) (b : DT1) (k0 : Bool -> Option Bool) (k1 : Option Bool) : Option Bool :=
 zcg N self a b
 (fun x40 => cond x40
 (k0 false)
 (k1))

def g1_5 (N : Nat) (self : DT1 -> DT1 -> Option Bool) (x : z1p zso) (K : Ex -> List A -> Option Bool) : Option Bool :=
 zch N self x.1 x.2.1 (fun a0 => (K .ret (mkS [(4, .v .bool)] 55 (a0, ())))) (K .normal (mkS zso 56 (x.1, x.2.1, ())))

def h1_5 (N : Nat) (self : DT1 -> DT1 -> Option Bool) : Hd Bool := fun st K => (unS zso 56 (restr [2, 3] 0 st)).bind fun x => g1_5 N self x K

def t1_5 (N : Nat) (self : DT1 -> DT1 -> Option Bool) : Tab Bool := [([0, 0, 1], h2_5 N self)]

theorem ok1_5 {N : Nat} {self : DT1 -> DT1 -> Option Bool} {c : Ctx} (hb : Base Tryd.prog (E_5 N self) c) : z14 Tryd.prog c (zd zi7 [0, 1]) (h1_5 N self) :=
  z16 (s := zso) (m := 56) (g := g1_5 N self) [2, 3] (zg hb N (t1_5 N self) L_5 zi7 (TabOk.cons (ok2_5 hb) TabOk.nil) [0, 1] _ rfl) (fun x K => by kernel_rfl)

def zg2 (N : Nat) (self : DT1 -> DT1 -> Option Bool) (a : DT1) (b : DT1) (x43 : Int) (x44 : Int) (rec : Int -> Option Bool) (k0 : Bool -> Option Bool) (k1 : Option Bool) : Option Bool :=
 cond (decide (x44 < x43))
 (cond (inR x44 (List.length a.2.2.1))
 (cond (inR x44 (List.length b.2.2.1))
 ((self (unN (List.getD a.2.2.1 (Int.toNat x44) (Tree.mk (0 : Int) ([] : List Int) ([] : List Tree) (0 : Int) (0 : Int)))) (unN (List.getD b.2.2.1 (Int.toNat x44) (Tree.mk (0 : Int) ([] : List Int) ([] : List Tree) (0 : Int) (0 : Int))))).bind fun y =>
 cond (!y)
 (k0 false)
 (rec (IntKind.wrap IntKind.i64 (x44 + (1 : Int)))))
 (none))
 (none))
 (k1)

def zg3 (N : Nat) (self : DT1 -> DT1 -> Option Bool) (a : DT1) (b : DT1) (x43 : Int) (x44 : Int) (k0 : Bool -> Option Bool) (k1 : Option Bool) : Option Bool :=
 iter (fun (v : Int) r => zg2 N self a b x43 v (fun x44 => (r x44)) k0 k1) N x44

def g3_5 (N : Nat) (self : DT1 -> DT1 -> Option Bool) (i : (DT1 × DT1 × Int)) (v : Int) (r : Int -> Option Bool) (K : Ex -> List A -> Option Bool) : Option Bool :=
 zg2 N self i.1 i.2.1 i.2.2 v (fun x44 => (r x44)) (fun a0 => (K .ret (mkS [(4, .v .bool)] 55 (a0, ())))) (K (.exit 0) (mkS [] 60 ()))

def h3_5 (N : Nat) (self : DT1 -> DT1 -> Option Bool) : Hd Bool := fun st K => (unS [(2, .box TT0), (0, .box TT0), (39, .v (.int .i64)), (0, .v (.int .i64))] 15 (restr [44, 43, 2, 3] 0 st)).bind fun x => iter (fun v r => g3_5 N self ((fun x => (x.1, x.2.1, x.2.2.1)) x) v r K) N ((fun x => x.2.2.2.1) x)

def t3_5 (N : Nat) (self : DT1 -> DT1 -> Option Bool) : Tab Bool := []

theorem ok3_5 {N : Nat} {self : DT1 -> DT1 -> Option Bool} {c : Ctx} (hb : Base Tryd.prog (E_5 N self) c) : z14 Tryd.prog c (zd zi7 [0, 1, 0, 1, 1]) (h3_5 N self) :=
  z8n (s := [(2, .box TT0), (0, .box TT0), (39, .v (.int .i64)), (0, .v (.int .i64))]) (m := 15) (g3_5 N self) [44, 43, 2, 3] N (fun x => (x.1, x.2.1, x.2.2.1)) (fun x => x.2.2.2.1) (fun i v => (i.1, i.2.1, i.2.2, v, ())) (fun _ => rfl) (zg hb N (t3_5 N self) L_5 zi7 TabOk.nil [0, 0, 1, 0, 1, 1] _ rfl) (fun i v r K => by kernel_rfl)

def zb2 (N : Nat) (self : DT1 -> DT1 -> Option Bool) (a : DT1) (b : DT1) : Option Bool :=
 zch N self a b
 (fun x4 => some x4)
 (zg3 N self a b (((List.length a.2.2.1) : Nat) : Int) (0 : Int)
 (fun x41 => some x41)
 (some true))

def t_5 (N : Nat) (self : DT1 -> DT1 -> Option Bool) : Tab Bool := [([0, 1], h1_5 N self), ([0, 1, 0, 1, 1], h3_5 N self)]

theorem z16m (N : Nat) (self : DT1 -> DT1 -> Option Bool) (x : z1p zx5) : zc6 (E_5 N self) N (t_5 N self) L_5 Tryd.f11 (mkS zx5 0 x) (zc5 (.v .bool) 2) = zb2 N self x.1 x.2.1 := by kernel_rfl

def z6n : Nat -> DT1 -> DT1 -> Option Bool
  | 0 => fun _ _ => none
  | N + 1 => zb2 (N + 1) (z6n N)

def zeu (N : Nat) : List A -> Res := z1z zx5 (fun x => z6n N x.1 x.2.1) (zfe (.v .bool) 2)

theorem zg4 : ∀ N : Nat, Contract Tryd.prog glob 11 (zeu N)
  | 0 => Contract.zero Tryd.func11 (body := zi7) (by kernel_rfl) (by decide) (fun _ => rfl)
  | N + 1 => Contract.of (E := E_5 (N + 1) (z6n N)) (H := t_5 (N + 1) (z6n N)) (L := L_5) (N := (N + 1)) (body := zi7) (K := (zc5 (.v .bool) 2)) (Eok_5 (N + 1) (z6n N) (zg4 N)) Tryd.func11 (by kernel_rfl) (by decide) (fun _ hb => (TabOk.cons (ok1_5 hb) (TabOk.cons (ok3_5 hb) TabOk.nil))) (fun x y h => by rw [z16m]; exact h) (z5p (s := (.v .bool)) (m := 2))

def zwv : Code := (Tryd.f23.body).getD .skip

def L_6 : List (List Nat × List Nat) := [([0], [2, 1]), ([0, 0, 1], [10, 9, 8, 1]), ([0, 1, 0, 1], [10, 9, 8, 1]), ([0, 0, 0, 1, 0, 1], [11, 8, 10, 1, 9]), (PQ82, [8, 10, 1, 9]), ([1, 0, 1, 0, 0, 1, 0, 1], []), ([0, 0, 0, 1, 1, 0, 0, 1, 0, 1], [6, 1, 10, 9, 8]), ([0, 1, 0, 0, 1, 1, 0, 0, 1, 0, 1], [17, 10, 9, 8, 1]), ([1, 1, 0, 0, 1, 1, 0, 0, 1, 0, 1], [10, 9, 8, 1]), ([0, 0, 1, 1, 0, 0, 1, 1, 0, 0, 1, 0, 1], [4]), ([1, 0, 1, 1, 0, 0, 1, 1, 0, 0, 1, 0, 1], [4]), ([0, 1, 1, 0, 0, 1, 0, 1], [10, 9, 8, 1]), ([1, 1, 1, 0, 0, 1, 0, 1], [10, 9, 8, 1]), ([1, 0, 1], []), ([0, 1, 1], [4]), ([1, 1, 1], [4])]

def E_6 (N : Nat) : Env := z3w tys glob [] [] [] [] false [] []

theorem Eok_6 (N : Nat) : EnvOk Tryd.prog (E_6 N) := zn mixed z1v (FnsOk.nil) (ItsOk.nil)

def za9 (N : Nat) (kind : Int) (x8 : (List Tree)) (x9 : Int) (x10 : Int) (rec : Int -> Option Bool) (k0 : Bool -> Option Bool) (k1 : Option Bool) : Option Bool :=
 cond (decide (x10 < x9))
 (cond (inR x10 (List.length x8))
 (cond ((unN (List.getD x8 (Int.toNat x10) (Tree.mk (0 : Int) ([] : List Int) ([] : List Tree) (0 : Int) (0 : Int)))).1 == kind)
 (k0 true)
 (rec (IntKind.wrap IntKind.i64 (x10 + (1 : Int)))))
 (none))
 (k1)

def zdl (N : Nat) (kind : Int) (x8 : (List Tree)) (x9 : Int) (x10 : Int) (k0 : Bool -> Option Bool) (k1 : Option Bool) : Option Bool :=
 iter (fun (v : Int) r => za9 N kind x8 x9 v (fun x10 => (r x10)) k0 k1) N x10

def g1_6 (N : Nat) (i : (Int × (List Tree) × Int)) (v : Int) (r : Int -> Option Bool) (K : Ex -> List A -> Option Bool) : Option Bool :=
 za9 N i.1 i.2.1 i.2.2 v (fun x10 => (r x10)) (fun a0 => (K .ret (mkS [(4, .v .bool)] 14 (a0, ())))) (K (.exit 0) (mkS [] 19 ()))

def h1_6 (N : Nat) : Hd Bool := fun st K => (unS [(1, .v (.int .i64)), (6, .v (.sl .nod)), (0, .v (.int .i64)), (0, .v (.int .i64))] 8 (restr [10, 9, 8, 1] 0 st)).bind fun x => iter (fun v r => g1_6 N ((fun x => (x.1, x.2.1, x.2.2.1)) x) v r K) N ((fun x => x.2.2.2.1) x)

def t1_6 (N : Nat) : Tab Bool := []

theorem ok1_6 {N : Nat} {c : Ctx} (hb : Base Tryd.prog (E_6 N) c) : z14 Tryd.prog c (zd zwv [0, 1, 0, 1]) (h1_6 N) :=
  z8n (s := [(1, .v (.int .i64)), (6, .v (.sl .nod)), (0, .v (.int .i64)), (0, .v (.int .i64))]) (m := 8) (g1_6 N) [10, 9, 8, 1] N (fun x => (x.1, x.2.1, x.2.2.1)) (fun x => x.2.2.2.1) (fun i v => (i.1, i.2.1, i.2.2, v, ())) (fun _ => rfl) (zg hb N (t1_6 N) L_6 zwv TabOk.nil [0, 0, 1, 0, 1] _ rfl) (fun i v r K => by kernel_rfl)

def z87 (N : Nat) (n : DT1) (kind : Int) : Option Bool :=
 zdl N kind n.2.2.1 (((List.length n.2.2.1) : Nat) : Int) (0 : Int)
 (fun x4 => some x4)
 (some false)

def t_6 (N : Nat) : Tab Bool := [([0, 1, 0, 1], h1_6 N)]

theorem z16l (N : Nat) (x : z1p [(0, .v TT0), (0, .v (.int .i64))]) : zc6 (E_6 N) N (t_6 N) L_6 Tryd.f23 (mkS [(0, .v TT0), (0, .v (.int .i64))] 0 x) (zc5 (.v .bool) 2) = z87 N x.1 x.2.1 := by kernel_rfl

def zd1 (N : Nat) : List A -> Res := z1z [(0, .v TT0), (0, .v (.int .i64))] (fun x => z87 N x.1 x.2.1) (zfe (.v .bool) 2)

theorem zj2 (N : Nat) : Contract Tryd.prog glob 23 (zd1 N) :=
  Contract.of (E := E_6 N) (H := t_6 N) (L := L_6) (N := N) (body := zwv) (K := (zc5 (.v .bool) 2)) (Eok_6 N) Tryd.func23 (by kernel_rfl) (by decide) (fun _ hb => (TabOk.cons (ok1_6 hb) TabOk.nil)) (fun x y h => by rw [z16l]; exact h) (z5p (s := (.v .bool)) (m := 2))

def zoy : Code := (Tryd.f24.body).getD .skip

def L_7 : List (List Nat × List Nat) := [([0], [0, 1]), ([0, 0, 1], [10, 1, 0]), ([1, 0, 1], [1, 0]), ([0, 0, 1, 0, 1], [4]), ([1, 0, 1, 0, 1], [4]), ([0, 1, 1], [4]), ([1, 1, 1], [4])]

def E_7 (N : Nat) : Env := z3w tys glob [] [] [] [] false [] []

theorem Eok_7 (N : Nat) : EnvOk Tryd.prog (E_7 N) := zn mixed z1v (FnsOk.nil) (ItsOk.nil)

def zba (N : Nat) (low : Int) (high : Int) (k0 : Bool -> Option Bool) : Option Bool :=
 cond (decide (low < (0 : Int)))
 (k0 true)
 (k0 (decide ((16 : Int) < low)))

def g2_7 (N : Nat) (x : z1p SQ7) (K : Ex -> List A -> Option Bool) : Option Bool :=
 zba N x.1 x.2.1 (fun a2 => (K .normal (mkS [(0, .v (.int .i64)), (0, .v (.int .i64)), (8, .v .bool)] 12 (x.1, x.2.1, a2, ()))))

def h2_7 (N : Nat) : Hd Bool := fun st K => (unS SQ7 21 (restr [0, 1] 0 st)).bind fun x => g2_7 N x K

def t2_7 (N : Nat) : Tab Bool := []

theorem ok2_7 {N : Nat} {c : Ctx} (hb : Base Tryd.prog (E_7 N) c) : z14 Tryd.prog c (zd zoy [0, 0, 1]) (h2_7 N) :=
  z16 (s := SQ7) (m := 21) (g := g2_7 N) [0, 1] (zg hb N (t2_7 N) L_7 zoy TabOk.nil [0, 0, 1] _ rfl) (fun x K => by kernel_rfl)

def zbb (N : Nat) (low : Int) (high : Int) (k0 : Bool -> Option Bool) (k1 : Option Bool) : Option Bool :=
 zba N low high
 (fun x10 => cond x10
 (k0 false)
 (k1))

def g1_7 (N : Nat) (x : z1p SQ7) (K : Ex -> List A -> Option Bool) : Option Bool :=
 zbb N x.1 x.2.1 (fun a0 => (K .ret (mkS [(4, .v .bool)] 18 (a0, ())))) (K .normal (mkS SQ7 21 (x.1, x.2.1, ())))

def h1_7 (N : Nat) : Hd Bool := fun st K => (unS SQ7 21 (restr [0, 1] 0 st)).bind fun x => g1_7 N x K

def t1_7 (N : Nat) : Tab Bool := [([0, 0, 1], h2_7 N)]

theorem ok1_7 {N : Nat} {c : Ctx} (hb : Base Tryd.prog (E_7 N) c) : z14 Tryd.prog c (zd zoy [0, 1]) (h1_7 N) :=
  z16 (s := SQ7) (m := 21) (g := g1_7 N) [0, 1] (zg hb N (t1_7 N) L_7 zoy (TabOk.cons (ok2_7 hb) TabOk.nil) [0, 1] _ rfl) (fun x K => by kernel_rfl)

def zaa (N : Nat) (low : Int) (high : Int) : Option Bool :=
 zbb N low high
 (fun x4 => some x4)
 (cond (high == (-(1 : Int)))
 (some true)
 (cond (decide ((if ((1 : Int) > low) then (1 : Int) else low) <= high))
 (some (decide (high <= (16 : Int))))
 (some false)))

def t_7 (N : Nat) : Tab Bool := [([0, 1], h1_7 N)]

theorem z16k (N : Nat) (x : z1p SQ7) : zc6 (E_7 N) N (t_7 N) L_7 Tryd.f24 (mkS SQ7 0 x) (zc5 (.v .bool) 2) = zaa N x.1 x.2.1 := by kernel_rfl

def zdm (N : Nat) : List A -> Res := z1z SQ7 (fun x => zaa N x.1 x.2.1) (zfe (.v .bool) 2)

theorem zke (N : Nat) : Contract Tryd.prog glob 24 (zdm N) :=
  Contract.of (E := E_7 N) (H := t_7 N) (L := L_7) (N := N) (body := zoy) (K := (zc5 (.v .bool) 2)) (Eok_7 N) Tryd.func24 (by kernel_rfl) (by decide) (fun _ hb => (TabOk.cons (ok1_7 hb) TabOk.nil)) (fun x y h => by rw [z16k]; exact h) (z5p (s := (.v .bool)) (m := 2))

def zwu : Code := (Tryd.f16.body).getD .skip

def L_8 : List (List Nat × List Nat) := [([0], [1]), ([0, 1], [1, 4, 3]), ([0, 0, 1, 1], [18, 1, 4, 3]), ([0, 0, 1, 0, 1, 1], [19, 1, 4, 18, 3]), ([1, 0, 1, 0, 1, 1], []), (z135, [28, 3, 4, 1, 18]), ([1, 1, 1, 0, 1, 0, 1, 1], []), ([0, 1, 1, 1, 1, 0, 1, 0, 1, 1], [45, 3, 4, 1, 18]), ([1, 1, 1, 1, 1, 0, 1, 0, 1, 1], []), ([0, 1, 1, 1, 1, 1, 1, 0, 1, 0, 1, 1], [62, 3, 1]), ([1, 1, 1, 1, 1, 1, 1, 0, 1, 0, 1, 1], []), ([0, 0, 1, 1, 1, 1, 1, 1, 1, 0, 1, 0, 1, 1], [2]), ([1, 0, 1, 1, 1, 1, 1, 1, 1, 0, 1, 0, 1, 1], [2]), ([0, 0, 1, 1, 1, 1, 1, 0, 1, 0, 1, 1], [2]), ([1, 0, 1, 1, 1, 1, 1, 0, 1, 0, 1, 1], [2]), ([0, 0, 1, 1, 1, 0, 1, 0, 1, 1], [2]), ([1, 0, 1, 1, 1, 0, 1, 0, 1, 1], [2]), ([0, 0, 1, 0, 1, 0, 1, 1], [2]), ([1, 0, 1, 0, 1, 0, 1, 1], [2]), ([1, 0, 1, 1], []), ([0, 1, 1, 1], [2]), ([1, 1, 1, 1], [2])]

def E_8 (N : Nat) : Env := z3w tys glob [(24, zdm N), (23, zd1 N)] [] [] [] false [] []

theorem Eok_8 (N : Nat) : EnvOk Tryd.prog (E_8 N) := zn mixed z1v (FnsOk.cons (zke N) (FnsOk.cons (zj2 N) (FnsOk.nil))) (ItsOk.nil)

def zab (N : Nat) (n : DT1) (k0 : Bool -> Bool -> Option Bool) : Option Bool :=
 cond (n.2.2.2.1 == (0 : Int))
 (k0 (eqD (T.arr 4 (T.int IntKind.u64)) n.2.1 ([(0 : Int), (0 : Int), (0 : Int), (0 : Int)] : List Int)) (n.2.2.2.2.1 == (0 : Int)))
 (k0 (eqD (T.arr 4 (T.int IntKind.u64)) n.2.1 ([(0 : Int), (0 : Int), (0 : Int), (0 : Int)] : List Int)) false)

def g1_8 (N : Nat) (x : z1p [(1, .box TT0)]) (K : Ex -> List A -> Option Bool) : Option Bool :=
 zab N x.1 (fun a1 a2 => (K .normal (mkS [(1, .box TT0), (1, .v .bool), (0, .v .bool)] 73 (x.1, a1, a2, ()))))

def h1_8 (N : Nat) : Hd Bool := fun st K => (unS [(1, .box TT0)] 76 (restr [1] 0 st)).bind fun x => g1_8 N x K

def t1_8 (N : Nat) : Tab Bool := []

theorem ok1_8 {N : Nat} {c : Ctx} (hb : Base Tryd.prog (E_8 N) c) : z14 Tryd.prog c (zd zwu [0, 1]) (h1_8 N) :=
  z16 (s := [(1, .box TT0)]) (m := 76) (g := g1_8 N) [1] (zg hb N (t1_8 N) L_8 zwu TabOk.nil [0, 1] _ rfl) (fun x K => by kernel_rfl)

def z9b (N : Nat) (n : DT1) : Option Bool :=
 zab N n
 (fun empty once => cond (n.1 == (1 : Int))
 (cond ((((List.length n.2.2.1) : Nat) : Int) == (0 : Int))
 (some once)
 (some false))
 (cond (n.1 == (2 : Int))
 (cond empty
 (cond once
 (cond ((((List.length n.2.2.1) : Nat) : Int) != (1 : Int))
 ((z87 N n (2 : Int)).bind fun y =>
 some (!y))
 (some false))
 (some false))
 (some false))
 (cond (n.1 == (3 : Int))
 (cond empty
 (cond once
 (cond (decide ((2 : Int) <= (((List.length n.2.2.1) : Nat) : Int)))
 ((z87 N n (3 : Int)).bind fun y1 =>
 some (!y1))
 (some false))
 (some false))
 (some false))
 (cond (n.1 == (4 : Int))
 (cond empty
 (cond ((((List.length n.2.2.1) : Nat) : Int) == (1 : Int))
 ((zaa N n.2.2.2.1 n.2.2.2.2.1).bind fun y2 =>
 some y2)
 (some false))
 (some false))
 (some false)))))

def t_8 (N : Nat) : Tab Bool := [([0, 1], h1_8 N)]

theorem z16j (N : Nat) (x : z1p [(0, .v TT0)]) : zc6 (E_8 N) N (t_8 N) L_8 Tryd.f16 (mkS [(0, .v TT0)] 0 x) (zc5 (.v .bool) 1) = z9b N x.1 := by kernel_rfl

def zd2 (N : Nat) : List A -> Res := z1z [(0, .v TT0)] (fun x => z9b N x.1) (zfe (.v .bool) 1)

theorem zj3 (N : Nat) : Contract Tryd.prog glob 16 (zd2 N) :=
  Contract.of (E := E_8 N) (H := t_8 N) (L := L_8) (N := N) (body := zwu) (K := (zc5 (.v .bool) 1)) (Eok_8 N) Tryd.func16 (by kernel_rfl) (by decide) (fun _ hb => (TabOk.cons (ok1_8 hb) TabOk.nil)) (fun x y h => by rw [z16j]; exact h) (z5p (s := (.v .bool)) (m := 1))

def zsi : Code := (Tryd.f9.body).getD .skip

def L_9 : List (List Nat × List Nat) := [([0], [1]), ([0, 0, 1], [7, 1]), ([1, 0, 1], [1]), ([0, 0, 1, 0, 1], [2]), ([1, 0, 1, 0, 1], [2]), ([0, 0, 1, 1], [11, 10, 9]), ([0, 1, 0, 1, 1], [11, 10, 9]), (zyq, [12, 9, 11, 10]), (z13s, [9, 11, 10]), (PQ93, []), (PQ91, [4, 11, 10, 9]), ([0, 1, 0, 0, 1, 1, 0, 0, 1, 0, 1, 1], [17, 11, 10, 9]), ([1, 1, 0, 0, 1, 1, 0, 0, 1, 0, 1, 1], [11, 10, 9]), ([0, 0, 1, 1, 0, 0, 1, 1, 0, 0, 1, 0, 1, 1], [2]), ([1, 0, 1, 1, 0, 0, 1, 1, 0, 0, 1, 0, 1, 1], [2]), (zyu, [11, 10, 9]), (zyt, [11, 10, 9]), ([1, 0, 1, 1], []), ([0, 1, 1, 1], [2]), ([1, 1, 1, 1], [2])]

def E_9 (N : Nat) (self : DT1 -> Option Bool) : Env := z3w tys glob [(16, zd2 N), (9, z1z [(0, .v TT0)] (fun x => self x.1) (zfe (.v .bool) 1))] [] [] [] false [] []

theorem Eok_9 (N : Nat) (self : DT1 -> Option Bool) (hself : Contract Tryd.prog glob 9 (z1z [(0, .v TT0)] (fun x => self x.1) (zfe (.v .bool) 1))) : EnvOk Tryd.prog (E_9 N self) := zn mixed z1v (FnsOk.cons (zj3 N) (FnsOk.cons (hself) (FnsOk.nil))) (ItsOk.nil)

def zbe (N : Nat) (self : DT1 -> Option Bool) (x9 : (List Tree)) (x10 : Int) (x11 : Int) (rec : Int -> Option Bool) (k0 : Bool -> Option Bool) (k1 : Option Bool) : Option Bool :=
 cond (decide (x11 < x10))
 (cond (inR x11 (List.length x9))
 ((self (unN (List.getD x9 (Int.toNat x11) (Tree.mk (0 : Int) ([] : List Int) ([] : List Tree) (0 : Int) (0 : Int))))).bind fun y =>
 cond (!y)
 (k0 false)
 (rec (IntKind.wrap IntKind.i64 (x11 + (1 : Int)))))
 (none))
 (k1)

def zev (N : Nat) (self : DT1 -> Option Bool) (x9 : (List Tree)) (x10 : Int) (x11 : Int) (k0 : Bool -> Option Bool) (k1 : Option Bool) : Option Bool :=
 iter (fun (v : Int) r => zbe N self x9 x10 v (fun x11 => (r x11)) k0 k1) N x11

def g1_9 (N : Nat) (self : DT1 -> Option Bool) (i : ((List Tree) × Int)) (v : Int) (r : Int -> Option Bool) (K : Ex -> List A -> Option Bool) : Option Bool :=
 zbe N self i.1 i.2 v (fun x11 => (r x11)) (fun a0 => (K .ret (mkS [(2, .v .bool)] 16 (a0, ())))) (K (.exit 0) (mkS [] 19 ()))

def h1_9 (N : Nat) (self : DT1 -> Option Bool) : Hd Bool := fun st K => (unS [(9, .v (.sl .nod)), (0, .v (.int .i64)), (0, .v (.int .i64))] 7 (restr [11, 10, 9] 0 st)).bind fun x => iter (fun v r => g1_9 N self ((fun x => (x.1, x.2.1)) x) v r K) N ((fun x => x.2.2.1) x)

def t1_9 (N : Nat) (self : DT1 -> Option Bool) : Tab Bool := []

theorem ok1_9 {N : Nat} {self : DT1 -> Option Bool} {c : Ctx} (hb : Base Tryd.prog (E_9 N self) c) : z14 Tryd.prog c (zd zsi [0, 1, 0, 1, 1]) (h1_9 N self) :=
  z8n (s := [(9, .v (.sl .nod)), (0, .v (.int .i64)), (0, .v (.int .i64))]) (m := 7) (g1_9 N self) [11, 10, 9] N (fun x => (x.1, x.2.1)) (fun x => x.2.2.1) (fun i v => (i.1, i.2, v, ())) (fun _ => rfl) (zg hb N (t1_9 N self) L_9 zsi TabOk.nil [0, 0, 1, 0, 1, 1] _ rfl) (fun i v r K => by kernel_rfl)

def z9w (N : Nat) (self : DT1 -> Option Bool) (n : DT1) : Option Bool :=
 (z9b N n).bind fun y =>
 cond (!y)
 (some false)
 (zev N self n.2.2.1 (((List.length n.2.2.1) : Nat) : Int) (0 : Int)
 (fun x2 => some x2)
 (some true))

def t_9 (N : Nat) (self : DT1 -> Option Bool) : Tab Bool := [([0, 1, 0, 1, 1], h1_9 N self)]

theorem z16i (N : Nat) (self : DT1 -> Option Bool) (x : z1p [(0, .v TT0)]) : zc6 (E_9 N self) N (t_9 N self) L_9 Tryd.f9 (mkS [(0, .v TT0)] 0 x) (zc5 (.v .bool) 1) = z9w N self x.1 := by kernel_rfl

def z5o : Nat -> DT1 -> Option Bool
  | 0 => fun _ => none
  | N + 1 => z9w (N + 1) (z5o N)

def zdn (N : Nat) : List A -> Res := z1z [(0, .v TT0)] (fun x => z5o N x.1) (zfe (.v .bool) 1)

theorem zew : ∀ N : Nat, Contract Tryd.prog glob 9 (zdn N)
  | 0 => Contract.zero Tryd.func9 (body := zsi) (by kernel_rfl) (by decide) (fun _ => rfl)
  | N + 1 => Contract.of (E := E_9 (N + 1) (z5o N)) (H := t_9 (N + 1) (z5o N)) (L := L_9) (N := (N + 1)) (body := zsi) (K := (zc5 (.v .bool) 1)) (Eok_9 (N + 1) (z5o N) (zew N)) Tryd.func9 (by kernel_rfl) (by decide) (fun _ hb => (TabOk.cons (ok1_9 hb) TabOk.nil)) (fun x y h => by rw [z16i]; exact h) (z5p (s := (.v .bool)) (m := 1))

def zqz : Code := (Tryd.f56.body).getD .skip

def L_10 : List (List Nat × List Nat) := [([0], [0]), ([0, 0, 1], [12, 0]), ([1, 0, 1], [0]), ([0, 1, 0, 1], [0]), ([0, 1, 1], [2, 0]), ([1, 1, 1], [2, 0])]

def E_10 (N : Nat) : Env := z3w tys glob [] [] [] [0] false [] []

theorem z1ch (N : Nat) : EnvOk Tryd.prog (E_10 N) := zn mixed z1v (FnsOk.nil) (ItsOk.nil)

def z74 (N : Nat) (p : DT5) (k0 : Option (Int × (DT5 × Unit))) : Option (Int × (DT5 × Unit)) :=
 cond (p.2.1 == (((List.length p.1) : Nat) : Int))
 (none)
 (k0)

def z1am (N : Nat) (x : z1p [(0, .box TT4)]) (K : Ex -> List A -> Option (Int × (DT5 × Unit))) : Option (Int × (DT5 × Unit)) :=
 z74 N x.1 (K .normal (mkS [(0, .box TT4)] 27 (x.1, ())))

def z18o (N : Nat) : Hd (Int × (DT5 × Unit)) := fun st K => (unS [(0, .box TT4)] 27 (restr [0] 0 st)).bind fun x => z1am N x K

def t1_10 (N : Nat) : Tab (Int × (DT5 × Unit)) := []

theorem z16b {N : Nat} {c : Ctx} (hb : Base Tryd.prog (E_10 N) c) : z14 Tryd.prog c (zd zqz [0, 1]) (z18o N) :=
  z16 (s := [(0, .box TT4)]) (m := 27) (g := z1am N) [0] (zg hb N (t1_10 N) L_10 zqz TabOk.nil [0, 1] _ rfl) (fun x K => by kernel_rfl)

def zz (N : Nat) (p : DT5) : Option (Int × (DT5 × Unit)) :=
 z74 N p
 (cond (inR p.2.1 (List.length p.1))
 (some ((((UInt8.toNat (List.getD p.1 (Int.toNat p.2.1) (0 : UInt8))) : Nat) : Int), (p, ())))
 (none))

def t_10 (N : Nat) : Tab (Int × (DT5 × Unit)) := [([0, 1], z18o N)]

theorem z12c (N : Nat) (x : z1p [(0, .box TT4)]) : zc6 (E_10 N) N (t_10 N) L_10 Tryd.f56 (mkS [(0, .box TT4)] 0 x) (z7o (.v (.int .u8)) [(0, .box TT4)] 0) = zz N x.1 := by kernel_rfl

def zy (N : Nat) : List A -> Res := z1z [(0, .box TT4)] (fun x => zz N x.1) (z8h (.v (.int .u8)) [(0, .box TT4)] 0)

theorem z19 (N : Nat) : Contract Tryd.prog glob 56 (zy N) :=
  Contract.of (E := E_10 N) (H := t_10 N) (L := L_10) (N := N) (body := zqz) (K := (z7o (.v (.int .u8)) [(0, .box TT4)] 0)) (z1ch N) Tryd.func56 (by kernel_rfl) (by decide) (fun _ hb => (TabOk.cons (z16b hb) TabOk.nil)) (fun x y h => by rw [z12c]; exact h) (z5q (s := (.v (.int .u8))) (os := [(0, .box TT4)]) (m := 0))

def zqy : Code := (Tryd.f46.body).getD .skip

def L_11 : List (List Nat × List Nat) := [([0, 0], [7, 0]), ([1, 0], [0]), ([0, 1, 0], [0]), ([1], [0])]

def E_11 (N : Nat) : Env := z3w tys glob [(56, zy N)] [] [] [0] false [] []

theorem z1cg (N : Nat) : EnvOk Tryd.prog (E_11 N) := zn mixed z1v (FnsOk.cons (z19 N) (FnsOk.nil)) (ItsOk.nil)

def z75 (N : Nat) (p : DT5) (b : Int) (k0 : DT5 -> Option ((Unit) × (DT5 × Unit))) : Option ((Unit) × (DT5 × Unit)) :=
 (zz N p).bind fun y =>
 cond (y.1 != b)
 (none)
 (k0 y.2.1)

def z1al (N : Nat) (x : z1p zko) (K : Ex -> List A -> Option ((Unit) × (DT5 × Unit))) : Option ((Unit) × (DT5 × Unit)) :=
 z75 N x.1 x.2.1 (fun a0 => (K .normal (mkS [(0, .box TT4)] 20 (a0, ()))))

def z18n (N : Nat) : Hd ((Unit) × (DT5 × Unit)) := fun st K => (unS zko 19 (restr [0, 1] 0 st)).bind fun x => z1al N x K

def t1_11 (N : Nat) : Tab ((Unit) × (DT5 × Unit)) := []

theorem z16a {N : Nat} {c : Ctx} (hb : Base Tryd.prog (E_11 N) c) : z14 Tryd.prog c (zd zqy [0]) (z18n N) :=
  z16 (s := zko) (m := 19) (g := z1al N) [0, 1] (zg hb N (t1_11 N) L_11 zqy TabOk.nil [0] _ rfl) (fun x K => by kernel_rfl)

def zq (N : Nat) (p : DT5) (b : Int) : Option ((Unit) × (DT5 × Unit)) :=
 z75 N p b
 (fun p1 => some ((), ((p1.1, ((IntKind.wrap IntKind.i64 (p1.2.1 + (1 : Int))), p1.2.2)), ())))

def t_11 (N : Nat) : Tab ((Unit) × (DT5 × Unit)) := [([0], z18n N)]

theorem z12b (N : Nat) (x : z1p zko) : zc6 (E_11 N) N (t_11 N) L_11 Tryd.f46 (mkS zko 0 x) (z7o (.tup []) [(0, .box TT4)] 1) = zq N x.1 x.2.1 := by kernel_rfl

def z1e (N : Nat) : List A -> Res := z1z zko (fun x => zq N x.1 x.2.1) (z8h (.tup []) [(0, .box TT4)] 1)

theorem z1r (N : Nat) : Contract Tryd.prog glob 46 (z1e N) :=
  Contract.of (E := E_11 N) (H := t_11 N) (L := L_11) (N := N) (body := zqy) (K := (z7o (.tup []) [(0, .box TT4)] 1)) (z1cg N) Tryd.func46 (by kernel_rfl) (by decide) (fun _ hb => (TabOk.cons (z16a hb) TabOk.nil)) (fun x y h => by rw [z12b]; exact h) (z5q (s := (.tup [])) (os := [(0, .box TT4)]) (m := 1))

abbrev z8 : Type := DT5 -> Option (DT1 × (DT5 × Unit))

def zqx : Code := (Tryd.f39.body).getD .skip

def L_12 : List (List Nat × List Nat) := [([0], [0, 2]), ([0, 0, 1], [8, 0, 2]), ([1, 0, 1], [0, 2]), ([0, 1, 0, 1], [0, 2]), ([0, 1, 1], [0, 2]), ([0, 1, 1, 1], [0, 2]), ([0, 1, 1, 1, 1], [0, 3, 2]), ([0, 1, 1, 1, 1, 1], [0, 3, 2]), (ztx, [3, 2, 0]), (z13q, [2, 0]), (z13p, [2, 0])]

def E_12 (N : Nat) (self : z8) : Env := z3w tys glob [(46, z1e N), (19, z1z [(0, .box TT4)] (fun x => self x.1) (z8h (.v TT0) [(0, .box TT4)] 0))] [] [] [0] false [] []

theorem z1cf (N : Nat) (self : z8) (hself : Contract Tryd.prog glob 19 (z1z [(0, .box TT4)] (fun x => self x.1) (z8h (.v TT0) [(0, .box TT4)] 0))) : EnvOk Tryd.prog (E_12 N self) := zn mixed z1v (FnsOk.cons (z1r N) (FnsOk.cons (hself) (FnsOk.nil))) (ItsOk.nil)

def z6e (N : Nat) (self : z8) (p : DT5) (x2 : DT1) (k0 : Option (DT1 × (DT5 × Unit))) : Option (DT1 × (DT5 × Unit)) :=
 cond (p.2.2.1 == (16 : Int))
 (none)
 (k0)

def z1ak (N : Nat) (self : z8) (x : z1p zzz) (K : Ex -> List A -> Option (DT1 × (DT5 × Unit))) : Option (DT1 × (DT5 × Unit)) :=
 z6e N self x.1 x.2.1 (K .normal (mkS zzz 33 (x.1, x.2.1, ())))

def z18m (N : Nat) (self : z8) : Hd (DT1 × (DT5 × Unit)) := fun st K => (unS zzz 33 (restr [0, 2] 0 st)).bind fun x => z1ak N self x K

def t1_12 (N : Nat) (self : z8) : Tab (DT1 × (DT5 × Unit)) := []

theorem z169 {N : Nat} {self : z8} {c : Ctx} (hb : Base Tryd.prog (E_12 N self) c) : z14 Tryd.prog c (zd zqx [0, 1]) (z18m N self) :=
  z16 (s := zzz) (m := 33) (g := z1ak N self) [0, 2] (zg hb N (t1_12 N self) L_12 zqx TabOk.nil [0, 1] _ rfl) (fun x K => by kernel_rfl)

def z3m (N : Nat) (self : z8) (p : DT5) : Option (DT1 × (DT5 × Unit)) :=
 z6e N self p ((0 : Int), (([(0 : Int), (0 : Int), (0 : Int), (0 : Int)] : List Int), (([] : List Tree), ((0 : Int), ((0 : Int), ())))))
 ((zq N (p.1, (p.2.1, ((IntKind.wrap IntKind.i64 (p.2.2.1 + (1 : Int))), p.2.2.2))) (40 : Int)).bind fun y =>
 (self y.2.1).bind fun y1 =>
 (zq N y1.2.1 (41 : Int)).bind fun y2 =>
 some (y1.1, ((y2.2.1.1, (y2.2.1.2.1, ((IntKind.wrap IntKind.i64 (y2.2.1.2.2.1 - (1 : Int))), y2.2.1.2.2.2))), ())))

def t_12 (N : Nat) (self : z8) : Tab (DT1 × (DT5 × Unit)) := [([0, 1], z18m N self)]

theorem z12a (N : Nat) (self : z8) (x : z1p [(0, .box TT4)]) : zc6 (E_12 N self) N (t_12 N self) L_12 Tryd.f39 (mkS [(0, .box TT4)] 0 x) (z7o (.v TT0) [(0, .box TT4)] 0) = z3m N self x.1 := by kernel_rfl

def z61 (N : Nat) (self : z8) : List A -> Res := z1z [(0, .box TT4)] (fun x => z3m N self x.1) (z8h (.v TT0) [(0, .box TT4)] 0)

theorem z9d (N : Nat) (self : z8) (hself : Contract Tryd.prog glob 19 (z1z [(0, .box TT4)] (fun x => self x.1) (z8h (.v TT0) [(0, .box TT4)] 0))) : Contract Tryd.prog glob 39 (z61 N self) :=
  Contract.of (E := E_12 N self) (H := t_12 N self) (L := L_12) (N := N) (body := zqx) (K := (z7o (.v TT0) [(0, .box TT4)] 0)) (z1cf N self hself) Tryd.func39 (by kernel_rfl) (by decide) (fun _ hb => (TabOk.cons (z169 hb) TabOk.nil)) (fun x y h => by rw [z12a]; exact h) (z5q (s := (.v TT0)) (os := [(0, .box TT4)]) (m := 0))

def z12x : Code := (Tryd.f52.body).getD .skip

def L_13 : List (List Nat × List Nat) := [([0], [1, 2, 4]), ([0, 1], [2, 4]), ([0, 1, 1], [4]), ([1, 1, 1], [4])]

def E_13 (N : Nat) : Env := z3w tys glob [] [] [] [] false [] []

theorem z1ce (N : Nat) : EnvOk Tryd.prog (E_13 N) := zn mixed z1v (FnsOk.nil) (ItsOk.nil)

def z8g (N : Nat) (s : (List Int)) (b : Int) : Option (List Int) :=
 cond (inR (IntKind.wrap IntKind.u8 (Int.tdiv b (64 : Int))) 4)
 (cond (decide ((Int.toNat (IntKind.wrap IntKind.u8 (Int.tdiv b (64 : Int)))) < (List.length s)))
 (cond (decide ((0 : Int) <= (Int.tmod b (64 : Int))))
 (cond (inR (IntKind.wrap IntKind.u8 (Int.tdiv b (64 : Int))) 4)
 (cond (decide ((Int.toNat (IntKind.wrap IntKind.u8 (Int.tdiv b (64 : Int)))) < (List.length s)))
 (some (List.set s (Int.toNat (IntKind.wrap IntKind.u8 (Int.tdiv b (64 : Int)))) (bitsOp Go.BinOp.or IntKind.u64 (List.getD s (Int.toNat (IntKind.wrap IntKind.u8 (Int.tdiv b (64 : Int)))) (0 : Int)) (shlI IntKind.u64 (1 : Int) (Int.tmod b (64 : Int))))))
 (none))
 (none))
 (none))
 (none))
 (none)

def t_13 (N : Nat) : Tab (List Int) := []

theorem z129 (N : Nat) (x : z1p SQ98) : zc6 (E_13 N) N (t_13 N) L_13 Tryd.f52 (mkS SQ98 0 x) (zc5 (.v (.arr 4 (.int .u64))) 2) = z8g N x.1 x.2.1 := by kernel_rfl

def z9k (N : Nat) : List A -> Res := z1z SQ98 (fun x => z8g N x.1 x.2.1) (zfe (.v (.arr 4 (.int .u64))) 2)

theorem ze2 (N : Nat) : Contract Tryd.prog glob 52 (z9k N) :=
  Contract.of (E := E_13 N) (H := t_13 N) (L := L_13) (N := N) (body := z12x) (K := (zc5 (.v (.arr 4 (.int .u64))) 2)) (z1ce N) Tryd.func52 (by kernel_rfl) (by decide) (fun _ hb => TabOk.nil) (fun x y h => by rw [z129]; exact h) (z5p (s := (.v (.arr 4 (.int .u64)))) (m := 2))

def zqw : Code := (Tryd.f41.body).getD .skip

def L_14 : List (List Nat × List Nat) := [([0], [0, 1, 4]), ([0, 1], [0, 1, 5, 4]), ([0, 0, 1, 1], [6, 1, 5, 4]), ([0, 1, 0, 1, 1], [6, 1, 5, 4]), (PQ86, [12, 5, 6, 1, 4]), (PQ87, [5, 6, 1, 4]), (PQ80, [5, 4]), ([0, 0, 1, 0, 0, 1, 0, 1, 1], [6, 1, 5, 4]), (z13s, [6, 1, 5, 4]), (PQ88, [6, 1, 5, 4]), ([1, 0, 1, 1], [5, 4]), ([0, 1, 1, 1], [4]), ([1, 1, 1, 1], [4])]

def E_14 (N : Nat) : Env := z3w tys glob [(52, z9k N)] [] [] [] false [] []

theorem z1cd (N : Nat) : EnvOk Tryd.prog (E_14 N) := zn mixed z1v (FnsOk.cons (ze2 N) (FnsOk.nil)) (ItsOk.nil)

def za0 (N : Nat) (hi : Int) (x4 : (List Int)) (s : (List Int)) (b : Int) (rec : (List Int) -> Int -> Option (List Int)) (k0 : (List Int) -> Option (List Int)) : Option (List Int) :=
 cond (decide (b <= (IntKind.wrap IntKind.i64 hi)))
 ((z8g N s (IntKind.wrap IntKind.u8 b)).bind fun y =>
 rec y (IntKind.wrap IntKind.i64 (b + (1 : Int))))
 (k0 s)

def zgk (N : Nat) (hi : Int) (x4 : (List Int)) (s : (List Int)) (b : Int) (k0 : (List Int) -> Option (List Int)) : Option (List Int) :=
 iter (fun (v : ((List Int) × Int)) r => za0 N hi x4 v.1 v.2 (fun s b => (r (s, b))) k0) N (s, b)

def z1aj (N : Nat) (i : (Int × (List Int))) (v : ((List Int) × Int)) (r : ((List Int) × Int) -> Option (List Int)) (K : Ex -> List A -> Option (List Int)) : Option (List Int) :=
 za0 N i.1 i.2 v.1 v.2 (fun s b => (r (s, b))) (fun a1 => (K (.exit 0) (mkS [(4, .box (.arr 4 (.int .u64))), (0, .box (.arr 4 (.int .u64)))] 14 (i.2, a1, ()))))

def z18l (N : Nat) : Hd (List Int) := fun st K => (unS SQ75 13 (restr [6, 1, 5, 4] 0 st)).bind fun x => iter (fun v r => z1aj N ((fun x => (x.1, x.2.1)) x) v r K) N ((fun x => (x.2.2.1, x.2.2.2.1)) x)

def t1_14 (N : Nat) : Tab (List Int) := []

theorem z168 {N : Nat} {c : Ctx} (hb : Base Tryd.prog (E_14 N) c) : z14 Tryd.prog c (zd zqw [0, 1, 0, 1, 1]) (z18l N) :=
  z8n (s := SQ75) (m := 13) (z1aj N) [6, 1, 5, 4] N (fun x => (x.1, x.2.1)) (fun x => (x.2.2.1, x.2.2.2.1)) (fun i v => (i.1, i.2, v.1, v.2, ())) (fun _ => rfl) (zg hb N (t1_14 N) L_14 zqw TabOk.nil [0, 0, 1, 0, 1, 1] _ rfl) (fun i v r K => by kernel_rfl)

def z2a (N : Nat) (lo : Int) (hi : Int) : Option (List Int) :=
 zgk N hi ([(0 : Int), (0 : Int), (0 : Int), (0 : Int)] : List Int) ([(0 : Int), (0 : Int), (0 : Int), (0 : Int)] : List Int) (IntKind.wrap IntKind.i64 lo)
 (fun s => some s)

def t_14 (N : Nat) : Tab (List Int) := [([0, 1, 0, 1, 1], z18l N)]

theorem z128 (N : Nat) (x : z1p [(0, .v (.int .u8)), (0, .v (.int .u8))]) : zc6 (E_14 N) N (t_14 N) L_14 Tryd.f41 (mkS [(0, .v (.int .u8)), (0, .v (.int .u8))] 0 x) (zc5 (.v (.arr 4 (.int .u64))) 2) = z2a N x.1 x.2.1 := by kernel_rfl

def z3e (N : Nat) : List A -> Res := z1z [(0, .v (.int .u8)), (0, .v (.int .u8))] (fun x => z2a N x.1 x.2.1) (zfe (.v (.arr 4 (.int .u64))) 2)

theorem z4l (N : Nat) : Contract Tryd.prog glob 41 (z3e N) :=
  Contract.of (E := E_14 N) (H := t_14 N) (L := L_14) (N := N) (body := zqw) (K := (zc5 (.v (.arr 4 (.int .u64))) 2)) (z1cd N) Tryd.func41 (by kernel_rfl) (by decide) (fun _ hb => (TabOk.cons (z168 hb) TabOk.nil)) (fun x y h => by rw [z128]; exact h) (z5p (s := (.v (.arr 4 (.int .u64)))) (m := 2))

def z12w : Code := (Tryd.f40.body).getD .skip

def L_15 : List (List Nat × List Nat) := [([0], [1, 2]), ([0, 1], [2]), ([1, 1], [2])]

def E_15 (N : Nat) : Env := z3w tys glob [] [] [] [] false [] []

theorem z1cc (N : Nat) : EnvOk Tryd.prog (E_15 N) := zn mixed z1v (FnsOk.nil) (ItsOk.nil)

def znm (N : Nat) (s : (List Int)) : Option DT1 :=
 some ((1 : Int), (s, (([] : List Tree), ((0 : Int), ((0 : Int), ())))))

def t_15 (N : Nat) : Tab DT1 := []

theorem z127 (N : Nat) (x : z1p zyl) : zc6 (E_15 N) N (t_15 N) L_15 Tryd.f40 (mkS zyl 0 x) (zc5 (.v TT0) 1) = znm N x.1 := by kernel_rfl

def zcf (N : Nat) : List A -> Res := z1z zyl (fun x => znm N x.1) (zfe (.v TT0) 1)

theorem zhr (N : Nat) : Contract Tryd.prog glob 40 (zcf N) :=
  Contract.of (E := E_15 N) (H := t_15 N) (L := L_15) (N := N) (body := z12w) (K := (zc5 (.v TT0) 1)) (z1cc N) Tryd.func40 (by kernel_rfl) (by decide) (fun _ hb => TabOk.nil) (fun x y h => by rw [z127]; exact h) (z5p (s := (.v TT0)) (m := 1))

def zk8 : Code := (Tryd.f26.body).getD .skip

def L_16 : List (List Nat × List Nat) := [([0], [0, 1]), ([0, 0, 1], [27, 0]), ([1, 0, 1], [0]), ([0, 0, 1, 0, 1], [4, 0]), ([1, 0, 1, 0, 1], [4, 0]), ([0, 1, 1], [0]), ([0, 1, 1, 1], [4, 0]), ([1, 1, 1, 1], [4, 0])]

def z1co (N : Nat) : Env := z3w tys glob [] [] [] [0] false [] []

theorem z1cb (N : Nat) : EnvOk Tryd.prog (z1co N) := zn mixed z1v (FnsOk.nil) (ItsOk.nil)

def z6z (N : Nat) (p : DT5) (b : Int) (k0 : Bool -> Option (Bool × (DT5 × Unit))) : Option (Bool × (DT5 × Unit)) :=
 cond (p.2.1 == (((List.length p.1) : Nat) : Int))
 (k0 true)
 (cond (inR p.2.1 (List.length p.1))
 (k0 ((((UInt8.toNat (List.getD p.1 (Int.toNat p.2.1) (0 : UInt8))) : Nat) : Int) != b))
 (none))

def z19m (N : Nat) (x : z1p zko) (K : Ex -> List A -> Option (Bool × (DT5 × Unit))) : Option (Bool × (DT5 × Unit)) :=
 z6z N x.1 x.2.1 (fun a1 => (K .normal (mkS [(0, .box TT4), (26, .v .bool)] 7 (x.1, a1, ()))))

def z17o (N : Nat) : Hd (Bool × (DT5 × Unit)) := fun st K => (unS zko 33 (restr [0, 1] 0 st)).bind fun x => z19m N x K

def t2_16 (N : Nat) : Tab (Bool × (DT5 × Unit)) := []

theorem z15b {N : Nat} {c : Ctx} (hb : Base Tryd.prog (z1co N) c) : z14 Tryd.prog c (zd zk8 [0, 0, 1]) (z17o N) :=
  z16 (s := zko) (m := 33) (g := z19m N) [0, 1] (zg hb N (t2_16 N) L_16 zk8 TabOk.nil [0, 0, 1] _ rfl) (fun x K => by kernel_rfl)

def z70 (N : Nat) (p : DT5) (b : Int) (k0 : Bool -> Option (Bool × (DT5 × Unit))) (k1 : Option (Bool × (DT5 × Unit))) : Option (Bool × (DT5 × Unit)) :=
 z6z N p b
 (fun x27 => cond x27
 (k0 false)
 (k1))

def z1ai (N : Nat) (x : z1p zko) (K : Ex -> List A -> Option (Bool × (DT5 × Unit))) : Option (Bool × (DT5 × Unit)) :=
 z70 N x.1 x.2.1 (fun a1 => (K .ret (mkS [(0, .box TT4), (3, .v .bool)] 30 (x.1, a1, ())))) (K .normal (mkS [(0, .box TT4)] 34 (x.1, ())))

def z18k (N : Nat) : Hd (Bool × (DT5 × Unit)) := fun st K => (unS zko 33 (restr [0, 1] 0 st)).bind fun x => z1ai N x K

def t1_16 (N : Nat) : Tab (Bool × (DT5 × Unit)) := [([0, 0, 1], z17o N)]

theorem z167 {N : Nat} {c : Ctx} (hb : Base Tryd.prog (z1co N) c) : z14 Tryd.prog c (zd zk8 [0, 1]) (z18k N) :=
  z16 (s := zko) (m := 33) (g := z1ai N) [0, 1] (zg hb N (t1_16 N) L_16 zk8 (TabOk.cons (z15b hb) TabOk.nil) [0, 1] _ rfl) (fun x K => by kernel_rfl)

def zp (N : Nat) (p : DT5) (b : Int) : Option (Bool × (DT5 × Unit)) :=
 z70 N p b
 (fun x4 => some (x4, (p, ())))
 (some (true, ((p.1, ((IntKind.wrap IntKind.i64 (p.2.1 + (1 : Int))), p.2.2)), ())))

def t_16 (N : Nat) : Tab (Bool × (DT5 × Unit)) := [([0, 1], z18k N)]

theorem z126 (N : Nat) (x : z1p zko) : zc6 (z1co N) N (t_16 N) L_16 Tryd.f26 (mkS zko 0 x) (z7o (.v .bool) [(0, .box TT4)] 1) = zp N x.1 x.2.1 := by kernel_rfl

def z1c (N : Nat) : List A -> Res := z1z zko (fun x => zp N x.1 x.2.1) (z8h (.v .bool) [(0, .box TT4)] 1)

theorem z1q (N : Nat) : Contract Tryd.prog glob 26 (z1c N) :=
  Contract.of (E := z1co N) (H := t_16 N) (L := L_16) (N := N) (body := zk8) (K := (z7o (.v .bool) [(0, .box TT4)] 1)) (z1cb N) Tryd.func26 (by kernel_rfl) (by decide) (fun _ hb => (TabOk.cons (z167 hb) TabOk.nil)) (fun x y h => by rw [z126]; exact h) (z5q (s := (.v .bool)) (os := [(0, .box TT4)]) (m := 1))

def zqv : Code := (Tryd.f57.body).getD .skip

def L_17 : List (List Nat × List Nat) := [([0], [0, 2]), ([0, 1], [0, 3, 2]), ([0, 0, 1, 1], [7, 6, 3, 0, 2]), ([0, 1, 0, 1, 1], [7, 6, 3, 0, 2]), (zyq, [8, 7, 3, 0, 6, 2]), (z13s, [7, 3, 0, 6, 2]), (PQ93, [3, 2]), (PQ91, [3, 0, 4, 7, 6, 2]), ([1, 0, 0, 1, 1, 0, 0, 1, 0, 1, 1], [7, 6, 3, 0, 2]), (zyu, [7, 6, 3, 0, 2]), (zyt, [7, 6, 3, 0, 2]), ([1, 0, 1, 1], [3, 2]), ([0, 1, 1, 1], [2]), ([1, 1, 1, 1], [2])]

def E_17 (N : Nat) : Env := z3w tys glob [(52, z9k N)] [] [] [] false [] []

theorem z1ca (N : Nat) : EnvOk Tryd.prog (E_17 N) := zn mixed z1v (FnsOk.cons (ze2 N) (FnsOk.nil)) (ItsOk.nil)

def z7r (N : Nat) (s : (List UInt8)) (x2 : (List Int)) (x6 : Int) (set_ : (List Int)) (x7 : Int) (rec : (List Int) -> Int -> Option (List Int)) (k0 : (List Int) -> Option (List Int)) : Option (List Int) :=
 cond (decide (x7 < x6))
 (cond (inR x7 (List.length s))
 ((z8g N set_ (((UInt8.toNat (List.getD s (Int.toNat x7) (0 : UInt8))) : Nat) : Int)).bind fun y =>
 rec y (IntKind.wrap IntKind.i64 (x7 + (1 : Int))))
 (none))
 (k0 set_)

def zd4 (N : Nat) (s : (List UInt8)) (x2 : (List Int)) (set_ : (List Int)) (x6 : Int) (x7 : Int) (k0 : (List Int) -> Option (List Int)) : Option (List Int) :=
 iter (fun (v : ((List Int) × Int)) r => z7r N s x2 x6 v.1 v.2 (fun set_ x7 => (r (set_, x7))) k0) N (set_, x7)

def z1ah (N : Nat) (i : ((List UInt8) × (List Int) × Int)) (v : ((List Int) × Int)) (r : ((List Int) × Int) -> Option (List Int)) (K : Ex -> List A -> Option (List Int)) : Option (List Int) :=
 z7r N i.1 i.2.1 i.2.2 v.1 v.2 (fun set_ x7 => (r (set_, x7))) (fun a1 => (K (.exit 0) (mkS [(2, .box (.arr 4 (.int .u64))), (0, .box (.arr 4 (.int .u64)))] 13 (i.2.1, a1, ()))))

def z18j (N : Nat) : Hd (List Int) := fun st K => (unS SQ61 9 (restr [7, 6, 3, 0, 2] 0 st)).bind fun x => iter (fun v r => z1ah N ((fun x => (x.1, x.2.1, x.2.2.2.1)) x) v r K) N ((fun x => (x.2.2.1, x.2.2.2.2.1)) x)

def t1_17 (N : Nat) : Tab (List Int) := []

theorem z166 {N : Nat} {c : Ctx} (hb : Base Tryd.prog (E_17 N) c) : z14 Tryd.prog c (zd zqv [0, 1, 0, 1, 1]) (z18j N) :=
  z8n (s := SQ61) (m := 9) (z1ah N) [7, 6, 3, 0, 2] N (fun x => (x.1, x.2.1, x.2.2.2.1)) (fun x => (x.2.2.1, x.2.2.2.2.1)) (fun i v => (i.1, i.2.1, v.1, i.2.2, v.2, ())) (fun _ => rfl) (zg hb N (t1_17 N) L_17 zqv TabOk.nil [0, 0, 1, 0, 1, 1] _ rfl) (fun i v r K => by kernel_rfl)

def z6t (N : Nat) (s : (List UInt8)) : Option (List Int) :=
 zd4 N s ([(0 : Int), (0 : Int), (0 : Int), (0 : Int)] : List Int) ([(0 : Int), (0 : Int), (0 : Int), (0 : Int)] : List Int) (((List.length s) : Nat) : Int) (0 : Int)
 (fun set_ => some set_)

def t_17 (N : Nat) : Tab (List Int) := [([0, 1, 0, 1, 1], z18j N)]

theorem z125 (N : Nat) (x : z1p [(0, .v .str)]) : zc6 (E_17 N) N (t_17 N) L_17 Tryd.f57 (mkS [(0, .v .str)] 0 x) (zc5 (.v (.arr 4 (.int .u64))) 1) = z6t N x.1 := by kernel_rfl

def z91 (N : Nat) : List A -> Res := z1z [(0, .v .str)] (fun x => z6t N x.1) (zfe (.v (.arr 4 (.int .u64))) 1)

theorem zd5 (N : Nat) : Contract Tryd.prog glob 57 (z91 N) :=
  Contract.of (E := E_17 N) (H := t_17 N) (L := L_17) (N := N) (body := zqv) (K := (zc5 (.v (.arr 4 (.int .u64))) 1)) (z1ca N) Tryd.func57 (by kernel_rfl) (by decide) (fun _ hb => (TabOk.cons (z166 hb) TabOk.nil)) (fun x y h => by rw [z125]; exact h) (z5p (s := (.v (.arr 4 (.int .u64)))) (m := 1))

def z12v : Code := (Tryd.f60.body).getD .skip

def L_18 : List (List Nat × List Nat) := [([0], [0]), ([0, 1], [2]), ([1, 1], [2])]

def E_18 (N : Nat) : Env := z3w tys glob [] [] [] [] false [] []

theorem z1c9 (N : Nat) : EnvOk Tryd.prog (E_18 N) := zn mixed z1v (FnsOk.nil) (ItsOk.nil)

def z4q (N : Nat) (b : Int) : Option Bool :=
 cond (decide ((48 : Int) <= b))
 (some (decide (b <= (57 : Int))))
 (some false)

def t_18 (N : Nat) : Tab Bool := []

theorem z124 (N : Nat) (x : z1p [(0, .v (.int .u8))]) : zc6 (E_18 N) N (t_18 N) L_18 Tryd.f60 (mkS [(0, .v (.int .u8))] 0 x) (zc5 (.v .bool) 1) = z4q N x.1 := by kernel_rfl

def z6i (N : Nat) : List A -> Res := z1z [(0, .v (.int .u8))] (fun x => z4q N x.1) (zfe (.v .bool) 1)

theorem z97 (N : Nat) : Contract Tryd.prog glob 60 (z6i N) :=
  Contract.of (E := E_18 N) (H := t_18 N) (L := L_18) (N := N) (body := z12v) (K := (zc5 (.v .bool) 1)) (z1c9 N) Tryd.func60 (by kernel_rfl) (by decide) (fun _ hb => TabOk.nil) (fun x y h => by rw [z124]; exact h) (z5p (s := (.v .bool)) (m := 1))

def zk7 : Code := (Tryd.f58.body).getD .skip

def L_19 : List (List Nat × List Nat) := [([0], [0, 1]), ([0, 1], [0, 5, 1]), ([0, 1, 1], [5, 0, 1]), ([0, 0, 1, 1, 1], [16, 5, 0, 1]), ([1, 0, 1, 1, 1], [5, 0, 1]), (z1b7, [4, 0]), (z1b6, [4, 0]), ([0, 0, 1, 1, 1, 1], [24, 0, 1, 5]), ([1, 0, 1, 1, 1, 1], [5, 0]), ([0, 1, 0, 1, 1, 1, 1], [5, 0]), ([0, 1, 1, 1, 1, 1], [4, 0]), ([1, 1, 1, 1, 1, 1], [4, 0])]

def z1cn (N : Nat) : Env := z3w tys glob [(60, z6i N), (56, zy N)] [] [] [0] false [] []

theorem z1c8 (N : Nat) : EnvOk Tryd.prog (z1cn N) := zn mixed z1v (FnsOk.cons (z97 N) (FnsOk.cons (z19 N) (FnsOk.nil))) (ItsOk.nil)

def z7x (N : Nat) (p : DT5) (from_ : Int) (b : Int) (k0 : Bool -> Option (Int × (DT5 × Unit))) : Option (Int × (DT5 × Unit)) :=
 cond (decide (b < (97 : Int)))
 (k0 true)
 (k0 (decide ((102 : Int) < b)))

def z19l (N : Nat) (x : z1p zu2) (K : Ex -> List A -> Option (Int × (DT5 × Unit))) : Option (Int × (DT5 × Unit)) :=
 z7x N x.1 x.2.1 x.2.2.1 (fun a3 => (K .normal (mkS [(0, .box TT4), (0, .v (.int .i64)), (3, .v (.int .u8)), (18, .v .bool)] 6 (x.1, x.2.1, x.2.2.1, a3, ()))))

def z17n (N : Nat) : Hd (Int × (DT5 × Unit)) := fun st K => (unS zu2 25 (restr [5, 0, 1] 0 st)).bind fun x => z19l N x K

def t2_19 (N : Nat) : Tab (Int × (DT5 × Unit)) := []

theorem z15a {N : Nat} {c : Ctx} (hb : Base Tryd.prog (z1cn N) c) : z14 Tryd.prog c (zd zk7 [0, 0, 1, 1, 1, 1]) (z17n N) :=
  z16 (s := zu2) (m := 25) (g := z19l N) [5, 0, 1] (zg hb N (t2_19 N) L_19 zk7 TabOk.nil [0, 0, 1, 1, 1, 1] _ rfl) (fun x K => by kernel_rfl)

def z7y (N : Nat) (p : DT5) (from_ : Int) (b : Int) (k0 : Option (Int × (DT5 × Unit))) : Option (Int × (DT5 × Unit)) :=
 z7x N p from_ b
 (fun x24 => cond x24
 (none)
 (k0))

def z1ag (N : Nat) (x : z1p zu2) (K : Ex -> List A -> Option (Int × (DT5 × Unit))) : Option (Int × (DT5 × Unit)) :=
 z7y N x.1 x.2.1 x.2.2.1 (K .normal (mkS [(0, .box TT4), (4, .v (.int .u8))] 25 (x.1, x.2.2.1, ())))

def z18i (N : Nat) : Hd (Int × (DT5 × Unit)) := fun st K => (unS zu2 25 (restr [5, 0, 1] 0 st)).bind fun x => z1ag N x K

def t1_19 (N : Nat) : Tab (Int × (DT5 × Unit)) := [([0, 0, 1, 1, 1, 1], z17n N)]

theorem z165 {N : Nat} {c : Ctx} (hb : Base Tryd.prog (z1cn N) c) : z14 Tryd.prog c (zd zk7 [0, 1, 1, 1, 1]) (z18i N) :=
  z16 (s := zu2) (m := 25) (g := z1ag N) [5, 0, 1] (zg hb N (t1_19 N) L_19 zk7 (TabOk.cons (z15a hb) TabOk.nil) [0, 1, 1, 1, 1] _ rfl) (fun x K => by kernel_rfl)

def z34 (N : Nat) (p : DT5) (from_ : Int) : Option (Int × (DT5 × Unit)) :=
 (zz N p).bind fun y =>
 (z4q N y.1).bind fun y1 =>
 cond y1
 (some ((IntKind.wrap IntKind.u8 (y.1 - (48 : Int))), ((y.2.1.1, ((IntKind.wrap IntKind.i64 (y.2.1.2.1 + (1 : Int))), y.2.1.2.2)), ())))
 (z7y N (y.2.1.1, ((IntKind.wrap IntKind.i64 (y.2.1.2.1 + (1 : Int))), y.2.1.2.2)) from_ y.1
 (some ((IntKind.wrap IntKind.u8 ((IntKind.wrap IntKind.u8 (y.1 - (97 : Int))) + (10 : Int))), ((y.2.1.1, ((IntKind.wrap IntKind.i64 (y.2.1.2.1 + (1 : Int))), y.2.1.2.2)), ()))))

def t_19 (N : Nat) : Tab (Int × (DT5 × Unit)) := [([0, 1, 1, 1, 1], z18i N)]

theorem z123 (N : Nat) (x : z1p z13h) : zc6 (z1cn N) N (t_19 N) L_19 Tryd.f58 (mkS z13h 0 x) (z7o (.v (.int .u8)) [(0, .box TT4)] 1) = z34 N x.1 x.2.1 := by kernel_rfl

def z7a (N : Nat) : List A -> Res := z1z z13h (fun x => z34 N x.1 x.2.1) (z8h (.v (.int .u8)) [(0, .box TT4)] 1)

theorem zae (N : Nat) : Contract Tryd.prog glob 58 (z7a N) :=
  Contract.of (E := z1cn N) (H := t_19 N) (L := L_19) (N := N) (body := zk7) (K := (z7o (.v (.int .u8)) [(0, .box TT4)] 1)) (z1c8 N) Tryd.func58 (by kernel_rfl) (by decide) (fun _ hb => (TabOk.cons (z165 hb) TabOk.nil)) (fun x y h => by rw [z123]; exact h) (z5q (s := (.v (.int .u8))) (os := [(0, .box TT4)]) (m := 1))

def z12u : Code := (Tryd.f44.body).getD .skip

def L_20 : List (List Nat × List Nat) := [([0], [0, 1]), ([0, 1], [4]), ([1, 1], [4])]

def E_20 (N : Nat) : Env := z3w tys glob [(59, zw0)] [] [] [] false [] []

theorem z1c7 (N : Nat) : EnvOk Tryd.prog (E_20 N) := zn mixed z1v (FnsOk.cons (z16q glob) (FnsOk.nil)) (ItsOk.nil)

def zbk (N : Nat) (s : (List UInt8)) (c : Int) : Option Int :=
 some (Go.Lib.indexByte s (Nat.toUInt8 (Int.toNat c)))

def t_20 (N : Nat) : Tab Int := []

theorem z122 (N : Nat) (x : z1p [(0, .v .str), (0, .v (.int .u8))]) : zc6 (E_20 N) N (t_20 N) L_20 Tryd.f44 (mkS [(0, .v .str), (0, .v (.int .u8))] 0 x) (zc5 (.v (.int .i64)) 2) = zbk N x.1 x.2.1 := by kernel_rfl

def z3f (N : Nat) : List A -> Res := z1z [(0, .v .str), (0, .v (.int .u8))] (fun x => zbk N x.1 x.2.1) (zfe (.v (.int .i64)) 2)

theorem z4s (N : Nat) : Contract Tryd.prog glob 44 (z3f N) :=
  Contract.of (E := E_20 N) (H := t_20 N) (L := L_20) (N := N) (body := z12u) (K := (zc5 (.v (.int .i64)) 2)) (z1c7 N) Tryd.func44 (by kernel_rfl) (by decide) (fun _ hb => TabOk.nil) (fun x y h => by rw [z122]; exact h) (z5p (s := (.v (.int .i64))) (m := 2))

def zqu : Code := (Tryd.f43.body).getD .skip

def L_21 : List (List Nat × List Nat) := [([0], [0, 2]), ([0, 1], [0, 2, 4]), ([0, 1, 1], [0, 2, 4]), ([0, 1, 1, 1], [0, 5, 2, 4]), ([0, 1, 1, 1, 1], [5, 2, 0, 4]), ([0, 0, 0, 1, 1, 1, 1, 1], [22, 2, 0, 5, 4]), ([1, 0, 0, 1, 1, 1, 1, 1], [5, 2, 0]), ([0, 1, 1, 0, 0, 1, 1, 1, 1, 1], [26, 2, 0, 5, 4]), ([1, 1, 1, 0, 0, 1, 1, 1, 1, 1], [5, 2, 0]), ([0, 1, 1, 1, 1, 0, 0, 1, 1, 1, 1, 1], [30, 0, 4, 2, 5]), ([1, 1, 1, 1, 1, 0, 0, 1, 1, 1, 1, 1], [5, 2, 0]), ([0, 1, 1, 1, 1, 1, 1, 0, 0, 1, 1, 1, 1, 1], [42, 0, 4, 5, 2]), ([1, 1, 1, 1, 1, 1, 1, 0, 0, 1, 1, 1, 1, 1], [5, 2, 0]), ([0, 1, 1, 1, 1, 1, 1, 1, 0, 0, 1, 1, 1, 1, 1], [5, 2, 0]), ([0, 0, 1, 1, 1, 1, 1, 0, 0, 1, 1, 1, 1, 1], [6, 0, 4, 2]), ([1, 0, 1, 1, 1, 1, 1, 0, 0, 1, 1, 1, 1, 1], [5, 2, 0]), ([0, 0, 1, 1, 1, 0, 0, 1, 1, 1, 1, 1], [2, 3, 0]), ([1, 0, 1, 1, 1, 0, 0, 1, 1, 1, 1, 1], [2, 3, 0]), ([0, 0, 1, 0, 0, 1, 1, 1, 1, 1], [2, 3, 0]), ([1, 0, 1, 0, 0, 1, 1, 1, 1, 1], [2, 3, 0]), ([0, 1, 1, 1, 1, 1], [5, 2, 0]), (ztx, [2, 3, 0]), (zu0, [2, 3, 0])]

def E_21 (N : Nat) : Env := z3w tys glob [(44, z3f N), (58, z7a N), (57, z91 N), (41, z3e N), (46, z1e N), (56, zy N)] [] [] [0] false [] []

theorem z1c6 (N : Nat) : EnvOk Tryd.prog (E_21 N) := zn mixed z1v (FnsOk.cons (z4s N) (FnsOk.cons (zae N) (FnsOk.cons (zd5 N) (FnsOk.cons (z4l N) (FnsOk.cons (z1r N) (FnsOk.cons (z19 N) (FnsOk.nil))))))) (ItsOk.nil)

def z62 (N : Nat) (p : DT5) (set_ : (List Int)) (from_ : Int) (b : Int) (k0 : (List Int) -> Bool -> Option DT8) (k1 : DT5 -> Int -> Option DT8) : Option DT8 :=
 cond (b == (100 : Int))
 ((z2a N (48 : Int) (57 : Int)).bind fun y =>
 k0 y true)
 (cond (b == (119 : Int))
 ((z6t N ((48 : UInt8) :: (49 : UInt8) :: (50 : UInt8) :: (51 : UInt8) :: (52 : UInt8) :: (53 : UInt8) :: (54 : UInt8) :: (55 : UInt8) :: (56 : UInt8) :: (57 : UInt8) :: (65 : UInt8) :: (66 : UInt8) :: (67 : UInt8) :: (68 : UInt8) :: (69 : UInt8) :: (70 : UInt8) :: (71 : UInt8) :: (72 : UInt8) :: (73 : UInt8) :: (74 : UInt8) :: (75 : UInt8) :: (76 : UInt8) :: (77 : UInt8) :: (78 : UInt8) :: (79 : UInt8) :: (80 : UInt8) :: (81 : UInt8) :: (82 : UInt8) :: (83 : UInt8) :: (84 : UInt8) :: (85 : UInt8) :: (86 : UInt8) :: (87 : UInt8) :: (88 : UInt8) :: (89 : UInt8) :: (90 : UInt8) :: (95 : UInt8) :: (97 : UInt8) :: (98 : UInt8) :: (99 : UInt8) :: (100 : UInt8) :: (101 : UInt8) :: (102 : UInt8) :: (103 : UInt8) :: (104 : UInt8) :: (105 : UInt8) :: (106 : UInt8) :: (107 : UInt8) :: (108 : UInt8) :: (109 : UInt8) :: (110 : UInt8) :: (111 : UInt8) :: (112 : UInt8) :: (113 : UInt8) :: (114 : UInt8) :: (115 : UInt8) :: (116 : UInt8) :: (117 : UInt8) :: (118 : UInt8) :: (119 : UInt8) :: (120 : UInt8) :: (121 : UInt8) :: (122 : UInt8) :: ([] : List UInt8))).bind fun y1 =>
 k0 y1 true)
 (cond (b == (120 : Int))
 ((z34 N p from_).bind fun y2 =>
 (z34 N y2.2.1 from_).bind fun y3 =>
 k1 y3.2.1 (bitsOp Go.BinOp.or IntKind.u8 (shlI IntKind.u8 y2.1 (4 : Int)) y3.1))
 (cond (decide ((Go.Lib.indexByte ([(92 : UInt8), (46 : UInt8), (91 : UInt8), (93 : UInt8), (40 : UInt8), (41 : UInt8), (123 : UInt8), (125 : UInt8), (124 : UInt8), (42 : UInt8), (43 : UInt8), (63 : UInt8), (45 : UInt8), (94 : UInt8)] : List UInt8) (Nat.toUInt8 (Int.toNat b))) < (0 : Int)))
 (none)
 (k1 p b))))

def z1af (N : Nat) (x : z1p z13l) (K : Ex -> List A -> Option DT8) : Option DT8 :=
 z62 N x.1 x.2.1 x.2.2.1 x.2.2.2.1 (fun a1 a2 => (K .ret (mkS SQ57 48 (x.1, a1, a2, ())))) (fun a0 a2 => (K .normal (mkS [(0, .box TT4), (1, .box (.arr 4 (.int .u64))), (2, .v (.int .u8))] 46 (a0, x.2.1, a2, ()))))

def z18h (N : Nat) : Hd DT8 := fun st K => (unS z13l 46 (restr [5, 2, 0, 4] 0 st)).bind fun x => z1af N x K

def t1_21 (N : Nat) : Tab DT8 := []

theorem z164 {N : Nat} {c : Ctx} (hb : Base Tryd.prog (E_21 N) c) : z14 Tryd.prog c (zd zqu [0, 1, 1, 1, 1, 1]) (z18h N) :=
  z16 (s := z13l) (m := 46) (g := z1af N) [5, 2, 0, 4] (zg hb N (t1_21 N) L_21 zqu TabOk.nil [0, 1, 1, 1, 1, 1] _ rfl) (fun x K => by kernel_rfl)

def z1w (N : Nat) (p : DT5) : Option DT8 :=
 (zq N p (92 : Int)).bind fun y =>
 (zz N y.2.1).bind fun y1 =>
 z62 N (y1.2.1.1, ((IntKind.wrap IntKind.i64 (y1.2.1.2.1 + (1 : Int))), y1.2.1.2.2)) ([(0 : Int), (0 : Int), (0 : Int), (0 : Int)] : List Int) p.2.1 y1.1
 (fun set_ class_ => some ((set_, (class_, ())), ((y1.2.1.1, ((IntKind.wrap IntKind.i64 (y1.2.1.2.1 + (1 : Int))), y1.2.1.2.2)), ())))
 (fun p1 b => (z2a N b b).bind fun y2 =>
 some ((y2, (false, ())), (p1, ())))

def t_21 (N : Nat) : Tab DT8 := [([0, 1, 1, 1, 1, 1], z18h N)]

theorem z121 (N : Nat) (x : z1p [(0, .box TT4)]) : zc6 (E_21 N) N (t_21 N) L_21 Tryd.f43 (mkS [(0, .box TT4)] 0 x) (z7o (.tup [(.arr 4 (.int .u64)), .bool]) [(0, .box TT4)] 0) = z1w N x.1 := by kernel_rfl

def z2u (N : Nat) : List A -> Res := z1z [(0, .box TT4)] (fun x => z1w N x.1) (z8h (.tup [(.arr 4 (.int .u64)), .bool]) [(0, .box TT4)] 0)

theorem z47 (N : Nat) : Contract Tryd.prog glob 43 (z2u N) :=
  Contract.of (E := E_21 N) (H := t_21 N) (L := L_21) (N := N) (body := zqu) (K := (z7o (.tup [(.arr 4 (.int .u64)), .bool]) [(0, .box TT4)] 0)) (z1c6 N) Tryd.func43 (by kernel_rfl) (by decide) (fun _ hb => (TabOk.cons (z164 hb) TabOk.nil)) (fun x y h => by rw [z121]; exact h) (z5q (s := (.tup [(.arr 4 (.int .u64)), .bool])) (os := [(0, .box TT4)]) (m := 0))

def zk6 : Code := (Tryd.f68.body).getD .skip

def L_22 : List (List Nat × List Nat) := [([0], [0, 2]), ([0, 1], [4, 0, 2]), ([0, 0, 1, 1], [7, 0, 2, 4]), ([0, 0, 1, 0, 1, 1], [8, 0, 2, 7, 4]), ([1, 0, 1, 0, 1, 1], [0, 4, 2]), (PQ94, [14, 0, 4, 2, 7]), ([1, 0, 1, 1, 0, 1, 0, 1, 1], [14, 0, 4, 2]), ([0, 1, 1, 0, 1, 1, 0, 1, 0, 1, 1], [14, 0, 4, 2, 7]), ([1, 1, 1, 0, 1, 1, 0, 1, 0, 1, 1], [14, 0, 4, 2]), ([0, 1, 1, 1, 1, 0, 1, 1, 0, 1, 0, 1, 1], [14, 0, 4, 2, 7]), ([1, 1, 1, 1, 1, 0, 1, 1, 0, 1, 0, 1, 1], [14, 0, 4, 2]), ([1, 1, 1, 1, 1, 1, 0, 1, 1, 0, 1, 0, 1, 1], [14, 0, 4, 2]), ([1, 1, 1, 0, 1, 0, 1, 1], [0, 4, 2]), ([0, 1, 1, 1, 0, 1, 0, 1, 1], [0, 4, 2]), ([0, 0, 1, 0, 1, 0, 1, 1], [2, 3, 0]), ([1, 0, 1, 0, 1, 0, 1, 1], [2, 3, 0]), ([1, 0, 1, 1], [0, 4, 2]), ([0, 1, 1, 1], [4, 2, 0]), ([0, 1, 1, 1, 1], [2, 3, 0]), ([1, 1, 1, 1, 1], [2, 3, 0])]

def z1cm (N : Nat) : Env := z3w tys glob [(43, z2u N), (41, z3e N), (56, zy N)] [] [] [0] false [] []

theorem z1c5 (N : Nat) : EnvOk Tryd.prog (z1cm N) := zn mixed z1v (FnsOk.cons (z47 N) (FnsOk.cons (z4l N) (FnsOk.cons (z19 N) (FnsOk.nil)))) (ItsOk.nil)

def z71 (N : Nat) (p : DT5) (set_ : (List Int)) (b : Int) (x7 : Int) (k0 : Bool -> Option DT8) : Option DT8 :=
 cond (x7 == (91 : Int))
 (k0 (x7 == (91 : Int)))
 (cond (x7 == (93 : Int))
 (k0 (x7 == (93 : Int)))
 (cond (x7 == (45 : Int))
 (k0 (x7 == (45 : Int)))
 (k0 (x7 == (94 : Int)))))

def z19k (N : Nat) (x : z1p z13k) (K : Ex -> List A -> Option DT8) : Option DT8 :=
 z71 N x.1 x.2.1 x.2.2.1 x.2.2.2.1 (fun a3 => (K .normal (mkS [(0, .box TT4), (1, .box (.arr 4 (.int .u64))), (1, .v (.int .u8)), (9, .v .bool)] 20 (x.1, x.2.1, x.2.2.1, a3, ()))))

def z17m (N : Nat) : Hd DT8 := fun st K => (unS z13k 27 (restr [7, 0, 4, 2] 0 st)).bind fun x => z19k N x K

def t2_22 (N : Nat) : Tab DT8 := []

theorem z159 {N : Nat} {c : Ctx} (hb : Base Tryd.prog (z1cm N) c) : z14 Tryd.prog c (zd zk6 z135) (z17m N) :=
  z16 (s := z13k) (m := 27) (g := z19k N) [7, 0, 4, 2] (zg hb N (t2_22 N) L_22 zk6 TabOk.nil z135 _ rfl) (fun x K => by kernel_rfl)

def z72 (N : Nat) (p : DT5) (set_ : (List Int)) (b : Int) (k0 : DT5 -> (List Int) -> Bool -> Option DT8) (k1 : Option DT8) : Option DT8 :=
 cond (b == (92 : Int))
 ((z1w N p).bind fun y =>
 k0 y.2.1 y.1.1 y.1.2.1)
 (z71 N p set_ b b
 (fun x14 => cond x14
 (none)
 (k1)))

def z1ae (N : Nat) (x : z1p z102) (K : Ex -> List A -> Option DT8) : Option DT8 :=
 z72 N x.1 x.2.1 x.2.2.1 (fun a0 a1 a2 => (K .ret (mkS SQ57 31 (a0, a1, a2, ())))) (K .normal (mkS z102 30 (x.1, x.2.1, x.2.2.1, ())))

def z18g (N : Nat) : Hd DT8 := fun st K => (unS z102 30 (restr [4, 0, 2] 0 st)).bind fun x => z1ae N x K

def t1_22 (N : Nat) : Tab DT8 := [(z135, z17m N)]

theorem z163 {N : Nat} {c : Ctx} (hb : Base Tryd.prog (z1cm N) c) : z14 Tryd.prog c (zd zk6 [0, 1, 1]) (z18g N) :=
  z16 (s := z102) (m := 30) (g := z1ae N) [4, 0, 2] (zg hb N (t1_22 N) L_22 zk6 (TabOk.cons (z159 hb) TabOk.nil) [0, 1, 1] _ rfl) (fun x K => by kernel_rfl)

def z2l (N : Nat) (p : DT5) : Option DT8 :=
 (zz N p).bind fun y =>
 z72 N y.2.1 ([(0 : Int), (0 : Int), (0 : Int), (0 : Int)] : List Int) y.1
 (fun p1 set_ class_ => some ((set_, (class_, ())), (p1, ())))
 ((z2a N y.1 y.1).bind fun y1 =>
 some ((y1, (false, ())), ((y.2.1.1, ((IntKind.wrap IntKind.i64 (y.2.1.2.1 + (1 : Int))), y.2.1.2.2)), ())))

def t_22 (N : Nat) : Tab DT8 := [([0, 1, 1], z18g N)]

theorem z120 (N : Nat) (x : z1p [(0, .box TT4)]) : zc6 (z1cm N) N (t_22 N) L_22 Tryd.f68 (mkS [(0, .box TT4)] 0 x) (z7o (.tup [(.arr 4 (.int .u64)), .bool]) [(0, .box TT4)] 0) = z2l N x.1 := by kernel_rfl

def z6b (N : Nat) : List A -> Res := z1z [(0, .box TT4)] (fun x => z2l N x.1) (z8h (.tup [(.arr 4 (.int .u64)), .bool]) [(0, .box TT4)] 0)

theorem z9m (N : Nat) : Contract Tryd.prog glob 68 (z6b N) :=
  Contract.of (E := z1cm N) (H := t_22 N) (L := L_22) (N := N) (body := zk6) (K := (z7o (.tup [(.arr 4 (.int .u64)), .bool]) [(0, .box TT4)] 0)) (z1c5 N) Tryd.func68 (by kernel_rfl) (by decide) (fun _ hb => (TabOk.cons (z163 hb) TabOk.nil)) (fun x y h => by rw [z120]; exact h) (z5q (s := (.tup [(.arr 4 (.int .u64)), .bool])) (os := [(0, .box TT4)]) (m := 0))

def z12t : Code := (Tryd.f74.body).getD .skip

def L_23 : List (List Nat × List Nat) := [([0], [0]), ([0, 0, 1], [4, 0]), ([1, 0, 1], [0]), ([0, 0, 1, 0, 1], [2]), ([1, 0, 1, 0, 1], [2]), ([0, 1, 1], [2]), ([1, 1, 1], [2])]

def E_23 (N : Nat) : Env := z3w tys glob [] [] [] [] false [] []

theorem z1c4 (N : Nat) : EnvOk Tryd.prog (E_23 N) := zn mixed z1v (FnsOk.nil) (ItsOk.nil)

def z1o (N : Nat) (x0 : Int) : Option Int :=
 cond (x0 == (0 : Int))
 (some (64 : Int))
 (cond (inR (z139 IntKind.u64 (IntKind.wrap IntKind.u64 ((285870213051353865 : Int) * (bitsOp Go.BinOp.and IntKind.u64 x0 (IntKind.wrap IntKind.u64 ((0 : Int) - x0))))) (58 : Int)) 64)
 (some (IntKind.wrap IntKind.i64 (List.getD glob1 (Int.toNat (z139 IntKind.u64 (IntKind.wrap IntKind.u64 ((285870213051353865 : Int) * (bitsOp Go.BinOp.and IntKind.u64 x0 (IntKind.wrap IntKind.u64 ((0 : Int) - x0))))) (58 : Int))) (0 : Int))))
 (none))

def t_23 (N : Nat) : Tab Int := []

theorem z11z (N : Nat) (x : z1p [(0, .v (.int .u64))]) : zc6 (E_23 N) N (t_23 N) L_23 Tryd.f74 (mkS [(0, .v (.int .u64))] 0 x) (zc5 (.v (.int .i64)) 1) = z1o N x.1 := by kernel_rfl

def z5w (N : Nat) : List A -> Res := z1z [(0, .v (.int .u64))] (fun x => z1o N x.1) (zfe (.v (.int .i64)) 1)

theorem z9z (N : Nat) : Contract Tryd.prog glob 74 (z5w N) :=
  Contract.of (E := E_23 N) (H := t_23 N) (L := L_23) (N := N) (body := z12t) (K := (zc5 (.v (.int .i64)) 1)) (z1c4 N) Tryd.func74 (by kernel_rfl) (by decide) (fun _ hb => TabOk.nil) (fun x y h => by rw [z11z]; exact h) (z5p (s := (.v (.int .i64))) (m := 1))

def zqt : Code := (Tryd.f69.body).getD .skip

def L_24 : List (List Nat × List Nat) := [([0], [1]), ([0, 0, 1], [6, 1]), ([1, 0, 1], [1]), ([0, 0, 1, 0, 1], [2]), ([1, 0, 1, 0, 1], [2]), ([0, 1, 1], [3, 1]), ([0, 0, 1, 1, 1], [3, 1]), ([0, 0, 0, 0, 0, 1, 1, 1], [10, 3, 1]), ([1, 0, 0, 0, 0, 1, 1, 1], [3, 1]), ([1, 1, 0, 0, 0, 0, 1, 1, 1], [3, 1]), ([0, 1, 0, 0, 0, 1, 1, 1], [3, 1]), ([1, 0, 0, 0, 1, 1, 1], [3, 1]), ([0, 1, 1, 1], [3, 1]), ([0, 1, 1, 1, 1], [2]), ([1, 1, 1, 1, 1], [2])]

def E_24 (N : Nat) : Env := z3w tys glob [(74, z5w N)] [] [] [] false [] []

theorem z1c3 (N : Nat) : EnvOk Tryd.prog (E_24 N) := zn mixed z1v (FnsOk.cons (z9z N) (FnsOk.nil)) (ItsOk.nil)

def zd6 (N : Nat) (s : (List Int)) (i : Int) (rec : Int -> Option Int) (k0 : Int -> Option Int) : Option Int :=
 cond (inR i 4)
 (cond (decide ((Int.toNat i) < (List.length s)))
 (cond ((List.getD s (Int.toNat i) (0 : Int)) == (0 : Int))
 (rec (IntKind.wrap IntKind.i64 (i + (1 : Int))))
 (k0 i))
 (none))
 (none)

def zd7 (N : Nat) (s : (List Int)) (i : Int) (k0 : Int -> Option Int) : Option Int :=
 iter (fun (v : Int) r => zd6 N s v (fun i => (r i)) k0) N i

def z1ad (N : Nat) (i : (List Int)) (v : Int) (r : Int -> Option Int) (K : Ex -> List A -> Option Int) : Option Int :=
 zd6 N i v (fun i => (r i)) (fun a1 => (K (.exit 0) (mkS SQ51 16 (i, a1, ()))))

def z18f (N : Nat) : Hd Int := fun st K => (unS SQ51 16 (restr [3, 1] 0 st)).bind fun x => iter (fun v r => z1ad N ((fun x => x.1) x) v r K) N ((fun x => x.2.1) x)

def t1_24 (N : Nat) : Tab Int := []

theorem z162 {N : Nat} {c : Ctx} (hb : Base Tryd.prog (E_24 N) c) : z14 Tryd.prog c (zd zqt [0, 0, 1, 1, 1]) (z18f N) :=
  z8n (s := SQ51) (m := 16) (z1ad N) [3, 1] N (fun x => x.1) (fun x => x.2.1) (fun i v => (i, v, ())) (fun _ => rfl) (zg hb N (t1_24 N) L_24 zqt TabOk.nil [0, 0, 0, 1, 1, 1] _ rfl) (fun i v r K => by kernel_rfl)

def z22 (N : Nat) (s : (List Int)) : Option Int :=
 cond (eqD (T.arr 4 (T.int IntKind.u64)) s ([(0 : Int), (0 : Int), (0 : Int), (0 : Int)] : List Int))
 (some (-(1 : Int)))
 (zd7 N s (0 : Int)
 (fun i => cond (inR i 4)
 (cond (decide ((Int.toNat i) < (List.length s)))
 ((z1o N (List.getD s (Int.toNat i) (0 : Int))).bind fun y =>
 some (IntKind.wrap IntKind.i64 ((IntKind.wrap IntKind.i64 (i * (64 : Int))) + y)))
 (none))
 (none)))

def t_24 (N : Nat) : Tab Int := [([0, 0, 1, 1, 1], z18f N)]

theorem z11y (N : Nat) (x : z1p zyl) : zc6 (E_24 N) N (t_24 N) L_24 Tryd.f69 (mkS zyl 0 x) (zc5 (.v (.int .i64)) 1) = z22 N x.1 := by kernel_rfl

def z93 (N : Nat) : List A -> Res := z1z zyl (fun x => z22 N x.1) (zfe (.v (.int .i64)) 1)

theorem zd8 (N : Nat) : Contract Tryd.prog glob 69 (z93 N) :=
  Contract.of (E := E_24 N) (H := t_24 N) (L := L_24) (N := N) (body := zqt) (K := (zc5 (.v (.int .i64)) 1)) (z1c3 N) Tryd.func69 (by kernel_rfl) (by decide) (fun _ hb => (TabOk.cons (z162 hb) TabOk.nil)) (fun x y h => by rw [z11y]; exact h) (z5p (s := (.v (.int .i64))) (m := 1))

def zcz : Code := (Tryd.f53.body).getD .skip

def z13u : List (List Nat × List Nat) := [([0], [0, 2]), ([0, 1], [4, 0, 3, 2]), ([0, 0, 1, 1], [17, 3, 2, 0]), ([1, 0, 1, 1], [0, 3, 2]), ([0, 0, 1, 0, 1, 1], [2, 0]), ([1, 0, 1, 0, 1, 1], [2, 0]), ([0, 1, 1, 1], [0, 3, 5, 2]), ([0, 1, 1, 1, 1], [4, 6, 3, 0, 5, 2]), (zkp, [35, 0, 5, 3, 6, 2]), (zyn, [3, 6, 2, 0]), (ztz, [3, 6, 2, 0]), (ztx, [2, 0]), (zu0, [2, 0])]

def z138 (N : Nat) : Env := z3w tys glob [(69, z93 N), (68, z6b N), (26, z1c N), (41, z3e N)] [] [] [0] false [] []

theorem z1c2 (N : Nat) : EnvOk Tryd.prog (z138 N) := zn mixed z1v (FnsOk.cons (zd8 N) (FnsOk.cons (z9m N) (FnsOk.cons (z1q N) (FnsOk.cons (z4l N) (FnsOk.nil))))) (ItsOk.nil)

def z78 (N : Nat) (p : DT5) (x2 : (List Int)) (first : (List Int)) (class_ : Bool) (k0 : DT5 -> Bool -> Option DT9) : Option DT9 :=
 cond class_
 (k0 p true)
 ((zp N p (45 : Int)).bind fun y =>
 k0 y.2.1 (!y.1))

def z19j (N : Nat) (x : z1p SQ6) (K : Ex -> List A -> Option DT9) : Option DT9 :=
 z78 N x.1 x.2.1 x.2.2.1 x.2.2.2.1 (fun a0 a3 => (K .normal (mkS SQ79 28 (a0, x.2.1, x.2.2.1, a3, ()))))

def z17l (N : Nat) : Hd DT9 := fun st K => (unS SQ6 41 (restr [4, 0, 3, 2] 0 st)).bind fun x => z19j N x K

def t2_25 (N : Nat) : Tab DT9 := []

theorem z158 {N : Nat} {c : Ctx} (hb : Base Tryd.prog (z138 N) c) : z14 Tryd.prog c (zd zcz [0, 0, 1, 1]) (z17l N) :=
  z16 (s := SQ6) (m := 41) (g := z19j N) [4, 0, 3, 2] (zg hb N (t2_25 N) z13u zcz TabOk.nil [0, 0, 1, 1] _ rfl) (fun x K => by kernel_rfl)

def z79 (N : Nat) (p : DT5) (x2 : (List Int)) (first : (List Int)) (class_ : Bool) (k0 : DT5 -> Option DT9) (k1 : DT5 -> Option DT9) : Option DT9 :=
 z78 N p x2 first class_
 (fun p1 x17 => cond x17
 (k0 p1)
 (k1 p1))

def z1ac (N : Nat) (x : z1p SQ6) (K : Ex -> List A -> Option DT9) : Option DT9 :=
 z79 N x.1 x.2.1 x.2.2.1 x.2.2.2.1 (fun a0 => (K .ret (mkS [(0, .box TT4), (1, .box (.arr 4 (.int .u64)))] 43 (a0, x.2.2.1, ())))) (fun a0 => (K .normal (mkS [(0, .box TT4), (1, .box (.arr 4 (.int .u64))), (0, .box (.arr 4 (.int .u64)))] 42 (a0, x.2.1, x.2.2.1, ()))))

def z18e (N : Nat) : Hd DT9 := fun st K => (unS SQ6 41 (restr [4, 0, 3, 2] 0 st)).bind fun x => z1ac N x K

def t1_25 (N : Nat) : Tab DT9 := [([0, 0, 1, 1], z17l N)]

theorem z161 {N : Nat} {c : Ctx} (hb : Base Tryd.prog (z138 N) c) : z14 Tryd.prog c (zd zcz [0, 1, 1]) (z18e N) :=
  z16 (s := SQ6) (m := 41) (g := z1ac N) [4, 0, 3, 2] (zg hb N (t1_25 N) z13u zcz (TabOk.cons (z158 hb) TabOk.nil) [0, 1, 1] _ rfl) (fun x K => by kernel_rfl)

def z76 (N : Nat) (p : DT5) (x2 : (List Int)) (first : (List Int)) (class_ : Bool) (from_ : Int) (last : (List Int)) (k0 : Bool -> Option DT9) : Option DT9 :=
 cond class_
 (k0 true)
 ((z22 N last).bind fun y =>
 (z22 N first).bind fun y1 =>
 k0 (decide (y < y1)))

def z191 (N : Nat) (x : z1p SQ3) (K : Ex -> List A -> Option DT9) : Option DT9 :=
 z76 N x.1 x.2.1 x.2.2.1 x.2.2.2.1 x.2.2.2.2.1 x.2.2.2.2.2.1 (fun a5 => (K .normal (mkS SQ46 10 (x.1, x.2.1, x.2.2.1, x.2.2.2.2.1, x.2.2.2.2.2.1, a5, ()))))

def z173 (N : Nat) : Hd DT9 := fun st K => (unS SQ3 39 (restr [4, 6, 3, 0, 5, 2] 0 st)).bind fun x => z191 N x K

def t4_25 (N : Nat) : Tab DT9 := []

theorem z14q {N : Nat} {c : Ctx} (hb : Base Tryd.prog (z138 N) c) : z14 Tryd.prog c (zd zcz zkp) (z173 N) :=
  z16 (s := SQ3) (m := 39) (g := z191 N) [4, 6, 3, 0, 5, 2] (zg hb N (t4_25 N) z13u zcz TabOk.nil zkp _ rfl) (fun x K => by kernel_rfl)

def z77 (N : Nat) (p : DT5) (x2 : (List Int)) (first : (List Int)) (class_ : Bool) (from_ : Int) (last : (List Int)) (k0 : Option DT9) : Option DT9 :=
 z76 N p x2 first class_ from_ last
 (fun x35 => cond x35
 (none)
 (k0))

def z198 (N : Nat) (x : z1p SQ3) (K : Ex -> List A -> Option DT9) : Option DT9 :=
 z77 N x.1 x.2.1 x.2.2.1 x.2.2.2.1 x.2.2.2.2.1 x.2.2.2.2.2.1 (K .normal (mkS SQ71 39 (x.1, x.2.1, x.2.2.1, x.2.2.2.2.2.1, ())))

def z17a (N : Nat) : Hd DT9 := fun st K => (unS SQ3 39 (restr [4, 6, 3, 0, 5, 2] 0 st)).bind fun x => z198 N x K

def t3_25 (N : Nat) : Tab DT9 := [(zkp, z173 N)]

theorem z14x {N : Nat} {c : Ctx} (hb : Base Tryd.prog (z138 N) c) : z14 Tryd.prog c (zd zcz [0, 1, 1, 1, 1, 1]) (z17a N) :=
  z16 (s := SQ3) (m := 39) (g := z198 N) [4, 6, 3, 0, 5, 2] (zg hb N (t3_25 N) z13u zcz (TabOk.cons (z14q hb) TabOk.nil) [0, 1, 1, 1, 1, 1] _ rfl) (fun x K => by kernel_rfl)

def z2o (N : Nat) (p : DT5) : Option DT9 :=
 (z2l N p).bind fun y =>
 z79 N y.2.1 ([(0 : Int), (0 : Int), (0 : Int), (0 : Int)] : List Int) y.1.1 y.1.2.1
 (fun p1 => some (y.1.1, (p1, ())))
 (fun p2 => (z2l N p2).bind fun y1 =>
 z77 N y1.2.1 ([(0 : Int), (0 : Int), (0 : Int), (0 : Int)] : List Int) y.1.1 y1.1.2.1 p2.2.1 y1.1.1
 ((z22 N y.1.1).bind fun y2 =>
 (z22 N y1.1.1).bind fun y3 =>
 (z2a N (IntKind.wrap IntKind.u8 y2) (IntKind.wrap IntKind.u8 y3)).bind fun y4 =>
 some (y4, (y1.2.1, ()))))

def t_25 (N : Nat) : Tab DT9 := [([0, 1, 1], z18e N), ([0, 1, 1, 1, 1, 1], z17a N)]

theorem z11x (N : Nat) (x : z1p [(0, .box TT4)]) : zc6 (z138 N) N (t_25 N) z13u Tryd.f53 (mkS [(0, .box TT4)] 0 x) (z7o (.v (.arr 4 (.int .u64))) [(0, .box TT4)] 0) = z2o N x.1 := by kernel_rfl

def z6d (N : Nat) : List A -> Res := z1z [(0, .box TT4)] (fun x => z2o N x.1) (z8h (.v (.arr 4 (.int .u64))) [(0, .box TT4)] 0)

theorem z9n (N : Nat) : Contract Tryd.prog glob 53 (z6d N) :=
  Contract.of (E := z138 N) (H := t_25 N) (L := z13u) (N := N) (body := zcz) (K := (z7o (.v (.arr 4 (.int .u64))) [(0, .box TT4)] 0)) (z1c2 N) Tryd.func53 (by kernel_rfl) (by decide) (fun _ hb => (TabOk.cons (z161 hb) (TabOk.cons (z14x hb) TabOk.nil))) (fun x y h => by rw [z11x]; exact h) (z5q (s := (.v (.arr 4 (.int .u64)))) (os := [(0, .box TT4)]) (m := 0))

def zqs : Code := (Tryd.f54.body).getD .skip

def L_26 : List (List Nat × List Nat) := [([0], [2, 3, 4]), ([0, 0, 1], [6, 2, 3, 4]), ([0, 1, 0, 1], [6, 2, 3, 4]), ([0, 0, 0, 1, 0, 1], [7, 6, 2, 3, 4]), (PQ82, [6, 2, 3, 4]), ([1, 0, 1, 0, 0, 1, 0, 1], [2, 4]), ([0, 0, 0, 1, 1, 0, 0, 1, 0, 1], [5, 2, 3, 6, 4]), ([1, 0, 0, 1, 1, 0, 0, 1, 0, 1], [6, 2, 3, 4]), ([0, 1, 1, 0, 0, 1, 0, 1], [6, 2, 3, 4]), ([1, 1, 1, 0, 0, 1, 0, 1], [6, 2, 3, 4]), ([1, 0, 1], [2, 4]), ([0, 1, 1], [4]), ([1, 1, 1], [4])]

def E_26 (N : Nat) : Env := z3w tys glob [] [] [] [] false [] []

theorem z1c1 (N : Nat) : EnvOk Tryd.prog (E_26 N) := zn mixed z1v (FnsOk.nil) (ItsOk.nil)

def zgi (N : Nat) (t : (List Int)) (x4 : (List Int)) (s : (List Int)) (x6 : Int) (rec : (List Int) -> Int -> Option (List Int)) (k0 : (List Int) -> Option (List Int)) : Option (List Int) :=
 cond (decide (x6 < (4 : Int)))
 (cond (inR x6 4)
 (cond (decide ((Int.toNat x6) < (List.length s)))
 (cond (inR x6 4)
 (cond (decide ((Int.toNat x6) < (List.length t)))
 (cond (inR x6 4)
 (cond (decide ((Int.toNat x6) < (List.length s)))
 (rec (List.set s (Int.toNat x6) (bitsOp Go.BinOp.or IntKind.u64 (List.getD s (Int.toNat x6) (0 : Int)) (List.getD t (Int.toNat x6) (0 : Int)))) (IntKind.wrap IntKind.i64 (x6 + (1 : Int))))
 (none))
 (none))
 (none))
 (none))
 (none))
 (none))
 (k0 s)

def zmw (N : Nat) (s : (List Int)) (t : (List Int)) (x4 : (List Int)) (x6 : Int) (k0 : (List Int) -> Option (List Int)) : Option (List Int) :=
 iter (fun (v : ((List Int) × Int)) r => zgi N t x4 v.1 v.2 (fun s x6 => (r (s, x6))) k0) N (s, x6)

def z1ab (N : Nat) (i : ((List Int) × (List Int))) (v : ((List Int) × Int)) (r : ((List Int) × Int) -> Option (List Int)) (K : Ex -> List A -> Option (List Int)) : Option (List Int) :=
 zgi N i.1 i.2 v.1 v.2 (fun s x6 => (r (s, x6))) (fun a0 => (K (.exit 0) (mkS [(2, .box (.arr 4 (.int .u64))), (1, .box (.arr 4 (.int .u64)))] 14 (a0, i.2, ()))))

def z18d (N : Nat) : Hd (List Int) := fun st K => (unS SQ65 12 (restr [6, 2, 3, 4] 0 st)).bind fun x => iter (fun v r => z1ab N ((fun x => (x.2.1, x.2.2.1)) x) v r K) N ((fun x => (x.1, x.2.2.2.1)) x)

def t1_26 (N : Nat) : Tab (List Int) := []

theorem z160 {N : Nat} {c : Ctx} (hb : Base Tryd.prog (E_26 N) c) : z14 Tryd.prog c (zd zqs [0, 1, 0, 1]) (z18d N) :=
  z8n (s := SQ65) (m := 12) (z1ab N) [6, 2, 3, 4] N (fun x => (x.2.1, x.2.2.1)) (fun x => (x.1, x.2.2.2.1)) (fun i v => (v.1, i.1, i.2, v.2, ())) (fun _ => rfl) (zg hb N (t1_26 N) L_26 zqs TabOk.nil [0, 0, 1, 0, 1] _ rfl) (fun i v r K => by kernel_rfl)

def z92 (N : Nat) (s : (List Int)) (t : (List Int)) : Option (List Int) :=
 zmw N s t ([(0 : Int), (0 : Int), (0 : Int), (0 : Int)] : List Int) (0 : Int)
 (fun s1 => some s1)

def t_26 (N : Nat) : Tab (List Int) := [([0, 1, 0, 1], z18d N)]

theorem z11w (N : Nat) (x : z1p SQ37) : zc6 (E_26 N) N (t_26 N) L_26 Tryd.f54 (mkS SQ37 0 x) (zc5 (.v (.arr 4 (.int .u64))) 2) = z92 N x.1 x.2.1 := by kernel_rfl

def zbg (N : Nat) : List A -> Res := z1z SQ37 (fun x => z92 N x.1 x.2.1) (zfe (.v (.arr 4 (.int .u64))) 2)

theorem zgj (N : Nat) : Contract Tryd.prog glob 54 (zbg N) :=
  Contract.of (E := E_26 N) (H := t_26 N) (L := L_26) (N := N) (body := zqs) (K := (zc5 (.v (.arr 4 (.int .u64))) 2)) (z1c1 N) Tryd.func54 (by kernel_rfl) (by decide) (fun _ hb => (TabOk.cons (z160 hb) TabOk.nil)) (fun x y h => by rw [z11w]; exact h) (z5p (s := (.v (.arr 4 (.int .u64)))) (m := 2))

def zqr : Code := (Tryd.f55.body).getD .skip

def L_27 : List (List Nat × List Nat) := [([0], [1, 2]), ([0, 0, 1], [4, 1, 2]), ([0, 1, 0, 1], [4, 1, 2]), ([0, 0, 0, 1, 0, 1], [5, 4, 1, 2]), (PQ82, [4, 1, 2]), ([1, 0, 1, 0, 0, 1, 0, 1], [1, 2]), ([0, 0, 0, 1, 1, 0, 0, 1, 0, 1], [3, 1, 4, 2]), ([1, 0, 0, 1, 1, 0, 0, 1, 0, 1], [4, 1, 2]), ([0, 1, 1, 0, 0, 1, 0, 1], [4, 1, 2]), ([1, 1, 1, 0, 0, 1, 0, 1], [4, 1, 2]), ([1, 0, 1], [1, 2]), ([0, 1, 1], [2]), ([1, 1, 1], [2])]

def E_27 (N : Nat) : Env := z3w tys glob [] [] [] [] false [] []

theorem z1c0 (N : Nat) : EnvOk Tryd.prog (E_27 N) := zn mixed z1v (FnsOk.nil) (ItsOk.nil)

def zf2 (N : Nat) (x2 : (List Int)) (s : (List Int)) (x4 : Int) (rec : (List Int) -> Int -> Option (List Int)) (k0 : (List Int) -> Option (List Int)) : Option (List Int) :=
 cond (decide (x4 < (4 : Int)))
 (cond (inR x4 4)
 (cond (decide ((Int.toNat x4) < (List.length s)))
 (cond (inR x4 4)
 (cond (decide ((Int.toNat x4) < (List.length s)))
 (rec (List.set s (Int.toNat x4) (bitsOp Go.BinOp.xor IntKind.u64 (if ((IntKind.signed IntKind.u64) = true) then (-(1 : Int)) else (IntKind.max IntKind.u64)) (List.getD s (Int.toNat x4) (0 : Int)))) (IntKind.wrap IntKind.i64 (x4 + (1 : Int))))
 (none))
 (none))
 (none))
 (none))
 (k0 s)

def zkn (N : Nat) (s : (List Int)) (x2 : (List Int)) (x4 : Int) (k0 : (List Int) -> Option (List Int)) : Option (List Int) :=
 iter (fun (v : ((List Int) × Int)) r => zf2 N x2 v.1 v.2 (fun s x4 => (r (s, x4))) k0) N (s, x4)

def z1aa (N : Nat) (i : (List Int)) (v : ((List Int) × Int)) (r : ((List Int) × Int) -> Option (List Int)) (K : Ex -> List A -> Option (List Int)) : Option (List Int) :=
 zf2 N i v.1 v.2 (fun s x4 => (r (s, x4))) (fun a0 => (K (.exit 0) (mkS [(1, .box (.arr 4 (.int .u64))), (0, .box (.arr 4 (.int .u64)))] 12 (a0, i, ()))))

def z18c (N : Nat) : Hd (List Int) := fun st K => (unS [(1, .box (.arr 4 (.int .u64))), (0, .box (.arr 4 (.int .u64))), (1, .v (.int .i64))] 10 (restr [4, 1, 2] 0 st)).bind fun x => iter (fun v r => z1aa N ((fun x => x.2.1) x) v r K) N ((fun x => (x.1, x.2.2.1)) x)

def t1_27 (N : Nat) : Tab (List Int) := []

theorem z15z {N : Nat} {c : Ctx} (hb : Base Tryd.prog (E_27 N) c) : z14 Tryd.prog c (zd zqr [0, 1, 0, 1]) (z18c N) :=
  z8n (s := [(1, .box (.arr 4 (.int .u64))), (0, .box (.arr 4 (.int .u64))), (1, .v (.int .i64))]) (m := 10) (z1aa N) [4, 1, 2] N (fun x => x.2.1) (fun x => (x.1, x.2.2.1)) (fun i v => (v.1, i, v.2, ())) (fun _ => rfl) (zg hb N (t1_27 N) L_27 zqr TabOk.nil [0, 0, 1, 0, 1] _ rfl) (fun i v r K => by kernel_rfl)

def z84 (N : Nat) (s : (List Int)) : Option (List Int) :=
 zkn N s ([(0 : Int), (0 : Int), (0 : Int), (0 : Int)] : List Int) (0 : Int)
 (fun s1 => some s1)

def t_27 (N : Nat) : Tab (List Int) := [([0, 1, 0, 1], z18c N)]

theorem z11v (N : Nat) (x : z1p zyl) : zc6 (E_27 N) N (t_27 N) L_27 Tryd.f55 (mkS zyl 0 x) (zc5 (.v (.arr 4 (.int .u64))) 1) = z84 N x.1 := by kernel_rfl

def zaw (N : Nat) : List A -> Res := z1z zyl (fun x => z84 N x.1) (zfe (.v (.arr 4 (.int .u64))) 1)

theorem zf3 (N : Nat) : Contract Tryd.prog glob 55 (zaw N) :=
  Contract.of (E := E_27 N) (H := t_27 N) (L := L_27) (N := N) (body := zqr) (K := (zc5 (.v (.arr 4 (.int .u64))) 1)) (z1c0 N) Tryd.func55 (by kernel_rfl) (by decide) (fun _ hb => (TabOk.cons (z15z hb) TabOk.nil)) (fun x y h => by rw [z11v]; exact h) (z5p (s := (.v (.arr 4 (.int .u64)))) (m := 1))

def zqq : Code := (Tryd.f42.body).getD .skip

def L_28 : List (List Nat × List Nat) := [([0], [0, 2]), ([0, 1], [0, 2]), ([0, 1, 1], [0, 3, 2]), ([0, 1, 1, 1], [0, 4, 3, 2]), ([0, 0, 1, 1, 1, 1], [0, 4, 3, 2]), (zys, [13, 4, 0, 3, 2]), (zyr, [4, 0, 3, 2]), (PQ99, [3, 4, 2, 0]), ([0, 1, 0, 0, 0, 1, 1, 1, 1], [0, 4, 3, 2]), (zyp, [0, 4, 3, 2]), ([0, 1, 1, 1, 1], [3, 4, 2, 0]), (zkp, [18, 4, 2, 0]), (zyn, [4, 2, 0]), (PQ59, [2, 0]), (PQ92, [2, 0]), (ztx, [2, 0]), (zu0, [2, 0])]

def E_28 (N : Nat) : Env := z3w tys glob [(55, zaw N), (54, zbg N), (53, z6d N), (26, z1c N), (46, z1e N)] [] [] [0] false [] []

theorem z1bz (N : Nat) : EnvOk Tryd.prog (E_28 N) := zn mixed z1v (FnsOk.cons (zf3 N) (FnsOk.cons (zgj N) (FnsOk.cons (z9n N) (FnsOk.cons (z1q N) (FnsOk.cons (z1r N) (FnsOk.nil)))))) (ItsOk.nil)

def z3n (N : Nat) (x2 : (List Int)) (not_ : Bool) (p : DT5) (set_ : (List Int)) (rec : DT5 -> (List Int) -> Option DT9) (k0 : DT5 -> (List Int) -> Option DT9) : Option DT9 :=
 (zp N p (93 : Int)).bind fun y =>
 cond (!y.1)
 ((z2o N y.2.1).bind fun y1 =>
 (z92 N set_ y1.1).bind fun y2 =>
 rec y1.2.1 y2)
 (k0 y.2.1 set_)

def z8d (N : Nat) (p : DT5) (x2 : (List Int)) (not_ : Bool) (set_ : (List Int)) (k0 : DT5 -> (List Int) -> Option DT9) : Option DT9 :=
 iter (fun (v : (DT5 × (List Int))) r => z3n N x2 not_ v.1 v.2 (fun p set_ => (r (p, set_))) k0) N (p, set_)

def z1a9 (N : Nat) (i : ((List Int) × Bool)) (v : (DT5 × (List Int))) (r : (DT5 × (List Int)) -> Option DT9) (K : Ex -> List A -> Option DT9) : Option DT9 :=
 z3n N i.1 i.2 v.1 v.2 (fun p set_ => (r (p, set_))) (fun a0 a3 => (K (.exit 0) (mkS z13m 17 (a0, i.1, i.2, a3, ()))))

def z18b (N : Nat) : Hd DT9 := fun st K => (unS z13m 17 (restr [0, 4, 3, 2] 0 st)).bind fun x => iter (fun v r => z1a9 N ((fun x => (x.2.1, x.2.2.1)) x) v r K) N ((fun x => (x.1, x.2.2.2.1)) x)

def t1_28 (N : Nat) : Tab DT9 := []

theorem z15y {N : Nat} {c : Ctx} (hb : Base Tryd.prog (E_28 N) c) : z14 Tryd.prog c (zd zqq [0, 0, 1, 1, 1, 1]) (z18b N) :=
  z8n (s := z13m) (m := 17) (z1a9 N) [0, 4, 3, 2] N (fun x => (x.2.1, x.2.2.1)) (fun x => (x.1, x.2.2.2.1)) (fun i v => (v.1, i.1, i.2, v.2, ())) (fun _ => rfl) (zg hb N (t1_28 N) L_28 zqq TabOk.nil [0, 0, 0, 1, 1, 1, 1] _ rfl) (fun i v r K => by kernel_rfl)

def z2p (N : Nat) (p : DT5) : Option DT9 :=
 (zq N p (91 : Int)).bind fun y =>
 (zp N y.2.1 (94 : Int)).bind fun y1 =>
 (z2o N y1.2.1).bind fun y2 =>
 z8d N y2.2.1 ([(0 : Int), (0 : Int), (0 : Int), (0 : Int)] : List Int) y1.1 y2.1
 (fun p1 set_ => cond y1.1
 ((z84 N set_).bind fun y3 =>
 some (y3, (p1, ())))
 (some (set_, (p1, ()))))

def t_28 (N : Nat) : Tab DT9 := [([0, 0, 1, 1, 1, 1], z18b N)]

theorem z11u (N : Nat) (x : z1p [(0, .box TT4)]) : zc6 (E_28 N) N (t_28 N) L_28 Tryd.f42 (mkS [(0, .box TT4)] 0 x) (z7o (.v (.arr 4 (.int .u64))) [(0, .box TT4)] 0) = z2p N x.1 := by kernel_rfl

def z4p (N : Nat) : List A -> Res := z1z [(0, .box TT4)] (fun x => z2p N x.1) (z8h (.v (.arr 4 (.int .u64))) [(0, .box TT4)] 0)

theorem z8e (N : Nat) : Contract Tryd.prog glob 42 (z4p N) :=
  Contract.of (E := E_28 N) (H := t_28 N) (L := L_28) (N := N) (body := zqq) (K := (z7o (.v (.arr 4 (.int .u64))) [(0, .box TT4)] 0)) (z1bz N) Tryd.func42 (by kernel_rfl) (by decide) (fun _ hb => (TabOk.cons (z15y hb) TabOk.nil)) (fun x y h => by rw [z11u]; exact h) (z5q (s := (.v (.arr 4 (.int .u64)))) (os := [(0, .box TT4)]) (m := 0))

def zqp : Code := (Tryd.f34.body).getD .skip

def L_29 : List (List Nat × List Nat) := [([0], [0, 2]), ([0, 1], [3, 0, 2]), ([0, 1, 1], [15, 0, 2, 3]), ([0, 0, 1, 1, 1], [36, 0, 2, 15, 3]), ([1, 0, 1, 1, 1], [2, 0]), ([0, 1, 1, 0, 1, 1, 1], [40, 0, 2, 15, 3]), ([1, 1, 1, 0, 1, 1, 1], [2, 0]), ([0, 1, 1, 1, 1, 0, 1, 1, 1], [51, 0, 2, 15, 3]), ([1, 1, 1, 1, 1, 0, 1, 1, 1], [2, 0]), ([0, 1, 1, 1, 1, 1, 1, 0, 1, 1, 1], [56, 0, 2, 3]), ([1, 1, 1, 1, 1, 1, 1, 0, 1, 1, 1], [2, 0]), ([0, 0, 1, 1, 1, 1, 1, 1, 1, 1, 0, 1, 1, 1], [18, 0, 3, 2]), ([1, 0, 1, 1, 1, 1, 1, 1, 1, 1, 0, 1, 1, 1], [0, 3, 2]), ([0, 1, 0, 1, 1, 1, 1, 1, 1, 1, 1, 0, 1, 1, 1], [0, 3, 2]), ([0, 1, 1, 1, 1, 1, 1, 1, 1, 1, 0, 1, 1, 1], [3, 2, 0]), ([0, 1, 1, 1, 1, 1, 1, 1, 1, 1, 1, 0, 1, 1, 1], [2, 0]), ([1, 1, 1, 1, 1, 1, 1, 1, 1, 1, 1, 0, 1, 1, 1], [2, 0]), ([0, 0, 1, 1, 1, 1, 1, 1, 1, 0, 1, 1, 1], [4, 2, 0]), ([0, 1, 0, 1, 1, 1, 1, 1, 1, 1, 0, 1, 1, 1], [2, 0]), ([1, 1, 0, 1, 1, 1, 1, 1, 1, 1, 0, 1, 1, 1], [2, 0]), ([0, 0, 1, 1, 1, 1, 1, 0, 1, 1, 1], [2, 0]), ([1, 0, 1, 1, 1, 1, 1, 0, 1, 1, 1], [2, 0]), ([0, 0, 1, 1, 1, 0, 1, 1, 1], [2, 0]), ([0, 1, 0, 1, 1, 1, 0, 1, 1, 1], [2, 0]), ([1, 1, 0, 1, 1, 1, 0, 1, 1, 1], [2, 0]), (z1b7, [2, 0]), (z1b6, [2, 0]), ([1, 1, 1], [2, 0])]

def E_29 (N : Nat) (self : z8) : Env := z3w tys glob [(42, z4p N), (43, z2u N), (44, z3f N), (40, zcf N), (41, z3e N), (39, z61 N self), (19, z1z [(0, .box TT4)] (fun x => self x.1) (z8h (.v TT0) [(0, .box TT4)] 0))] [] [] [0] false [] []

theorem z1by (N : Nat) (self : z8) (hself : Contract Tryd.prog glob 19 (z1z [(0, .box TT4)] (fun x => self x.1) (z8h (.v TT0) [(0, .box TT4)] 0))) : EnvOk Tryd.prog (E_29 N self) := zn mixed z1v (FnsOk.cons (z8e N) (FnsOk.cons (z47 N) (FnsOk.cons (z4s N) (FnsOk.cons (zhr N) (FnsOk.cons (z4l N) (FnsOk.cons (z9d N self hself) (FnsOk.cons (hself) (FnsOk.nil)))))))) (ItsOk.nil)

def z7c (N : Nat) (self : z8) (p : DT5) (x2 : DT1) (b : Int) (k0 : Option (DT1 × (DT5 × Unit))) : Option (DT1 × (DT5 × Unit)) :=
 cond (decide ((0 : Int) <= (Go.Lib.indexByte ([(92 : UInt8), (46 : UInt8), (91 : UInt8), (93 : UInt8), (40 : UInt8), (41 : UInt8), (123 : UInt8), (125 : UInt8), (124 : UInt8), (42 : UInt8), (43 : UInt8), (63 : UInt8)] : List UInt8) (Nat.toUInt8 (Int.toNat b)))))
 (none)
 (k0)

def z1a8 (N : Nat) (self : z8) (x : z1p z101) (K : Ex -> List A -> Option (DT1 × (DT5 × Unit))) : Option (DT1 × (DT5 × Unit)) :=
 z7c N self x.1 x.2.1 x.2.2.1 (K .normal (mkS z101 61 (x.1, x.2.1, x.2.2.1, ())))

def z18a (N : Nat) (self : z8) : Hd (DT1 × (DT5 × Unit)) := fun st K => (unS z101 61 (restr [3, 0, 2] 0 st)).bind fun x => z1a8 N self x K

def t1_29 (N : Nat) (self : z8) : Tab (DT1 × (DT5 × Unit)) := []

theorem z15x {N : Nat} {self : z8} {c : Ctx} (hb : Base Tryd.prog (E_29 N self) c) : z14 Tryd.prog c (zd zqp z13o) (z18a N self) :=
  z16 (s := z101) (m := 61) (g := z1a8 N self) [3, 0, 2] (zg hb N (t1_29 N self) L_29 zqp TabOk.nil z13o _ rfl) (fun x K => by kernel_rfl)

def z3z (N : Nat) (self : z8) (p : DT5) : Option (DT1 × (DT5 × Unit)) :=
 cond (inR p.2.1 (List.length p.1))
 (cond ((((UInt8.toNat (List.getD p.1 (Int.toNat p.2.1) (0 : UInt8))) : Nat) : Int) == (40 : Int))
 ((z3m N self p).bind fun y =>
 some (y.1, (y.2.1, ())))
 (cond ((((UInt8.toNat (List.getD p.1 (Int.toNat p.2.1) (0 : UInt8))) : Nat) : Int) == (46 : Int))
 ((z2a N (0 : Int) (255 : Int)).bind fun y1 =>
 some (((1 : Int), (y1, (([] : List Tree), ((0 : Int), ((0 : Int), ()))))), ((p.1, ((IntKind.wrap IntKind.i64 (p.2.1 + (1 : Int))), p.2.2)), ())))
 (cond ((((UInt8.toNat (List.getD p.1 (Int.toNat p.2.1) (0 : UInt8))) : Nat) : Int) == (91 : Int))
 ((z2p N p).bind fun y2 =>
 some (((1 : Int), (y2.1, (([] : List Tree), ((0 : Int), ((0 : Int), ()))))), (y2.2.1, ())))
 (cond ((((UInt8.toNat (List.getD p.1 (Int.toNat p.2.1) (0 : UInt8))) : Nat) : Int) == (92 : Int))
 ((z1w N p).bind fun y3 =>
 some (((1 : Int), (y3.1.1, (([] : List Tree), ((0 : Int), ((0 : Int), ()))))), (y3.2.1, ())))
 (z7c N self p ((0 : Int), (([(0 : Int), (0 : Int), (0 : Int), (0 : Int)] : List Int), (([] : List Tree), ((0 : Int), ((0 : Int), ()))))) (((UInt8.toNat (List.getD p.1 (Int.toNat p.2.1) (0 : UInt8))) : Nat) : Int)
 ((z2a N (((UInt8.toNat (List.getD p.1 (Int.toNat p.2.1) (0 : UInt8))) : Nat) : Int) (((UInt8.toNat (List.getD p.1 (Int.toNat p.2.1) (0 : UInt8))) : Nat) : Int)).bind fun y4 =>
 some (((1 : Int), (y4, (([] : List Tree), ((0 : Int), ((0 : Int), ()))))), ((p.1, ((IntKind.wrap IntKind.i64 (p.2.1 + (1 : Int))), p.2.2)), ()))))))))
 (none)

def t_29 (N : Nat) (self : z8) : Tab (DT1 × (DT5 × Unit)) := [(z13o, z18a N self)]

theorem z11t (N : Nat) (self : z8) (x : z1p [(0, .box TT4)]) : zc6 (E_29 N self) N (t_29 N self) L_29 Tryd.f34 (mkS [(0, .box TT4)] 0 x) (z7o (.v TT0) [(0, .box TT4)] 0) = z3z N self x.1 := by kernel_rfl

def z6h (N : Nat) (self : z8) : List A -> Res := z1z [(0, .box TT4)] (fun x => z3z N self x.1) (z8h (.v TT0) [(0, .box TT4)] 0)

theorem z9o (N : Nat) (self : z8) (hself : Contract Tryd.prog glob 19 (z1z [(0, .box TT4)] (fun x => self x.1) (z8h (.v TT0) [(0, .box TT4)] 0))) : Contract Tryd.prog glob 34 (z6h N self) :=
  Contract.of (E := E_29 N self) (H := t_29 N self) (L := L_29) (N := N) (body := zqp) (K := (z7o (.v TT0) [(0, .box TT4)] 0)) (z1by N self hself) Tryd.func34 (by kernel_rfl) (by decide) (fun _ hb => (TabOk.cons (z15x hb) TabOk.nil)) (fun x y h => by rw [z11t]; exact h) (z5q (s := (.v TT0)) (os := [(0, .box TT4)]) (m := 0))

def z96 : Code := (Tryd.f45.body).getD .skip

def z106 : List (List Nat × List Nat) := [([0], [0]), ([0, 1], [0, 3]), ([0, 0, 1, 1], [12, 0, 3]), ([1, 0, 1, 1], [0, 3]), ([0, 1, 0, 1, 1], [0, 3]), ([0, 1, 1, 1], [0, 4, 3]), ([0, 0, 1, 1, 1, 1], [0, 4, 3]), (zys, [37, 4, 0, 3]), (zyr, [4, 0, 3]), (PQ99, [0, 3, 4]), ([0, 0, 1, 0, 0, 0, 1, 1, 1, 1], [0, 4, 3]), ([1, 0, 1, 0, 0, 0, 1, 1, 1, 1], [0, 4, 3]), (zyp, [0, 4, 3]), ([0, 1, 1, 1, 1], [0, 3, 4]), (zkp, [75, 0, 3, 4]), (zyn, [4, 0, 3]), (ztz, [4, 0, 3]), (z13r, [80, 0, 3, 4]), (PQ73, [4, 0]), (z1b8, [4, 0]), (z13q, [2, 0]), (z13p, [2, 0])]

def zyy (N : Nat) : Env := z3w tys glob [(60, z6i N), (56, zy N)] [] [] [0] false [] []

theorem z1bx (N : Nat) : EnvOk Tryd.prog (zyy N) := zn mixed z1v (FnsOk.cons (z97 N) (FnsOk.cons (z19 N) (FnsOk.nil))) (ItsOk.nil)

def z7w (N : Nat) (p : DT5) (from_ : Int) (k0 : DT5 -> Option (Int × (DT5 × Unit))) : Option (Int × (DT5 × Unit)) :=
 (zz N p).bind fun y =>
 (z4q N y.1).bind fun y1 =>
 cond (!y1)
 (none)
 (k0 y.2.1)

def z1a7 (N : Nat) (x : z1p z100) (K : Ex -> List A -> Option (Int × (DT5 × Unit))) : Option (Int × (DT5 × Unit)) :=
 z7w N x.1 x.2.1 (fun a0 => (K .normal (mkS z100 81 (a0, x.2.1, ()))))

def z189 (N : Nat) : Hd (Int × (DT5 × Unit)) := fun st K => (unS z100 81 (restr [0, 3] 0 st)).bind fun x => z1a7 N x K

def t1_30 (N : Nat) : Tab (Int × (DT5 × Unit)) := []

theorem z15w {N : Nat} {c : Ctx} (hb : Base Tryd.prog (zyy N) c) : z14 Tryd.prog c (zd z96 [0, 1, 1]) (z189 N) :=
  z16 (s := z100) (m := 81) (g := z1a7 N) [0, 3] (zg hb N (t1_30 N) z106 z96 TabOk.nil [0, 1, 1] _ rfl) (fun x K => by kernel_rfl)

def z5c (N : Nat) (p : DT5) (from_ : Int) (n : Int) (k0 : Option (Int × (DT5 × Unit))) (k1 : Option (Int × (DT5 × Unit))) : Option (Int × (DT5 × Unit)) :=
 cond (decide (p.2.1 < (((List.length p.1) : Nat) : Int)))
 (cond (inR p.2.1 (List.length p.1))
 ((z4q N (((UInt8.toNat (List.getD p.1 (Int.toNat p.2.1) (0 : UInt8))) : Nat) : Int)).bind fun y =>
 cond y
 (k0)
 (k1))
 (none))
 (k1)

def z190 (N : Nat) (x : z1p SQ0) (K : Ex -> List A -> Option (Int × (DT5 × Unit))) : Option (Int × (DT5 × Unit)) :=
 z5c N x.1 x.2.1 x.2.2.1 (K .normal (mkS SQ0 80 (x.1, x.2.1, x.2.2.1, ()))) (K (.exit 0) (mkS SQ0 80 (x.1, x.2.1, x.2.2.1, ())))

def z172 (N : Nat) : Hd (Int × (DT5 × Unit)) := fun st K => (unS SQ0 80 (restr [0, 4, 3] 0 st)).bind fun x => z190 N x K

def t4_30 (N : Nat) : Tab (Int × (DT5 × Unit)) := []

theorem z14p {N : Nat} {c : Ctx} (hb : Base Tryd.prog (zyy N) c) : z14 Tryd.prog c (zd z96 zty) (z172 N) :=
  z16 (s := SQ0) (m := 80) (g := z190 N) [0, 4, 3] (zg hb N (t4_30 N) z106 z96 TabOk.nil zty _ rfl) (fun x K => by kernel_rfl)

def z2i (N : Nat) (from_ : Int) (p : DT5) (n : Int) (rec : DT5 -> Int -> Option (Int × (DT5 × Unit))) (k0 : DT5 -> Int -> Option (Int × (DT5 × Unit))) : Option (Int × (DT5 × Unit)) :=
 z5c N p from_ n
 (cond (inR p.2.1 (List.length p.1))
 (rec (p.1, ((IntKind.wrap IntKind.i64 (p.2.1 + (1 : Int))), p.2.2)) (if ((17 : Int) < (IntKind.wrap IntKind.i64 ((IntKind.wrap IntKind.i64 ((10 : Int) * n)) + (IntKind.wrap IntKind.i64 (IntKind.wrap IntKind.u8 ((((UInt8.toNat (List.getD p.1 (Int.toNat p.2.1) (0 : UInt8))) : Nat) : Int) - (48 : Int))))))) then (17 : Int) else (IntKind.wrap IntKind.i64 ((IntKind.wrap IntKind.i64 ((10 : Int) * n)) + (IntKind.wrap IntKind.i64 (IntKind.wrap IntKind.u8 ((((UInt8.toNat (List.getD p.1 (Int.toNat p.2.1) (0 : UInt8))) : Nat) : Int) - (48 : Int))))))))
 (none))
 (k0 p n)

def zac (N : Nat) (p : DT5) (from_ : Int) (n : Int) (k0 : DT5 -> Int -> Option (Int × (DT5 × Unit))) : Option (Int × (DT5 × Unit)) :=
 iter (fun (v : (DT5 × Int)) r => z2i N from_ v.1 v.2 (fun p n => (r (p, n))) k0) N (p, n)

def z197 (N : Nat) (i : Int) (v : (DT5 × Int)) (r : (DT5 × Int) -> Option (Int × (DT5 × Unit))) (K : Ex -> List A -> Option (Int × (DT5 × Unit))) : Option (Int × (DT5 × Unit)) :=
 z2i N i v.1 v.2 (fun p n => (r (p, n))) (fun a0 a2 => (K (.exit 0) (mkS SQ0 80 (a0, i, a2, ()))))

def z179 (N : Nat) : Hd (Int × (DT5 × Unit)) := fun st K => (unS SQ0 80 (restr [0, 4, 3] 0 st)).bind fun x => iter (fun v r => z197 N ((fun x => x.2.1) x) v r K) N ((fun x => (x.1, x.2.2.1)) x)

def t3_30 (N : Nat) : Tab (Int × (DT5 × Unit)) := [(zty, z172 N)]

theorem z14w {N : Nat} {c : Ctx} (hb : Base Tryd.prog (zyy N) c) : z14 Tryd.prog c (zd z96 [0, 0, 1, 1, 1, 1]) (z179 N) :=
  z8n (s := SQ0) (m := 80) (z197 N) [0, 4, 3] N (fun x => x.2.1) (fun x => (x.1, x.2.2.1)) (fun i v => (v.1, i, v.2, ())) (fun _ => rfl) (zg hb N (t3_30 N) z106 z96 (TabOk.cons (z14p hb) TabOk.nil) [0, 0, 0, 1, 1, 1, 1] _ rfl) (fun i v r K => by kernel_rfl)

def z7v (N : Nat) (p : DT5) (from_ : Int) (n : Int) (k0 : DT5 -> Int -> Option (Int × (DT5 × Unit))) : Option (Int × (DT5 × Unit)) :=
 zac N p from_ n
 (fun p1 n1 => k0 p1 n1)

def z19i (N : Nat) (x : z1p SQ0) (K : Ex -> List A -> Option (Int × (DT5 × Unit))) : Option (Int × (DT5 × Unit)) :=
 z7v N x.1 x.2.1 x.2.2.1 (fun a0 a2 => (K .normal (mkS SQ0 80 (a0, x.2.1, a2, ()))))

def z17k (N : Nat) : Hd (Int × (DT5 × Unit)) := fun st K => (unS SQ0 80 (restr [0, 4, 3] 0 st)).bind fun x => z19i N x K

def t2_30 (N : Nat) : Tab (Int × (DT5 × Unit)) := [([0, 0, 1, 1, 1, 1], z179 N)]

theorem z157 {N : Nat} {c : Ctx} (hb : Base Tryd.prog (zyy N) c) : z14 Tryd.prog c (zd z96 [0, 1, 1, 1, 1]) (z17k N) :=
  z16 (s := SQ0) (m := 80) (g := z19i N) [0, 4, 3] (zg hb N (t2_30 N) z106 z96 (TabOk.cons (z14w hb) TabOk.nil) [0, 1, 1, 1, 1] _ rfl) (fun x K => by kernel_rfl)

def z7t (N : Nat) (p : DT5) (from_ : Int) (n : Int) (k0 : Bool -> Option (Int × (DT5 × Unit))) : Option (Int × (DT5 × Unit)) :=
 cond (inR from_ (List.length p.1))
 (cond ((((UInt8.toNat (List.getD p.1 (Int.toNat from_) (0 : UInt8))) : Nat) : Int) == (48 : Int))
 (k0 (decide ((IntKind.wrap IntKind.i64 (from_ + (1 : Int))) < p.2.1)))
 (k0 false))
 (none)

def z18t (N : Nat) (x : z1p SQ0) (K : Ex -> List A -> Option (Int × (DT5 × Unit))) : Option (Int × (DT5 × Unit)) :=
 z7t N x.1 x.2.1 x.2.2.1 (fun a3 => (K .normal (mkS [(0, .box TT4), (2, .v (.int .i64)), (0, .v (.int .i64)), (70, .v .bool)] 9 (x.1, x.2.1, x.2.2.1, a3, ()))))

def z16v (N : Nat) : Hd (Int × (DT5 × Unit)) := fun st K => (unS SQ0 80 (restr [0, 3, 4] 0 st)).bind fun x => z18t N x K

def t6_30 (N : Nat) : Tab (Int × (DT5 × Unit)) := []

theorem z14i {N : Nat} {c : Ctx} (hb : Base Tryd.prog (zyy N) c) : z14 Tryd.prog c (zd z96 zkp) (z16v N) :=
  z16 (s := SQ0) (m := 80) (g := z18t N) [0, 3, 4] (zg hb N (t6_30 N) z106 z96 TabOk.nil zkp _ rfl) (fun x K => by kernel_rfl)

def z7u (N : Nat) (p : DT5) (from_ : Int) (n : Int) (k0 : Option (Int × (DT5 × Unit))) : Option (Int × (DT5 × Unit)) :=
 z7t N p from_ n
 (fun x75 => cond x75
 (none)
 (k0))

def z18w (N : Nat) (x : z1p SQ0) (K : Ex -> List A -> Option (Int × (DT5 × Unit))) : Option (Int × (DT5 × Unit)) :=
 z7u N x.1 x.2.1 x.2.2.1 (K .normal (mkS SQ0 80 (x.1, x.2.1, x.2.2.1, ())))

def z16y (N : Nat) : Hd (Int × (DT5 × Unit)) := fun st K => (unS SQ0 80 (restr [0, 3, 4] 0 st)).bind fun x => z18w N x K

def t5_30 (N : Nat) : Tab (Int × (DT5 × Unit)) := [(zkp, z16v N)]

theorem z14l {N : Nat} {c : Ctx} (hb : Base Tryd.prog (zyy N) c) : z14 Tryd.prog c (zd z96 [0, 1, 1, 1, 1, 1]) (z16y N) :=
  z16 (s := SQ0) (m := 80) (g := z18w N) [0, 3, 4] (zg hb N (t5_30 N) z106 z96 (TabOk.cons (z14i hb) TabOk.nil) [0, 1, 1, 1, 1, 1] _ rfl) (fun x K => by kernel_rfl)

def z33 (N : Nat) (p : DT5) : Option (Int × (DT5 × Unit)) :=
 z7w N p p.2.1
 (fun p1 => z7v N p1 p.2.1 (0 : Int)
 (fun p2 n => z7u N p2 p.2.1 n
 (cond (decide ((16 : Int) < n))
 (none)
 (some (n, (p2, ()))))))

def t_30 (N : Nat) : Tab (Int × (DT5 × Unit)) := [([0, 1, 1], z189 N), ([0, 1, 1, 1, 1], z17k N), ([0, 1, 1, 1, 1, 1], z16y N)]

theorem z11s (N : Nat) (x : z1p [(0, .box TT4)]) : zc6 (zyy N) N (t_30 N) z106 Tryd.f45 (mkS [(0, .box TT4)] 0 x) (z7o (.v (.int .i64)) [(0, .box TT4)] 0) = z33 N x.1 := by kernel_rfl

def z73 (N : Nat) : List A -> Res := z1z [(0, .box TT4)] (fun x => z33 N x.1) (z8h (.v (.int .i64)) [(0, .box TT4)] 0)

theorem zad (N : Nat) : Contract Tryd.prog glob 45 (z73 N) :=
  Contract.of (E := zyy N) (H := t_30 N) (L := z106) (N := N) (body := z96) (K := (z7o (.v (.int .i64)) [(0, .box TT4)] 0)) (z1bx N) Tryd.func45 (by kernel_rfl) (by decide) (fun _ hb => (TabOk.cons (z15w hb) (TabOk.cons (z157 hb) (TabOk.cons (z14l hb) TabOk.nil)))) (fun x y h => by rw [z11s]; exact h) (z5q (s := (.v (.int .i64))) (os := [(0, .box TT4)]) (m := 0))

def zk5 : Code := (Tryd.f35.body).getD .skip

def L_31 : List (List Nat × List Nat) := [([0], [0]), ([0, 1], [0, 4]), ([0, 1, 1], [2, 0, 4]), ([0, 1, 1, 1], [0, 2, 3, 4]), ([0, 0, 1, 1, 1, 1], [13, 0, 2, 3, 4]), ([1, 0, 1, 1, 1, 1], [3, 2, 0, 4]), ([0, 0, 0, 1, 0, 1, 1, 1, 1], [15, 2, 0]), ([1, 0, 0, 1, 0, 1, 1, 1, 1], [0, 2]), ([0, 0, 1, 0, 0, 1, 0, 1, 1, 1, 1], [2, 3, 0]), ([1, 0, 1, 0, 0, 1, 0, 1, 1, 1, 1], [2, 3, 0]), ([0, 1, 0, 1, 0, 1, 1, 1, 1], [0, 2, 4]), ([1, 1, 0, 1, 0, 1, 1, 1, 1], [3, 2, 0, 4]), (zkp, [26, 0, 4, 2, 3]), (zyn, [0, 2, 3]), (ztz, [0, 2, 3]), (ztx, [2, 3, 0]), (z13q, [2, 3, 0]), (z13p, [2, 3, 0])]

def z1cl (N : Nat) : Env := z3w tys glob [(45, z73 N), (26, z1c N), (46, z1e N)] [] [] [0] false [] []

theorem z1bw (N : Nat) : EnvOk Tryd.prog (z1cl N) := zn mixed z1v (FnsOk.cons (zad N) (FnsOk.cons (z1q N) (FnsOk.cons (z1r N) (FnsOk.nil)))) (ItsOk.nil)

def z63 (N : Nat) (p : DT5) (low : Int) (high : Int) (from_ : Int) (k0 : DT5 -> Int -> Option ((Int × Int × Unit) × (DT5 × Unit))) (k1 : DT5 -> Int -> Int -> Option ((Int × Int × Unit) × (DT5 × Unit))) : Option ((Int × Int × Unit) × (DT5 × Unit)) :=
 (zp N p (44 : Int)).bind fun y =>
 cond y.1
 ((zp N y.2.1 (125 : Int)).bind fun y1 =>
 cond y1.1
 (k0 y1.2.1 (-(1 : Int)))
 ((z33 N y1.2.1).bind fun y2 =>
 k1 y2.2.1 y2.1 y1.2.1.2.1))
 (k1 y.2.1 high from_)

def z1a6 (N : Nat) (x : z1p SQ8) (K : Ex -> List A -> Option ((Int × Int × Unit) × (DT5 × Unit))) : Option ((Int × Int × Unit) × (DT5 × Unit)) :=
 z63 N x.1 x.2.1 x.2.2.1 x.2.2.2.1 (fun a0 a2 => (K .ret (mkS SQ67 30 (a0, x.2.1, a2, ())))) (fun a0 a2 a3 => (K .normal (mkS SQ8 29 (a0, x.2.1, a2, a3, ()))))

def z188 (N : Nat) : Hd ((Int × Int × Unit) × (DT5 × Unit)) := fun st K => (unS SQ8 29 (restr [0, 2, 3, 4] 0 st)).bind fun x => z1a6 N x K

def t1_31 (N : Nat) : Tab ((Int × Int × Unit) × (DT5 × Unit)) := []

theorem z15v {N : Nat} {c : Ctx} (hb : Base Tryd.prog (z1cl N) c) : z14 Tryd.prog c (zd zk5 [0, 1, 1, 1, 1]) (z188 N) :=
  z16 (s := SQ8) (m := 29) (g := z1a6 N) [0, 2, 3, 4] (zg hb N (t1_31 N) L_31 zk5 TabOk.nil [0, 1, 1, 1, 1] _ rfl) (fun x K => by kernel_rfl)

def z48 (N : Nat) (p : DT5) (low : Int) (high : Int) (from_ : Int) (k0 : Option ((Int × Int × Unit) × (DT5 × Unit))) : Option ((Int × Int × Unit) × (DT5 × Unit)) :=
 cond (decide (high < (if ((1 : Int) > low) then (1 : Int) else low)))
 (none)
 (k0)

def z19h (N : Nat) (x : z1p SQ8) (K : Ex -> List A -> Option ((Int × Int × Unit) × (DT5 × Unit))) : Option ((Int × Int × Unit) × (DT5 × Unit)) :=
 z48 N x.1 x.2.1 x.2.2.1 x.2.2.2.1 (K .normal (mkS SQ67 30 (x.1, x.2.1, x.2.2.1, ())))

def z17j (N : Nat) : Hd ((Int × Int × Unit) × (DT5 × Unit)) := fun st K => (unS SQ8 29 (restr [3, 2, 0, 4] 0 st)).bind fun x => z19h N x K

def t2_31 (N : Nat) : Tab ((Int × Int × Unit) × (DT5 × Unit)) := []

theorem z156 {N : Nat} {c : Ctx} (hb : Base Tryd.prog (z1cl N) c) : z14 Tryd.prog c (zd zk5 [0, 1, 1, 1, 1, 1]) (z17j N) :=
  z16 (s := SQ8) (m := 29) (g := z19h N) [3, 2, 0, 4] (zg hb N (t2_31 N) L_31 zk5 TabOk.nil [0, 1, 1, 1, 1, 1] _ rfl) (fun x K => by kernel_rfl)

def z39 (N : Nat) (p : DT5) : Option ((Int × Int × Unit) × (DT5 × Unit)) :=
 (z33 N p).bind fun y =>
 z63 N y.2.1 y.1 y.1 p.2.1
 (fun p1 high => some ((y.1, (high, ())), (p1, ())))
 (fun p2 high1 from_ => z48 N p2 y.1 high1 from_
 ((zq N p2 (125 : Int)).bind fun y1 =>
 some ((y.1, (high1, ())), (y1.2.1, ()))))

def t_31 (N : Nat) : Tab ((Int × Int × Unit) × (DT5 × Unit)) := [([0, 1, 1, 1, 1], z188 N), ([0, 1, 1, 1, 1, 1], z17j N)]

theorem z11r (N : Nat) (x : z1p [(0, .box TT4)]) : zc6 (z1cl N) N (t_31 N) L_31 Tryd.f35 (mkS [(0, .box TT4)] 0 x) (z7o (.tup [(.int .i64), (.int .i64)]) [(0, .box TT4)] 0) = z39 N x.1 := by kernel_rfl

def z5l (N : Nat) : List A -> Res := z1z [(0, .box TT4)] (fun x => z39 N x.1) (z8h (.tup [(.int .i64), (.int .i64)]) [(0, .box TT4)] 0)

theorem z8r (N : Nat) : Contract Tryd.prog glob 35 (z5l N) :=
  Contract.of (E := z1cl N) (H := t_31 N) (L := L_31) (N := N) (body := zk5) (K := (z7o (.tup [(.int .i64), (.int .i64)]) [(0, .box TT4)] 0)) (z1bw N) Tryd.func35 (by kernel_rfl) (by decide) (fun _ hb => (TabOk.cons (z15v hb) (TabOk.cons (z156 hb) TabOk.nil))) (fun x y h => by rw [z11r]; exact h) (z5q (s := (.tup [(.int .i64), (.int .i64)])) (os := [(0, .box TT4)]) (m := 0))

def zqo : Code := (Tryd.f32.body).getD .skip

def L_32 : List (List Nat × List Nat) := [([0], [0, 2]), ([0, 1], [0, 3, 2]), ([0, 0, 1, 1], [16, 3, 2, 0]), ([1, 0, 1, 1], [3, 0, 2]), ([0, 0, 1, 0, 1, 1], [2, 0]), ([1, 0, 1, 0, 1, 1], [2, 0]), ([0, 1, 1, 1], [0, 4, 2, 3]), ([0, 0, 1, 1, 1, 1], [29, 4, 0, 2, 3]), ([0, 0, 0, 0, 0, 0, 0, 0, 0, 0, 0, 0, 0, 0, 1, 0, 1, 1, 1, 1], [30, 4, 0, 2, 29, 3]), ([1, 0, 0, 0, 0, 0, 0, 0, 0, 0, 0, 0, 0, 0, 1, 0, 1, 1, 1, 1], [29, 0, 4, 2, 3]), ([0, 1, 0, 0, 0, 0, 0, 0, 0, 0, 0, 0, 0, 0, 0, 1, 0, 1, 1, 1, 1], [4, 0, 2]), ([0, 0, 1, 0, 0, 0, 0, 0, 0, 0, 0, 0, 0, 0, 0, 1, 0, 1, 1, 1, 1], [32, 0, 4, 2, 29, 3]), ([1, 0, 1, 0, 0, 0, 0, 0, 0, 0, 0, 0, 0, 0, 0, 1, 0, 1, 1, 1, 1], [29, 0, 4, 2, 3]), ([0, 1, 0, 1, 0, 0, 0, 0, 0, 0, 0, 0, 0, 0, 0, 0, 1, 0, 1, 1, 1, 1], [0, 4, 2]), ([0, 0, 1, 1, 0, 0, 0, 0, 0, 0, 0, 0, 0, 0, 0, 0, 1, 0, 1, 1, 1, 1], [34, 0, 4, 2, 29, 3]), ([1, 0, 1, 1, 0, 0, 0, 0, 0, 0, 0, 0, 0, 0, 0, 0, 1, 0, 1, 1, 1, 1], [29, 0, 4, 2, 3]), ([0, 1, 0, 1, 1, 0, 0, 0, 0, 0, 0, 0, 0, 0, 0, 0, 0, 1, 0, 1, 1, 1, 1], [0, 4, 2]), ([0, 1, 1, 1, 0, 0, 0, 0, 0, 0, 0, 0, 0, 0, 0, 0, 1, 0, 1, 1, 1, 1], [36, 0, 4, 2, 3]), ([1, 1, 1, 1, 0, 0, 0, 0, 0, 0, 0, 0, 0, 0, 0, 0, 1, 0, 1, 1, 1, 1], [3, 2, 0]), ([0, 1, 1, 1, 1, 0, 0, 0, 0, 0, 0, 0, 0, 0, 0, 0, 0, 1, 0, 1, 1, 1, 1], [0, 4, 2]), ([1, 0, 0, 0, 0, 0, 0, 0, 0, 0, 0, 0, 1, 0, 1, 1, 1, 1], [3, 2, 0]), ([0, 0, 0, 0, 0, 0, 0, 0, 0, 0, 1, 0, 1, 1, 1, 1], [4, 0, 2]), ([1, 0, 0, 0, 0, 0, 0, 0, 0, 0, 1, 0, 1, 1, 1, 1], [0, 4, 2]), (z103, [0, 4, 2]), ([0, 1, 0, 0, 0, 0, 0, 0, 0, 1, 0, 1, 1, 1, 1], [4, 2, 0]), ([1, 1, 0, 0, 0, 0, 0, 0, 0, 1, 0, 1, 1, 1, 1], [4, 2, 0]), ([0, 0, 0, 0, 0, 0, 1, 0, 1, 1, 1, 1], [0, 4, 2]), ([0, 0, 1, 0, 0, 0, 0, 0, 1, 0, 1, 1, 1, 1], [4, 2, 0]), ([1, 0, 1, 0, 0, 0, 0, 0, 1, 0, 1, 1, 1, 1], [4, 2, 0]), ([1, 1, 0, 0, 0, 0, 0, 1, 0, 1, 1, 1, 1], [4, 2, 0]), ([0, 0, 0, 0, 1, 0, 1, 1, 1, 1], [0, 4, 2]), ([0, 0, 1, 0, 0, 0, 1, 0, 1, 1, 1, 1], [0, 4, 2]), ([1, 0, 1, 0, 0, 0, 1, 0, 1, 1, 1, 1], [4, 2, 0]), ([1, 1, 0, 0, 0, 1, 0, 1, 1, 1, 1], [4, 2, 0]), (PQ64, [3, 2, 0]), ([0, 0, 1, 0, 1, 0, 1, 1, 1, 1], [2, 0]), ([1, 0, 1, 0, 1, 0, 1, 1, 1, 1], [2, 0]), ([1, 1, 0, 1, 0, 1, 1, 1, 1], [4, 2, 0]), ([1, 0, 1, 1, 1, 1], [4, 2, 0]), ([0, 1, 1, 1, 1, 1], [2, 0]), ([1, 1, 1, 1, 1, 1], [2, 0])]

def E_32 (N : Nat) (self : z8) : Env := z3w tys glob [(35, z5l N), (34, z6h N self), (19, z1z [(0, .box TT4)] (fun x => self x.1) (z8h (.v TT0) [(0, .box TT4)] 0))] [] [] [0] false [] []

theorem z1bv (N : Nat) (self : z8) (hself : Contract Tryd.prog glob 19 (z1z [(0, .box TT4)] (fun x => self x.1) (z8h (.v TT0) [(0, .box TT4)] 0))) : EnvOk Tryd.prog (E_32 N self) := zn mixed z1v (FnsOk.cons (z8r N) (FnsOk.cons (z9o N self hself) (FnsOk.cons (hself) (FnsOk.nil)))) (ItsOk.nil)

def z6c (N : Nat) (self : z8) (p : DT5) (x2 : DT1) (kid : DT1) (rep : DT1) (x29 : Int) (k0 : DT1 -> Option (DT1 × (DT5 × Unit))) (k1 : Option (DT1 × (DT5 × Unit))) (k2 : Option (DT1 × (DT5 × Unit))) (k3 : Option (DT1 × (DT5 × Unit))) : Option (DT1 × (DT5 × Unit)) :=
 cond (x29 == (43 : Int))
 (k0 (rep.1, (rep.2.1, (rep.2.2.1, ((1 : Int), rep.2.2.2.2)))))
 (cond (x29 == (42 : Int))
 (k0 rep)
 (cond (x29 == (63 : Int))
 (k1)
 (cond (x29 == (123 : Int))
 (k2)
 (k3))))

def z1a5 (N : Nat) (self : z8) (x : z1p z13j) (K : Ex -> List A -> Option (DT1 × (DT5 × Unit))) : Option (DT1 × (DT5 × Unit)) :=
 z6c N self x.1 x.2.1 x.2.2.1 x.2.2.2.1 x.2.2.2.2.1 (fun a2 => (K .normal (mkS z13i 65 (x.1, x.2.1, a2, ())))) (K (.exit 3) (mkS z13i 65 (x.1, x.2.1, x.2.2.2.1, ()))) (K (.exit 4) (mkS z13i 65 (x.1, x.2.1, x.2.2.2.1, ()))) (K (.exit 5) (mkS [(0, .box TT4), (1, .box TT0), (0, .box TT0)] 66 (x.1, x.2.1, x.2.2.1, ())))

def z187 (N : Nat) (self : z8) : Hd (DT1 × (DT5 × Unit)) := fun st K => (unS z13j 40 (restr [29, 4, 0, 2, 3] 0 st)).bind fun x => z1a5 N self x K

def t1_32 (N : Nat) (self : z8) : Tab (DT1 × (DT5 × Unit)) := []

theorem z15u {N : Nat} {self : z8} {c : Ctx} (hb : Base Tryd.prog (E_32 N self) c) : z14 Tryd.prog c (zd zqo z103) (z187 N self) :=
  z16 (s := z13j) (m := 40) (g := z1a5 N self) [29, 4, 0, 2, 3] (zg hb N (t1_32 N self) L_32 zqo TabOk.nil z103 _ rfl) (fun x K => by kernel_rfl)

def z26 (N : Nat) (self : z8) (p : DT5) : Option (DT1 × (DT5 × Unit)) :=
 (z3z N self p).bind fun y =>
 cond (y.2.1.2.1 == (((List.length y.2.1.1) : Nat) : Int))
 (some (y.1, (y.2.1, ())))
 (cond (inR y.2.1.2.1 (List.length y.2.1.1))
 (z6c N self y.2.1 ((0 : Int), (([(0 : Int), (0 : Int), (0 : Int), (0 : Int)] : List Int), (([] : List Tree), ((0 : Int), ((0 : Int), ()))))) y.1 ((4 : Int), (([(0 : Int), (0 : Int), (0 : Int), (0 : Int)] : List Int), ((List.map foN ([y.1] : List DT7)), ((0 : Int), ((-(1 : Int)), ()))))) (((UInt8.toNat (List.getD y.2.1.1 (Int.toNat y.2.1.2.1) (0 : UInt8))) : Nat) : Int)
 (fun rep => some (rep, ((y.2.1.1, ((IntKind.wrap IntKind.i64 (y.2.1.2.1 + (1 : Int))), y.2.1.2.2)), ())))
 (some (((4 : Int), (([(0 : Int), (0 : Int), (0 : Int), (0 : Int)] : List Int), ((List.map foN ([y.1] : List DT7)), ((0 : Int), ((1 : Int), ()))))), ((y.2.1.1, ((IntKind.wrap IntKind.i64 (y.2.1.2.1 + (1 : Int))), y.2.1.2.2)), ())))
 ((z39 N (y.2.1.1, ((IntKind.wrap IntKind.i64 (y.2.1.2.1 + (1 : Int))), y.2.1.2.2))).bind fun y1 =>
 some (((4 : Int), (([(0 : Int), (0 : Int), (0 : Int), (0 : Int)] : List Int), ((List.map foN ([y.1] : List DT7)), (y1.1.1, (y1.1.2.1, ()))))), (y1.2.1, ())))
 (some (y.1, (y.2.1, ()))))
 (none))

def t_32 (N : Nat) (self : z8) : Tab (DT1 × (DT5 × Unit)) := [(z103, z187 N self)]

theorem z11q (N : Nat) (self : z8) (x : z1p [(0, .box TT4)]) : zc6 (E_32 N self) N (t_32 N self) L_32 Tryd.f32 (mkS [(0, .box TT4)] 0 x) (z7o (.v TT0) [(0, .box TT4)] 0) = z26 N self x.1 := by kernel_rfl

def z60 (N : Nat) (self : z8) : List A -> Res := z1z [(0, .box TT4)] (fun x => z26 N self x.1) (z8h (.v TT0) [(0, .box TT4)] 0)

theorem z9c (N : Nat) (self : z8) (hself : Contract Tryd.prog glob 19 (z1z [(0, .box TT4)] (fun x => self x.1) (z8h (.v TT0) [(0, .box TT4)] 0))) : Contract Tryd.prog glob 32 (z60 N self) :=
  Contract.of (E := E_32 N self) (H := t_32 N self) (L := L_32) (N := N) (body := zqo) (K := (z7o (.v TT0) [(0, .box TT4)] 0)) (z1bv N self hself) Tryd.func32 (by kernel_rfl) (by decide) (fun _ hb => (TabOk.cons (z15u hb) TabOk.nil)) (fun x y h => by rw [z11q]; exact h) (z5q (s := (.v TT0)) (os := [(0, .box TT4)]) (m := 0))

def zqn : Code := (Tryd.f27.body).getD .skip

def L_33 : List (List Nat × List Nat) := [([0], [1, 0, 4]), ([0, 1], [1, 0, 5, 4]), ([0, 0, 1, 1], [10, 9, 8, 0, 5, 4]), ([0, 1, 0, 1, 1], [10, 9, 8, 0, 5, 4]), (zyq, [11, 8, 10, 0, 5, 9, 4]), (z13s, [8, 10, 0, 5, 9, 4]), (PQ93, [5, 4, 0]), (PQ91, [7, 0, 5, 10, 9, 8, 4]), ([0, 1, 0, 0, 1, 1, 0, 0, 1, 0, 1, 1], [17, 5, 7, 10, 9, 8, 0, 4]), ([1, 1, 0, 0, 1, 1, 0, 0, 1, 0, 1, 1], [10, 9, 8, 0, 5, 4]), ([1, 1, 1, 0, 0, 1, 1, 0, 0, 1, 0, 1, 1], [10, 9, 8, 0, 5, 4]), ([0, 1, 1, 0, 0, 1, 1, 0, 0, 1, 0, 1, 1], [10, 9, 8, 0, 5, 4]), (zyu, [10, 9, 8, 0, 5, 4]), (zyt, [10, 9, 8, 0, 5, 4]), ([1, 0, 1, 1], [5, 4, 0]), ([0, 0, 1, 1, 1], [29, 5, 4, 0]), ([1, 0, 1, 1, 1], [0, 5, 4]), (z1b7, [4]), (z1b6, [4]), ([0, 1, 1, 1, 1], [4]), ([1, 1, 1, 1, 1], [4])]

def E_33 (N : Nat) : Env := z3w tys glob [] [(5, TT0)] [] [] false [] []

theorem z1bu (N : Nat) : EnvOk Tryd.prog (E_33 N) := zn mixed z1v (FnsOk.nil) (ItsOk.nil)

def z8l (N : Nat) (kind : Int) (x4 : DT1) (x8 : (List Tree)) (x9 : Int) (kids : (List DT1)) (x10 : Int) (rec : (List DT1) -> Int -> Option DT1) (k0 : (List DT1) -> Option DT1) : Option DT1 :=
 cond (decide (x10 < x9))
 (cond (inR x10 (List.length x8))
 (cond ((unN (List.getD x8 (Int.toNat x10) (Tree.mk (0 : Int) ([] : List Int) ([] : List Tree) (0 : Int) (0 : Int)))).1 == kind)
 (cond (decide ((((List.length kids) + (List.length (List.map unN (unN (List.getD x8 (Int.toNat x10) (Tree.mk (0 : Int) ([] : List Int) ([] : List Tree) (0 : Int) (0 : Int)))).2.2.1))) * 80) <= 70368744177664))
 (rec (kids ++ (List.map unN (unN (List.getD x8 (Int.toNat x10) (Tree.mk (0 : Int) ([] : List Int) ([] : List Tree) (0 : Int) (0 : Int)))).2.2.1)) (IntKind.wrap IntKind.i64 (x10 + (1 : Int))))
 (none))
 (cond (decide ((((List.length kids) + 1) * 80) <= 70368744177664))
 (rec (kids ++ ([(unN (List.getD x8 (Int.toNat x10) (Tree.mk (0 : Int) ([] : List Int) ([] : List Tree) (0 : Int) (0 : Int))))] : List DT7)) (IntKind.wrap IntKind.i64 (x10 + (1 : Int))))
 (none)))
 (none))
 (k0 kids)

def zg1 (N : Nat) (kind : Int) (x4 : DT1) (kids : (List DT1)) (x8 : (List Tree)) (x9 : Int) (x10 : Int) (k0 : (List DT1) -> Option DT1) : Option DT1 :=
 iter (fun (v : ((List DT1) × Int)) r => z8l N kind x4 x8 x9 v.1 v.2 (fun kids x10 => (r (kids, x10))) k0) N (kids, x10)

def z1a4 (N : Nat) (i : (Int × DT1 × (List Tree) × Int)) (v : ((List DT1) × Int)) (r : ((List DT1) × Int) -> Option DT1) (K : Ex -> List A -> Option DT1) : Option DT1 :=
 z8l N i.1 i.2.1 i.2.2.1 i.2.2.2 v.1 v.2 (fun kids x10 => (r (kids, x10))) (fun a2 => (K (.exit 0) (mkS [(0, .v (.int .i64)), (3, .box TT0), (0, .row TT0)] 30 (i.1, i.2.1, a2, ()))))

def z186 (N : Nat) : Hd DT1 := fun st K => (unS SQ69 25 (restr [10, 9, 8, 0, 5, 4] 0 st)).bind fun x => iter (fun v r => z1a4 N ((fun x => (x.1, x.2.1, x.2.2.2.1, x.2.2.2.2.1)) x) v r K) N ((fun x => (x.2.2.1, x.2.2.2.2.2.1)) x)

def t1_33 (N : Nat) : Tab DT1 := []

theorem z15t {N : Nat} {c : Ctx} (hb : Base Tryd.prog (E_33 N) c) : z14 Tryd.prog c (zd zqn [0, 1, 0, 1, 1]) (z186 N) :=
  z8n (s := SQ69) (m := 25) (z1a4 N) [10, 9, 8, 0, 5, 4] N (fun x => (x.1, x.2.1, x.2.2.2.1, x.2.2.2.2.1)) (fun x => (x.2.2.1, x.2.2.2.2.2.1)) (fun i v => (i.1, i.2.1, v.1, i.2.2.1, i.2.2.2, v.2, ())) (fun _ => rfl) (zg hb N (t1_33 N) L_33 zqn TabOk.nil [0, 0, 1, 0, 1, 1] _ rfl) (fun i v r K => by kernel_rfl)

def z6m (N : Nat) (kind : Int) (parts : (List Tree)) : Option DT1 :=
 zg1 N kind ((0 : Int), (([(0 : Int), (0 : Int), (0 : Int), (0 : Int)] : List Int), (([] : List Tree), ((0 : Int), ((0 : Int), ()))))) ([] : List DT7) parts (((List.length parts) : Nat) : Int) (0 : Int)
 (fun kids => cond ((((List.length kids) : Nat) : Int) == (1 : Int))
 (cond (inR (0 : Int) (List.length kids))
 (cond (decide (0 < (List.length kids)))
 (some (List.getD kids 0 ((0 : Int), (([] : List Int), (([] : List Tree), ((0 : Int), ((0 : Int), ())))))))
 (none))
 (none))
 (some (kind, (([(0 : Int), (0 : Int), (0 : Int), (0 : Int)] : List Int), ((List.map foN kids), ((0 : Int), ((0 : Int), ())))))))

def t_33 (N : Nat) : Tab DT1 := [([0, 1, 0, 1, 1], z186 N)]

theorem z11p (N : Nat) (x : z1p SQ58) : zc6 (E_33 N) N (t_33 N) L_33 Tryd.f27 (mkS SQ58 0 x) (zc5 (.v TT0) 2) = z6m N x.1 x.2.1 := by kernel_rfl

def z7m (N : Nat) : List A -> Res := z1z SQ58 (fun x => z6m N x.1 x.2.1) (zfe (.v TT0) 2)

theorem z9v (N : Nat) : Contract Tryd.prog glob 27 (z7m N) :=
  Contract.of (E := E_33 N) (H := t_33 N) (L := L_33) (N := N) (body := zqn) (K := (zc5 (.v TT0) 2)) (z1bu N) Tryd.func27 (by kernel_rfl) (by decide) (fun _ hb => (TabOk.cons (z15t hb) TabOk.nil)) (fun x y h => by rw [z11p]; exact h) (z5p (s := (.v TT0)) (m := 2))

def zfp : Code := (Tryd.f25.body).getD .skip

def z1ba : List (List Nat × List Nat) := [([0], [0, 2]), ([0, 1], [0, 3, 2]), ([0, 0, 1, 1], [0, 3, 2]), ([0, 0, 0, 0, 0, 1, 1], [37, 3, 0, 2]), ([1, 0, 0, 0, 0, 1, 1], [3, 0, 2]), (zyo, [3, 2, 0]), ([0, 1, 0, 0, 0, 1, 1], [0, 3, 2]), ([1, 0, 0, 0, 1, 1], [0, 3, 2]), ([0, 1, 1], [3, 2, 0]), ([0, 1, 1, 1], [2, 0]), ([1, 1, 1, 1], [2, 0])]

def z13w (N : Nat) (self : z8) : Env := z3w tys glob [(27, z7m N), (32, z60 N self), (19, z1z [(0, .box TT4)] (fun x => self x.1) (z8h (.v TT0) [(0, .box TT4)] 0))] [(3, TT0)] [] [0] false [] []

theorem z1bt (N : Nat) (self : z8) (hself : Contract Tryd.prog glob 19 (z1z [(0, .box TT4)] (fun x => self x.1) (z8h (.v TT0) [(0, .box TT4)] 0))) : EnvOk Tryd.prog (z13w N self) := zn mixed z1v (FnsOk.cons (z9v N) (FnsOk.cons (z9c N self hself) (FnsOk.cons (hself) (FnsOk.nil)))) (ItsOk.nil)

def z7z (N : Nat) (self : z8) (p : DT5) (x2 : DT1) (parts : (List DT1)) (k0 : Option (DT1 × (DT5 × Unit))) (k1 : Option (DT1 × (DT5 × Unit))) : Option (DT1 × (DT5 × Unit)) :=
 cond (decide (p.2.1 < (((List.length p.1) : Nat) : Int)))
 (cond (inR p.2.1 (List.length p.1))
 (cond ((((UInt8.toNat (List.getD p.1 (Int.toNat p.2.1) (0 : UInt8))) : Nat) : Int) != (124 : Int))
 (cond (inR p.2.1 (List.length p.1))
 (cond ((((UInt8.toNat (List.getD p.1 (Int.toNat p.2.1) (0 : UInt8))) : Nat) : Int) != (41 : Int))
 (k0)
 (k1))
 (none))
 (k1))
 (none))
 (k1)

def z196 (N : Nat) (self : z8) (x : z1p SQ4) (K : Ex -> List A -> Option (DT1 × (DT5 × Unit))) : Option (DT1 × (DT5 × Unit)) :=
 z7z N self x.1 x.2.1 x.2.2.1 (K .normal (mkS SQ4 41 (x.1, x.2.1, x.2.2.1, ()))) (K (.exit 0) (mkS SQ4 41 (x.1, x.2.1, x.2.2.1, ())))

def z178 (N : Nat) (self : z8) : Hd (DT1 × (DT5 × Unit)) := fun st K => (unS SQ4 41 (restr [0, 3, 2] 0 st)).bind fun x => z196 N self x K

def t3_34 (N : Nat) (self : z8) : Tab (DT1 × (DT5 × Unit)) := []

theorem z14v {N : Nat} {self : z8} {c : Ctx} (hb : Base Tryd.prog (z13w N self) c) : z14 Tryd.prog c (zd zfp [0, 0, 0, 0, 1, 1]) (z178 N self) :=
  z16 (s := SQ4) (m := 41) (g := z196 N self) [0, 3, 2] (zg hb N (t3_34 N self) z1ba zfp TabOk.nil [0, 0, 0, 0, 1, 1] _ rfl) (fun x K => by kernel_rfl)

def z44 (N : Nat) (self : z8) (x2 : DT1) (p : DT5) (parts : (List DT1)) (rec : DT5 -> (List DT1) -> Option (DT1 × (DT5 × Unit))) (k0 : DT5 -> (List DT1) -> Option (DT1 × (DT5 × Unit))) : Option (DT1 × (DT5 × Unit)) :=
 z7z N self p x2 parts
 ((z26 N self p).bind fun y =>
 cond (decide ((((List.length parts) + 1) * 80) <= 70368744177664))
 (rec y.2.1 (parts ++ ([y.1] : List DT7)))
 (none))
 (k0 p parts)

def zaf (N : Nat) (self : z8) (p : DT5) (x2 : DT1) (parts : (List DT1)) (k0 : DT5 -> (List DT1) -> Option (DT1 × (DT5 × Unit))) : Option (DT1 × (DT5 × Unit)) :=
 iter (fun (v : (DT5 × (List DT1))) r => z44 N self x2 v.1 v.2 (fun p parts => (r (p, parts))) k0) N (p, parts)

def z19g (N : Nat) (self : z8) (i : DT1) (v : (DT5 × (List DT1))) (r : (DT5 × (List DT1)) -> Option (DT1 × (DT5 × Unit))) (K : Ex -> List A -> Option (DT1 × (DT5 × Unit))) : Option (DT1 × (DT5 × Unit)) :=
 z44 N self i v.1 v.2 (fun p parts => (r (p, parts))) (fun a0 a2 => (K (.exit 0) (mkS SQ4 41 (a0, i, a2, ()))))

def z17i (N : Nat) (self : z8) : Hd (DT1 × (DT5 × Unit)) := fun st K => (unS SQ4 41 (restr [0, 3, 2] 0 st)).bind fun x => iter (fun v r => z19g N self ((fun x => x.2.1) x) v r K) N ((fun x => (x.1, x.2.2.1)) x)

def t2_34 (N : Nat) (self : z8) : Tab (DT1 × (DT5 × Unit)) := [([0, 0, 0, 0, 1, 1], z178 N self)]

theorem z155 {N : Nat} {self : z8} {c : Ctx} (hb : Base Tryd.prog (z13w N self) c) : z14 Tryd.prog c (zd zfp [0, 0, 1, 1]) (z17i N self) :=
  z8n (s := SQ4) (m := 41) (z19g N self) [0, 3, 2] N (fun x => x.2.1) (fun x => (x.1, x.2.2.1)) (fun i v => (v.1, i, v.2, ())) (fun _ => rfl) (zg hb N (t2_34 N self) z1ba zfp (TabOk.cons (z14v hb) TabOk.nil) [0, 0, 0, 1, 1] _ rfl) (fun i v r K => by kernel_rfl)

def z80 (N : Nat) (self : z8) (p : DT5) (x2 : DT1) (parts : (List DT1)) (k0 : DT5 -> (List DT1) -> Option (DT1 × (DT5 × Unit))) : Option (DT1 × (DT5 × Unit)) :=
 zaf N self p x2 parts
 (fun p1 zg5 => k0 p1 zg5)

def z1a3 (N : Nat) (self : z8) (x : z1p SQ4) (K : Ex -> List A -> Option (DT1 × (DT5 × Unit))) : Option (DT1 × (DT5 × Unit)) :=
 z80 N self x.1 x.2.1 x.2.2.1 (fun a0 a2 => (K .normal (mkS SQ4 41 (a0, x.2.1, a2, ()))))

def z185 (N : Nat) (self : z8) : Hd (DT1 × (DT5 × Unit)) := fun st K => (unS SQ4 41 (restr [0, 3, 2] 0 st)).bind fun x => z1a3 N self x K

def t1_34 (N : Nat) (self : z8) : Tab (DT1 × (DT5 × Unit)) := [([0, 0, 1, 1], z17i N self)]

theorem z15s {N : Nat} {self : z8} {c : Ctx} (hb : Base Tryd.prog (z13w N self) c) : z14 Tryd.prog c (zd zfp [0, 1, 1]) (z185 N self) :=
  z16 (s := SQ4) (m := 41) (g := z1a3 N self) [0, 3, 2] (zg hb N (t1_34 N self) z1ba zfp (TabOk.cons (z155 hb) TabOk.nil) [0, 1, 1] _ rfl) (fun x K => by kernel_rfl)

def z35 (N : Nat) (self : z8) (p : DT5) : Option (DT1 × (DT5 × Unit)) :=
 z80 N self p ((0 : Int), (([(0 : Int), (0 : Int), (0 : Int), (0 : Int)] : List Int), (([] : List Tree), ((0 : Int), ((0 : Int), ()))))) ([] : List DT7)
 (fun p1 parts => (z6m N (2 : Int) (List.map foN parts)).bind fun y =>
 some (y, (p1, ())))

def t_34 (N : Nat) (self : z8) : Tab (DT1 × (DT5 × Unit)) := [([0, 1, 1], z185 N self)]

theorem z11o (N : Nat) (self : z8) (x : z1p [(0, .box TT4)]) : zc6 (z13w N self) N (t_34 N self) z1ba Tryd.f25 (mkS [(0, .box TT4)] 0 x) (z7o (.v TT0) [(0, .box TT4)] 0) = z35 N self x.1 := by kernel_rfl

def z7b (N : Nat) (self : z8) : List A -> Res := z1z [(0, .box TT4)] (fun x => z35 N self x.1) (z8h (.v TT0) [(0, .box TT4)] 0)

theorem zag (N : Nat) (self : z8) (hself : Contract Tryd.prog glob 19 (z1z [(0, .box TT4)] (fun x => self x.1) (z8h (.v TT0) [(0, .box TT4)] 0))) : Contract Tryd.prog glob 25 (z7b N self) :=
  Contract.of (E := z13w N self) (H := t_34 N self) (L := z1ba) (N := N) (body := zfp) (K := (z7o (.v TT0) [(0, .box TT4)] 0)) (z1bt N self hself) Tryd.func25 (by kernel_rfl) (by decide) (fun _ hb => (TabOk.cons (z15s hb) TabOk.nil)) (fun x y h => by rw [z11o]; exact h) (z5q (s := (.v TT0)) (os := [(0, .box TT4)]) (m := 0))

def zmz : Code := (Tryd.f19.body).getD .skip

def L_35 : List (List Nat × List Nat) := [([0], [0, 2]), ([0, 1], [0, 3, 2]), ([0, 0, 1, 1], [0, 3, 2]), ([0, 0, 0, 0, 0, 1, 1], [8, 3, 0, 2]), ([1, 0, 0, 0, 0, 1, 1], [3, 0, 2]), (zyo, [3, 2, 0]), ([0, 1, 0, 0, 0, 1, 1], [0, 3, 2]), ([1, 0, 0, 0, 1, 1], [0, 3, 2]), ([0, 1, 1], [3, 2, 0]), ([0, 1, 1, 1], [2, 0]), ([1, 1, 1, 1], [2, 0])]

def E_35 (N : Nat) (self : DT5 -> Option (DT1 × (DT5 × Unit))) : Env := z3w tys glob [(25, z7b N self), (27, z7m N), (26, z1c N), (19, z1z [(0, .box TT4)] (fun x => self x.1) (z8h (.v TT0) [(0, .box TT4)] 0))] [(3, TT0)] [] [0] false [] []

theorem z1bs (N : Nat) (self : DT5 -> Option (DT1 × (DT5 × Unit))) (hself : Contract Tryd.prog glob 19 (z1z [(0, .box TT4)] (fun x => self x.1) (z8h (.v TT0) [(0, .box TT4)] 0))) : EnvOk Tryd.prog (E_35 N self) := zn mixed z1v (FnsOk.cons (zag N self hself) (FnsOk.cons (z9v N) (FnsOk.cons (z1q N) (FnsOk.cons (hself) (FnsOk.nil))))) (ItsOk.nil)

def z5m (N : Nat) (self : DT5 -> Option (DT1 × (DT5 × Unit))) (x2 : DT1) (p : DT5) (parts : (List DT1)) (rec : DT5 -> (List DT1) -> Option (DT1 × (DT5 × Unit))) (k0 : DT5 -> (List DT1) -> Option (DT1 × (DT5 × Unit))) : Option (DT1 × (DT5 × Unit)) :=
 (zp N p (124 : Int)).bind fun y =>
 cond y.1
 ((z35 N self y.2.1).bind fun y1 =>
 cond (decide ((((List.length parts) + 1) * 80) <= 70368744177664))
 (rec y1.2.1 (parts ++ ([y1.1] : List DT7)))
 (none))
 (k0 y.2.1 parts)

def zah (N : Nat) (self : DT5 -> Option (DT1 × (DT5 × Unit))) (p : DT5) (x2 : DT1) (parts : (List DT1)) (k0 : DT5 -> (List DT1) -> Option (DT1 × (DT5 × Unit))) : Option (DT1 × (DT5 × Unit)) :=
 iter (fun (v : (DT5 × (List DT1))) r => z5m N self x2 v.1 v.2 (fun p parts => (r (p, parts))) k0) N (p, parts)

def z1a2 (N : Nat) (self : DT5 -> Option (DT1 × (DT5 × Unit))) (i : DT1) (v : (DT5 × (List DT1))) (r : (DT5 × (List DT1)) -> Option (DT1 × (DT5 × Unit))) (K : Ex -> List A -> Option (DT1 × (DT5 × Unit))) : Option (DT1 × (DT5 × Unit)) :=
 z5m N self i v.1 v.2 (fun p parts => (r (p, parts))) (fun a0 a2 => (K (.exit 0) (mkS SQ4 12 (a0, i, a2, ()))))

def z184 (N : Nat) (self : DT5 -> Option (DT1 × (DT5 × Unit))) : Hd (DT1 × (DT5 × Unit)) := fun st K => (unS SQ4 12 (restr [0, 3, 2] 0 st)).bind fun x => iter (fun v r => z1a2 N self ((fun x => x.2.1) x) v r K) N ((fun x => (x.1, x.2.2.1)) x)

def t1_35 (N : Nat) (self : DT5 -> Option (DT1 × (DT5 × Unit))) : Tab (DT1 × (DT5 × Unit)) := []

theorem z15r {N : Nat} {self : DT5 -> Option (DT1 × (DT5 × Unit))} {c : Ctx} (hb : Base Tryd.prog (E_35 N self) c) : z14 Tryd.prog c (zd zmz [0, 0, 1, 1]) (z184 N self) :=
  z8n (s := SQ4) (m := 12) (z1a2 N self) [0, 3, 2] N (fun x => x.2.1) (fun x => (x.1, x.2.2.1)) (fun i v => (v.1, i, v.2, ())) (fun _ => rfl) (zg hb N (t1_35 N self) L_35 zmz TabOk.nil [0, 0, 0, 1, 1] _ rfl) (fun i v r K => by kernel_rfl)

def z66 (N : Nat) (self : DT5 -> Option (DT1 × (DT5 × Unit))) (p : DT5) : Option (DT1 × (DT5 × Unit)) :=
 (z35 N self p).bind fun y =>
 zah N self y.2.1 ((0 : Int), (([(0 : Int), (0 : Int), (0 : Int), (0 : Int)] : List Int), (([] : List Tree), ((0 : Int), ((0 : Int), ()))))) ([y.1] : List DT7)
 (fun p1 parts => (z6m N (3 : Int) (List.map foN parts)).bind fun y1 =>
 some (y1, (p1, ())))

def t_35 (N : Nat) (self : DT5 -> Option (DT1 × (DT5 × Unit))) : Tab (DT1 × (DT5 × Unit)) := [([0, 0, 1, 1], z184 N self)]

theorem z11n (N : Nat) (self : DT5 -> Option (DT1 × (DT5 × Unit))) (x : z1p [(0, .box TT4)]) : zc6 (E_35 N self) N (t_35 N self) L_35 Tryd.f19 (mkS [(0, .box TT4)] 0 x) (z7o (.v TT0) [(0, .box TT4)] 0) = z66 N self x.1 := by kernel_rfl

def ze : Nat -> DT5 -> Option (DT1 × (DT5 × Unit))
  | 0 => fun _ => none
  | N + 1 => z66 (N + 1) (ze N)

def z9p (N : Nat) : List A -> Res := z1z [(0, .box TT4)] (fun x => ze N x.1) (z8h (.v TT0) [(0, .box TT4)] 0)

theorem z2j : ∀ N : Nat, Contract Tryd.prog glob 19 (z9p N)
  | 0 => Contract.zero Tryd.func19 (body := zmz) (by kernel_rfl) (by decide) (fun _ => rfl)
  | N + 1 => Contract.of (E := E_35 (N + 1) (ze N)) (H := t_35 (N + 1) (ze N)) (L := L_35) (N := (N + 1)) (body := zmz) (K := (z7o (.v TT0) [(0, .box TT4)] 0)) (z1bs (N + 1) (ze N) (z2j N)) Tryd.func19 (by kernel_rfl) (by decide) (fun _ hb => (TabOk.cons (z15r hb) TabOk.nil)) (fun x y h => by rw [z11n]; exact h) (z5q (s := (.v TT0)) (os := [(0, .box TT4)]) (m := 0))

end
end Go.Proofs.YtbfmhambfonpcaaDoorLg

set_option linter.all false
set_option maxRecDepth 100000
namespace Go.Proofs.YtbfmhambfonpcaaDoorLg
noncomputable section
open Go Go.Lift Go.Proofs.YtbfmhambfonpcaaDoorPx

mutual
def z2s : Tree -> Nat
  | .mk _ _ ks _ _ => 1 + z27 ks
def z27 : List Tree -> Nat
  | [] => 0
  | x :: xs => z2s x + z27 xs
end

mutual
def zia : Tree -> Tree -> Bool
  | .mk k st ks lo hi, .mk k' st' ks' lo' hi' => k == k' && (st == st' && (lo == lo' && (hi == hi' && (ks.length == ks'.length && zkc ks ks'))))
def zkc : List Tree -> List Tree -> Bool
  | x :: xs, y :: ys => zia x y && zkc xs ys
  | _, _ => true
end

def z7n (x : Tree) : Int := (unN x).1

def zn6 (lo hi : Int) : Bool := decide (0 <= lo /\ lo <= 16 /\ (hi = -1 \/ (1 <= hi /\ lo <= hi /\ hi <= 16)))

def shT (k : Int) (st : List Int) (ks : List Tree) (lo hi : Int) : Bool :=
 if k = 1 then ks.length == 0 && (lo == 0 && hi == 0)
 else if k = 2 then st == [0, 0, 0, 0] && (lo == 0 && (hi == 0 && (ks.length != 1 && !(ks.any fun x => z7n x == 2))))
 else if k = 3 then st == [0, 0, 0, 0] && (lo == 0 && (hi == 0 && (decide (2 <= ks.length) && !(ks.any fun x => z7n x == 3))))
 else if k = 4 then st == [0, 0, 0, 0] && (ks.length == 1 && zn6 lo hi)
 else false

mutual
def z1t : Tree -> Bool
  | .mk k st ks lo hi => shT k st ks lo hi && zdh ks
def zdh : List Tree -> Bool
  | [] => true
  | x :: xs => z1t x && zdh xs
end

theorem zta : ∀ x : Tree, 0 < z2s x
  | .mk .. => by rw [z2s]; omega

theorem zh2 : ∀ {ks : List Tree} {x : Tree}, x ∈ ks -> z2s x <= z27 ks
  | y :: ks, x, h => by
    rw [z27]
    rcases List.mem_cons.1 h with rfl | h
    . omega
    . have := zh2 h; omega

theorem z4h : ∀ ks : List Tree, ks.length <= z27 ks
  | [] => by simp
  | y :: ks => by have := z4h ks; have := zta y; rw [z27, List.length_cons]; omega

theorem zsy (d : Tree) {xs ys : List Tree} {i : Nat} (h : i < xs.length) (h' : i < ys.length) : zkc (xs.drop i) (ys.drop i) = (zia (xs.getD i d) (ys.getD i d) && zkc (xs.drop (i + 1)) (ys.drop (i + 1))) := by
  rw [List.drop_eq_getElem_cons h, List.drop_eq_getElem_cons h', zkc, List.getD_eq_getElem?_getD, List.getD_eq_getElem?_getD, List.getElem?_eq_getElem h, List.getElem?_eq_getElem h']
  rfl

def dT : Tree := .mk 0 [] [] 0 0

theorem zsm {ks : List Tree} (h : zx0 ks) {i : Nat} (hi : i < ks.length) : WfN (ks.getD i dT) := by
  rw [List.getD_eq_getElem?_getD, List.getElem?_eq_getElem hi]
  exact (zgp ks).1 h _ (List.getElem_mem hi)

theorem zmq {ks : List Tree} {i : Nat} (hi : i < ks.length) : ks.getD i dT ∈ ks := by
  rw [List.getD_eq_getElem?_getD, List.getElem?_eq_getElem hi]; exact List.getElem_mem hi

theorem znf {xs ys : List Tree} (hl : xs.length = ys.length) (hm : xs.length <= maxLen) (self : NodT.den -> NodT.den -> Option Bool) (hself : ∀ i, i < xs.length -> self (unN (xs.getD i dT)) (unN (ys.getD i dT)) = some (zia (xs.getD i dT) (ys.getD i dT))) (n : Nat) (hn : xs.length < n)
    (step : Int -> (Int -> Option Bool) -> Option Bool) (hs : ∀ (i : Nat) (r : Int -> Option Bool), step (i : Int) r = cond (decide ((i : Int) < (xs.length : Int))) (cond (inR (i : Int) xs.length) (cond (inR (i : Int) ys.length) ((self (unN (xs.getD (Int.toNat (i : Int)) dT)) (unN (ys.getD (Int.toNat (i : Int)) dT))).bind fun y => cond (!y) (some false) (r (IntKind.wrap .i64 ((i : Int) + 1)))) none) none) (some true)) :
    iter step n 0 = some (zkc xs ys) := by
  have key := zhd (step := step) (fun v => ∃ i : Nat, v = (i : Int) /\ i <= xs.length) (fun v => xs.length - v.toNat) (fun v => some (zkc (xs.drop v.toNat) (ys.drop v.toNat))) (by
    rintro v r ⟨i, rfl, hi⟩ hr
    rw [hs]
    rcases Nat.lt_or_ge i xs.length with h | h
    . rw [z4k (decide_eq_true (by omega)), z4k (zbf h), z4k (zbf (by omega)), Int.toNat_natCast, hself i h, Option.bind_some, zsy dT h (by omega)]
      cases hc : zia (xs.getD i dT) (ys.getD i dT) with
      | false => rfl
      | true =>
        simp only [Bool.not_true, cond_false, Bool.true_and]
        have hw : IntKind.wrap .i64 ((i : Int) + 1) = ((i + 1 : Nat) : Int) := by
          rw [z8s (by unfold I64; unfold maxLen at hm; omega)]; omega
        rw [hw, hr _ ⟨i + 1, rfl, by omega⟩ (by simp only [Int.toNat_natCast]; omega), Int.toNat_natCast]
    . rw [z9r (decide_eq_false (by omega)), Int.toNat_natCast, List.drop_eq_nil_of_le h]
      rfl)
  have := key n 0 ⟨0, rfl, by omega⟩ (by simp; omega)
  simpa using this

theorem znd {N : Nat} {f : Nat -> NodT.den -> NodT.den -> Option Bool} {ks : List Tree} (hN : z27 ks < N) (hw : zx0 ks)
    (ih : ∀ a b : Tree, z2s a < N -> WfN a -> f N (unN a) (unN b) = some (zia a b)) (ys : List Tree) (i : Nat) (hi : i < ks.length) :
    f N (unN (ks.getD i dT)) (unN (ys.getD i dT)) = some (zia (ks.getD i dT) (ys.getD i dT)) :=
  ih _ _ (Nat.lt_of_le_of_lt (zh2 (zmq hi)) hN) (zsm hw hi)

theorem eqD4 (x y : List Int) : eqD (T.arr 4 (T.int .u64)) x y = (x == y) := by
  rw [z12l (t := .arr 4 (.int .u64)) rfl, Bool.eq_iff_iff, decide_eq_true_eq, beq_iff_eq]

theorem zl3 : ∀ (N : Nat) (a b : Tree), z2s a < N -> WfN a -> z1y N (unN a) (unN b) = some (zia a b)
  | 0, _, _, h, _ => absurd h (Nat.not_lt_zero _)
  | N + 1, .mk k st ks lo hi, .mk k' st' ks' lo' hi', h, hw => by
    rw [z2s] at h
    rw [WfN] at hw
    have hlen := z4h ks
    show z67 (N + 1) (z1y N) _ _ = _
    rw [zia]
    unfold z67 z82 z81 zak
    dsimp only [unN]
    rw [eqD4]
    cases h1 : k == k' <;> simp only [bne, h1, Bool.not_false, Bool.not_true, cond_true, cond_false, Bool.false_and, Bool.true_and]
    cases h2 : st == st' <;> simp only [Bool.not_false, Bool.not_true, cond_true, cond_false, Bool.false_and, Bool.true_and]
    cases h3 : lo == lo' <;> simp only [Bool.not_false, Bool.not_true, cond_true, cond_false, Bool.false_and, Bool.true_and]
    cases h4 : hi == hi' <;> simp only [Bool.not_false, Bool.not_true, cond_true, cond_false, Bool.false_and, Bool.true_and]
    have h5 : ((ks.length : Int) == (ks'.length : Int)) = (ks.length == ks'.length) := by rw [Bool.eq_iff_iff, beq_iff_eq, beq_iff_eq]; omega
    rw [h5]
    cases h6 : ks.length == ks'.length <;> simp only [Bool.not_false, Bool.not_true, cond_true, cond_false, Bool.false_and, Bool.true_and]
    exact znf (by simpa using h6) hw.2.2.1.1 (z1y N) (fun i hi => znd (by omega) hw.2.2.1.2 (fun a b => zl3 N a b) ks' i hi) (N + 1) (by omega) _ (fun i r => rfl)

theorem zl2 : ∀ (N : Nat) (a b : Tree), z2s a < N -> WfN a -> z6n N (unN a) (unN b) = some (zia a b)
  | 0, _, _, h, _ => absurd h (Nat.not_lt_zero _)
  | N + 1, .mk k st ks lo hi, .mk k' st' ks' lo' hi', h, hw => by
    rw [z2s] at h
    rw [WfN] at hw
    have hlen := z4h ks
    show zb2 (N + 1) (z6n N) _ _ = _
    rw [zia]
    unfold zb2 zch zcg zg3
    dsimp only [unN]
    rw [eqD4]
    cases h1 : k == k' <;> simp only [bne, h1, Bool.not_false, Bool.not_true, cond_true, cond_false, Bool.false_and, Bool.true_and]
    cases h2 : st == st' <;> simp only [Bool.not_false, Bool.not_true, cond_true, cond_false, Bool.false_and, Bool.true_and]
    cases h3 : lo == lo' <;> simp only [Bool.not_false, Bool.not_true, cond_true, cond_false, Bool.false_and, Bool.true_and]
    cases h4 : hi == hi' <;> simp only [Bool.not_false, Bool.not_true, cond_true, cond_false, Bool.false_and, Bool.true_and]
    have h5 : ((ks.length : Int) == (ks'.length : Int)) = (ks.length == ks'.length) := by rw [Bool.eq_iff_iff, beq_iff_eq, beq_iff_eq]; omega
    rw [h5]
    cases h6 : ks.length == ks'.length <;> simp only [Bool.not_false, Bool.not_true, cond_true, cond_false, Bool.false_and, Bool.true_and]
    exact znf (by simpa using h6) hw.2.2.1.1 (z6n N) (fun i hi => znd (by omega) hw.2.2.1.2 (fun a b => zl2 N a b) ks' i hi) (N + 1) (by omega) _ (fun i r => rfl)

theorem zze {i len : Nat} (h : i < len) (hm : len <= maxLen) : IntKind.wrap .i64 ((i : Int) + 1) = ((i + 1 : Nat) : Int) := by
  rw [z8s (by unfold I64; unfold maxLen at hm; omega)]; omega

theorem zpg (N : Nat) (lo hi : Int) : zaa N lo hi = some (zn6 lo hi) := by
  unfold zaa zbb zba zn6
  simp only [Bool.cond_eq_ite, decide_eq_true_eq, beq_iff_eq, if_true, Bool.false_eq_true, if_false]
  repeat' split
  all_goals first
    | (simp only [Option.some.injEq]; rw [eq_comm]; first | (apply decide_eq_true; omega) | (apply decide_eq_false; omega) | (rw [Bool.eq_iff_iff, decide_eq_true_eq, decide_eq_true_eq]; omega))
    | omega

theorem zo5 {ks : List Tree} (hm : ks.length <= maxLen) (f : Tree -> Option Bool) (e : Bool) (step : Int -> (Int -> Option Bool) -> Option Bool)
    (hs : ∀ (i : Nat) (r : Int -> Option Bool), i <= ks.length -> step (i : Int) r = cond (decide ((i : Int) < (ks.length : Int))) (match f (ks.getD i dT) with
      | some b => some b
      | none => r (IntKind.wrap .i64 ((i : Int) + 1))) (some e)) (n : Nat) (hn : ks.length < n) : iter step n 0 = some ((ks.findSome? f).getD e) := by
  have key := zhd (step := step) (fun v => ∃ i : Nat, v = (i : Int) /\ i <= ks.length) (fun v => ks.length - v.toNat) (fun v => some (((ks.drop v.toNat).findSome? f).getD e)) (by
    rintro v r ⟨i, rfl, hi⟩ hr
    rw [hs i r hi]
    rcases Nat.lt_or_ge i ks.length with h | h
    . have eg : ks.getD i dT = ks[i] := by rw [List.getD_eq_getElem?_getD, List.getElem?_eq_getElem h]; rfl
      rw [z4k (decide_eq_true (by omega)), Int.toNat_natCast, List.drop_eq_getElem_cons h, List.findSome?_cons, eg]
      cases hf : f ks[i] with
      | some b => rfl
      | none =>
        dsimp only
        rw [zze h hm, hr _ ⟨i + 1, rfl, by omega⟩ (by simp only [Int.toNat_natCast]; omega), Int.toNat_natCast]
    . rw [z9r (decide_eq_false (by omega)), Int.toNat_natCast, List.drop_eq_nil_of_le h]
      rfl)
  have := key n 0 ⟨0, rfl, by omega⟩ (by simp; omega)
  simpa using this

theorem zi1 (p : Tree -> Bool) : ∀ ks : List Tree, (ks.findSome? fun x => cond (p x) (some true) none).getD false = ks.any p
  | [] => rfl
  | x :: ks => by
    rw [List.findSome?_cons, List.any_cons]
    cases hp : p x with
    | true => rfl
    | false => simpa using zi1 p ks

theorem zf0 : ∀ ks : List Tree, (ks.findSome? fun x => cond (z1t x) none (some false)).getD true = zdh ks
  | [] => by rw [zdh]; rfl
  | x :: ks => by
    rw [List.findSome?_cons, zdh]
    cases hp : z1t x with
    | true => simpa using zf0 ks
    | false => rfl

theorem zn5 (N : Nat) (k : Int) (st : List Int) (ks : List Tree) (lo hi kind : Int) (hm : ks.length <= maxLen) (hN : ks.length < N) : z87 N (k, st, ks, lo, hi, ()) kind = some (ks.any fun x => z7n x == kind) := by
  unfold z87 zdl
  rw [<- zi1]
  refine zo5 hm (fun x => cond (z7n x == kind) (some true) none) false _ (fun i r hi => ?_) N hN
  unfold za9
  dsimp only
  rcases Nat.lt_or_ge i ks.length with h | h
  . rw [z4k (decide_eq_true (by omega)), z4k (decide_eq_true (by omega)), z4k (zbf h), Int.toNat_natCast]
    change cond (z7n (ks.getD i dT) == kind) _ _ = _
    cases z7n (ks.getD i dT) == kind <;> rfl
  . rw [z9r (decide_eq_false (by omega)), z9r (decide_eq_false (by omega))]

theorem zug (N : Nat) (k : Int) (st : List Int) (ks : List Tree) (lo hi : Int) (hm : ks.length <= maxLen) (hN : ks.length < N) : z9b N (k, st, ks, lo, hi, ()) = some (shT k st ks lo hi) := by
  unfold z9b zab
  dsimp only
  rw [zn5 N k st ks lo hi 2 hm hN, zn5 N k st ks lo hi 3 hm hN, zpg, eqD4]
  unfold shT
  simp only [Option.bind_some]
  have e0 : ((ks.length : Int) == 0) = (ks.length == 0) := by rw [Bool.eq_iff_iff, beq_iff_eq, beq_iff_eq]; omega
  have e1 : ((ks.length : Int) == 1) = (ks.length == 1) := by rw [Bool.eq_iff_iff, beq_iff_eq, beq_iff_eq]; omega
  have e2 : decide ((2 : Int) <= (ks.length : Int)) = decide (2 <= ks.length) := by rw [Bool.eq_iff_iff, decide_eq_true_eq, decide_eq_true_eq]; omega
  simp only [bne, e0, e1, e2]
  by_cases h1 : k = 1
  . subst h1
    cases lo == 0 <;> cases hi == 0 <;> cases ks.length == 0 <;> rfl
  rw [if_neg h1]
  by_cases h2 : k = 2
  . subst h2
    cases lo == 0 <;> cases hi == 0 <;> cases ks.length == 1 <;> cases st == [0, 0, 0, 0] <;> rfl
  rw [if_neg h2]
  by_cases h3 : k = 3
  . subst h3
    cases lo == 0 <;> cases hi == 0 <;> cases decide (2 <= ks.length) <;> cases st == [0, 0, 0, 0] <;> rfl
  rw [if_neg h3]
  have f1 : (k == 1) = false := by simpa using h1
  have f2 : (k == 2) = false := by simpa using h2
  have f3 : (k == 3) = false := by simpa using h3
  by_cases h4 : k = 4
  . subst h4
    cases lo == 0 <;> cases hi == 0 <;> cases ks.length == 1 <;> cases st == [0, 0, 0, 0] <;> rfl
  have f4 : (k == 4) = false := by simpa using h4
  rw [if_neg h4, f1, f2, f3, f4]
  cases lo == 0 <;> rfl

theorem zj4 : ∀ (N : Nat) (a : Tree), z2s a < N -> WfN a -> z5o N (unN a) = some (z1t a)
  | 0, _, h, _ => absurd h (Nat.not_lt_zero _)
  | N + 1, .mk k st ks lo hi, h, hw => by
    rw [z2s] at h
    rw [WfN] at hw
    have hlen := z4h ks
    show z9w (N + 1) (z5o N) (k, st, ks, lo, hi, ()) = _
    rw [z1t]
    unfold z9w zev
    rw [zug (N + 1) k st ks lo hi hw.2.2.1.1 (by omega), Option.bind_some]
    cases shT k st ks lo hi with
    | false => rfl
    | true =>
      simp only [Bool.not_true, cond_false, Bool.true_and]
      rw [<- zf0]
      refine zo5 hw.2.2.1.1 (fun x => cond (z1t x) none (some false)) true _ (fun i r hi => ?_) (N + 1) (by omega)
      unfold zbe
      dsimp only
      rcases Nat.lt_or_ge i ks.length with h' | h'
      . rw [z4k (decide_eq_true (by omega)), z4k (decide_eq_true (by omega)), z4k (zbf h'), Int.toNat_natCast]
        have e : z5o N (unN (ks.getD i (Tree.mk (0 : Int) ([] : List Int) ([] : List Tree) (0 : Int) (0 : Int)))) = some (z1t (ks.getD i dT)) := zj4 N (ks.getD i dT) (by have := zh2 (zmq h'); omega) (zsm hw.2.2.1.2 h')
        rw [e, Option.bind_some]
        cases z1t (ks.getD i dT) <;> rfl
      . rw [z9r (decide_eq_false (by omega)), z9r (decide_eq_false (by omega))]

end
end Go.Proofs.YtbfmhambfonpcaaDoorLg

set_option linter.all false
set_option maxRecDepth 100000
namespace Go.Proofs.YtbfmhambfonpcaaDoorLg
noncomputable section
open Go Go.Lift Go.Proofs.YtbfmhambfonpcaaDoorPx

def zhc (x : Tree) : List Tree := (unN x).2.2.1

def zci (k : Int) (x : Tree) : List Tree := cond (z7n x == k) (zhc x) [x]

def z52 (k : Int) (ps : List Tree) : List Tree := ps.flatMap (zci k)

def z57 (k : Int) (ps : List Tree) : Tree := match z52 k ps with
  | [x] => x
  | kids => .mk k [0, 0, 0, 0] kids 0 0

theorem zln (k : Int) {ps : List Tree} {i : Nat} (h : i < ps.length) : z52 k (ps.drop i) = zci k (ps.getD i dT) ++ z52 k (ps.drop (i + 1)) := by
  rw [List.drop_eq_getElem_cons h, List.getD_eq_getElem?_getD, List.getElem?_eq_getElem h]
  rfl

theorem znv (l : List Tree) : (l.map unN).map foN = l := by
  rw [List.map_map]
  conv => rhs; rw [<- List.map_id l]
  exact List.map_congr_left fun x _ => zw5 x

theorem z12f (N : Nat) (k : Int) (ps : List Tree) (hm : ps.length <= maxLen) (hN : ps.length < N) (hb : (z52 k ps).length * 80 <= 70368744177664) : z6m N k ps = some (unN (z57 k ps)) := by
  unfold z6m zg1
  have key : ∀ (x4 : NodT.den) (k0 : List NodT.den -> Option NodT.den), iter (fun (v : (List NodT.den × Int)) r => z8l N k x4 ps (ps.length : Int) v.1 v.2 (fun kids x10 => (r (kids, x10))) k0) N ([], 0) = k0 ((z52 k ps).map unN) := by
    intro x4 k0
    have := zhd (step := fun (v : (List NodT.den × Int)) r => z8l N k x4 ps (ps.length : Int) v.1 v.2 (fun kids x10 => (r (kids, x10))) k0)
      (fun v => ∃ i : Nat, v.2 = (i : Int) /\ i <= ps.length /\ (v.1.length + (z52 k (ps.drop i)).length) * 80 <= 70368744177664) (fun v => ps.length - v.2.toNat) (fun v => k0 (v.1 ++ (z52 k (ps.drop v.2.toNat)).map unN)) (by
      rintro ⟨acc, v⟩ r ⟨i, rfl, hi, hbi⟩ hr
      unfold z8l
      dsimp only at hbi ⊢
      rcases Nat.lt_or_ge i ps.length with h | h
      . have ht : decide ((i : Int) < (ps.length : Int)) = true := decide_eq_true (by omega)
        rw [z4k ht, z4k (zbf h), Int.toNat_natCast, zze h hm]
        rw [zln k h, List.length_append] at hbi
        rw [zln k h, List.map_append, <- List.append_assoc]
        change cond (z7n (ps.getD i dT) == k) (cond (decide (((acc.length + (List.map unN (zhc (ps.getD i dT))).length) * 80) <= 70368744177664)) (r (acc ++ List.map unN (zhc (ps.getD i dT)), ((i + 1 : Nat) : Int))) none) (cond (decide (((acc.length + 1) * 80) <= 70368744177664)) (r (acc ++ [unN (ps.getD i dT)], ((i + 1 : Nat) : Int))) none) = _
        unfold zci at hbi ⊢
        cases hk : z7n (ps.getD i dT) == k with
        | true =>
          rw [hk] at hbi
          simp only [cond_true] at hbi ⊢
          rw [z4k (decide_eq_true (by rw [List.length_map]; omega)), hr _ ⟨i + 1, rfl, by omega, by simp only [List.length_append, List.length_map]; omega⟩ (by simp only [Int.toNat_natCast]; omega)]
          simp only [Int.toNat_natCast]
        | false =>
          rw [hk] at hbi
          simp only [cond_false, List.length_singleton] at hbi ⊢
          rw [z4k (decide_eq_true (by omega)), hr _ ⟨i + 1, rfl, by omega, by simp only [List.length_append, List.length_singleton]; omega⟩ (by simp only [Int.toNat_natCast]; omega)]
          simp only [Int.toNat_natCast, List.map_cons, List.map_nil]
      . have ht : decide ((i : Int) < (ps.length : Int)) = false := decide_eq_false (by omega)
        rw [z9r ht, Int.toNat_natCast, List.drop_eq_nil_of_le h]
        simp [z52])
    have := this N ([], 0) ⟨0, rfl, by omega, by simpa using hb⟩ (by simp; omega)
    simpa using this
  refine (key _ _).trans ?_
  unfold z57
  cases hf : z52 k ps with
  | nil => rfl
  | cons x xs =>
    cases xs with
    | nil => rfl
    | cons y ys =>
      have h1 : (((List.map unN (x :: y :: ys)).length : Int) == 1) = false := by
        rw [beq_eq_false_iff_ne]; simp only [List.length_map, List.length_cons]; omega
      rw [z9r h1, znv]
      rfl

end
end Go.Proofs.YtbfmhambfonpcaaDoorLg
