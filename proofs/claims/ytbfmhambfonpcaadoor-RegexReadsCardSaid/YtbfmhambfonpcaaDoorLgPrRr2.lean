import Derived.Test.YtbfmhambfonpcaaDoorLgPrRr1
import Derived.Test.YtbfmhambfonpcaaDoorLgW
import Derived.Test.YtbfmhambfonpcaaDoorChecked
import Derived.Shelf.Strings.Search1
import Derived.KernelRfl
import Derived.Test.YtbfmhambfonpcaaDoorLgOr
set_option linter.all false
namespace Go.Proofs.YtbfmhambfonpcaaDoorLg
noncomputable section
open Go Go.Lift Go.Proofs Go.Shelf

def zu3 : Go.Shelf.Ren := ⟨fun | 217 => 59 | 266 => 70 | n => n, fun | 9 => 9 | 5 => 5 | 3 => 3 | n => n, fun | n => n⟩
theorem z184 : Lays.n217 Tryd.prog zu3 where
  mixed := by kernel_rfl
  f217 := Tryd.func59.trans (congrArg some (by kernel_rfl))
  f266 := Tryd.func70.trans (congrArg some (by kernel_rfl))
  t3 := Tryd.underlying3
  a3 := Tryd.isAgg3
  z3 := Tryd.sizeOf3
  v3 := Tryd.zeroValue3
  t5 := Tryd.underlying5
  a5 := Tryd.isAgg5
  z5 := Tryd.sizeOf5
  v5 := Tryd.zeroValue5
  t9 := Tryd.underlying9
  a9 := Tryd.isAgg9
  z9 := Tryd.sizeOf9
  v9 := Tryd.zeroValue9

def z1em (x : z1a [(0, .v .str), (0, .v (.int .u8))]) : Option Int := some (Lib.indexByte x.1 x.2.1.toNat.toUInt8)

def z10k : List A -> Res := z1b [(0, .v .str), (0, .v (.int .u8))] z1em (zb4 (.v (.int .i64)) 2)

theorem z1el (glob : Nat -> Option Dat) : Contract Tryd.prog glob 59 z10k := by
  refine Contract.hand ⟨_, Tryd.func59, by kernel_rfl, by decide⟩ ?_
  intro w S vals ob x y har hS hg hy
  obtain ⟨s, c, u⟩ := x
  cases u
  unfold z1em at hy
  dsimp only at hy s c
  cases hy
  obtain ⟨⟨v0, hv0, hA0, ho0⟩, _⟩ := har.rel 0 _ rfl
  obtain ⟨⟨v1, hv1, hA1, ho1⟩, _⟩ := har.rel 1 _ rfl
  have hlen := har.len
  obtain ⟨u0, u1, rfl⟩ : ∃ u0 u1, vals = [u0, u1] := by
    have : vals.length = 2 := by simpa [mkS, zgk] using hlen.symm
    match vals, this with
    | [a, b], _ => exact ⟨a, b, rfl⟩
  simp at hv0 hv1
  subst hv0; subst hv1
  have e0 := hA0.str_inv
  subst e0
  have e1 := hA1.int_inv
  subst e1
  have hnone : ∀ i, ob i = [] := by
    intro i
    match i with
    | 0 => exact ho0
    | 1 => exact ho1
    | i + 2 => exact har.out _ (by simp [mkS, zgk])
  refine (Any.stringslite_IndexByte z184 ⟨⟨s⟩⟩ c w).mono ?_
  rintro e w' ⟨rfl, rfl⟩
  refine ⟨_, S, [], ob, rfl, WF.refl _ _, Lift.Sub.refl _, hS, fun k hk => .inl hk, ⟨⟨VR.int, rfl⟩, rfl⟩, (fun k hk => by cases hk), .nil, ?_, ?_, har.inj, har.nd, fun i hi => hi⟩
  . intro i z hz hbx
    match i with
    | 0 => simp [mkS, zgk, AS.mk] at hz; subst hz; cases hbx
    | 1 => simp [mkS, zgk, AS.mk] at hz; subst hz; cases hbx
    | i + 2 => simp [mkS, zgk] at hz
  . intro i k hk
    rw [hnone i] at hk; cases hk

end
end Go.Proofs.YtbfmhambfonpcaaDoorLg

set_option linter.all false
set_option maxRecDepth 100000
namespace Go.Proofs.YtbfmhambfonpcaaDoorLg
noncomputable section
open Go Go.Lift

abbrev TT0 : T := (.pair (.int .i64) (.pair (.arr 4 (.int .u64)) (.pair (.sl .nod) (.pair (.int .i64) (.pair (.int .i64) .unit)))))

abbrev DT1 : Type := (Int × ((List Int) × ((List Tree) × (Int × (Int × Unit)))))

abbrev TT2 : T := (.pair TT0 (.pair (.arr 4 (.int .u64)) (.pair .bool (.pair (.int .i64) (.pair (.pair (.int .i64) (.pair (.int .i64) .unit)) .unit)))))

abbrev DT3 : Type := (DT1 × ((List Int) × (Bool × (Int × ((Int × (Int × Unit)) × Unit)))))

abbrev TT4 : T := (.pair .str (.pair (.int .i64) (.pair (.int .i64) .unit)))

abbrev DT5 : Type := ((List UInt8) × (Int × (Int × Unit)))

abbrev TT6 : T := (.pair (.int .i64) (.pair (.int .i64) .unit))

abbrev DT7 : Type := (Int × ((List Int) × ((List Tree) × (Int × (Int × Unit)))))

abbrev DT8 : Type := (((List Int) × Bool × Unit) × (DT5 × Unit))

abbrev DT9 : Type := ((List Int) × (DT5 × Unit))

abbrev z19e : List Nat := [0, 0, 0, 1, 0, 1, 1]

abbrev zve : List Nat := [1, 1, 1, 1, 1, 1, 1]

abbrev z14w : List Nat := [0, 1, 0, 0, 1, 0, 1]

abbrev z14x : List Nat := [1, 0, 1, 0, 1, 1, 1]

abbrev z13j : List Nat := [0, 0, 1, 0, 1, 1, 1]

abbrev zyg : List Nat := [1, 0, 1, 1, 1, 1, 1]

abbrev zr7 : List Nat := [0, 1, 1, 1, 1, 1, 1]

abbrev zkf : List Nat := [0, 0, 1, 1, 1, 1, 1]

abbrev zyi : List Nat := [9, 7, 10, 6, 0, 8, 4]

abbrev z11r : List Nat := [1, 1, 0, 0, 0, 0, 1, 1]

abbrev z11s : List Nat := [1, 0, 0, 0, 1, 1, 1, 1]

abbrev zyj : List Nat := [0, 0, 0, 0, 1, 1, 1, 1]

abbrev zyk : List Nat := [0, 1, 0, 1, 1, 1, 1, 1]

abbrev z1ab : List Nat := [1, 1, 0, 0, 1, 0, 1, 1]

abbrev z1ac : List Nat := [1, 0, 0, 0, 1, 0, 1, 1]

abbrev z1ad : List Nat := [0, 0, 0, 0, 1, 0, 1, 1]

abbrev z14y : List Nat := [1, 0, 1, 0, 1, 1, 1, 1]

abbrev z19b : List Nat := [1, 0, 1, 1, 1, 1, 1, 1]

abbrev z11x : List Nat := [0, 0, 1, 0, 1, 1, 1, 1]

abbrev z13k : List Nat := [0, 1, 1, 0, 1, 0, 1, 1]

abbrev z13l : List Nat := [1, 1, 1, 1, 1, 1, 1, 1]

abbrev z11y : List Nat := [0, 1, 1, 1, 1, 1, 1, 1]

abbrev zyh : List Nat := [0, 0, 1, 1, 1, 1, 1, 1]

abbrev zx3 : List Nat := [0, 1, 0, 0, 1, 0, 1, 1]

abbrev z1lc : List (Nat × AS) := [(0, .v TT0), (0, .v TT0)]

abbrev z11t : List Nat := [1, 0, 0, 0, 0, 1, 1, 1, 1]

abbrev z11u : List Nat := [0, 0, 0, 0, 0, 1, 1, 1, 1]

abbrev z1lj : List Nat := [1, 1, 1, 0, 0, 1, 0, 1, 1]

abbrev z1lk : List Nat := [0, 1, 1, 0, 0, 1, 0, 1, 1]

abbrev z1ll : List Nat := [0, 1, 0, 1, 1, 1, 1, 1, 1]

abbrev z1lf : List Nat := [0, 1, 1, 1, 1, 1, 1, 1, 1]

abbrev z1lg : List Nat := [0, 0, 1, 1, 1, 1, 1, 1, 1]

abbrev z1aa : List Nat := [0, 0, 1, 1, 0, 1, 0, 1, 1]

abbrev PQ93 : List Nat := [1, 0, 1, 0, 0, 1, 0, 1, 1]

abbrev PQ92 : List Nat := [1, 0, 1, 0, 1, 1, 1, 1, 1]

abbrev z1ae : List Nat := [1, 1, 0, 0, 0, 1, 0, 1, 1]

abbrev z19c : List Nat := [0, 0, 1, 0, 1, 1, 1, 1, 1]

abbrev z19d : List Nat := [0, 0, 0, 1, 0, 0, 1, 0, 1, 1]

abbrev z1le : List Nat := [1, 1, 0, 0, 0, 0, 1, 1, 1, 1]

abbrev z1lh : List Nat := [1, 0, 1, 0, 1, 1, 1, 1, 1, 1]

abbrev z1li : List Nat := [0, 0, 1, 0, 1, 1, 1, 1, 1, 1]

abbrev z14s : List (Nat × AS) := [(0, .box TT4), (1, .box TT0)]

abbrev zvd : List (Nat × AS) := [(0, .v (.arr 4 (.int .u64)))]

abbrev z199 : List (Nat × AS) := [(2, .box TT0), (0, .box TT0)]

abbrev PQ91 : List Nat := [0, 0, 0, 1, 1, 0, 0, 1, 0, 1, 1]

abbrev zr6 : List (Nat × AS) := [(0, .v .str), (0, .v (.int .i64))]

abbrev zoh : List (Nat × AS) := [(0, .box TT4), (0, .v (.int .u8))]

abbrev z19w : List (Nat × AS) := [(0, .box TT4), (0, .v (.int .i64))]

abbrev z14t : List (Nat × AS) := [(0, .box TT4), (2, .v (.int .i64))]

abbrev z1af : List Nat := [0, 1, 1, 1, 1, 1, 1, 1, 1, 0, 1, 1, 1]

abbrev z19x : List (Nat × AS) := [(0, .v (.int .i64)), (0, .v (.sl .nod))]

abbrev z14z : List Nat := [0, 0, 0, 0, 0, 0, 0, 0, 1, 0, 1, 1, 1, 1]

abbrev SQ7 : List (Nat × AS) := [(0, .v (.int .i64)), (0, .v (.int .i64))]

abbrev z194 : List (Nat × AS) := [(0, .v .str), (3, .box TT2), (0, .box TT2)]

abbrev zyf : List (Nat × AS) := [(0, .v .str), (5, .box TT2), (0, .box TT2)]

abbrev z19y : List (Nat × AS) := [(0, .box TT4), (1, .box TT0), (1, .box TT0)]

abbrev zyo : List (Nat × AS) := [(6, .box TT2), (0, .box TT2), (0, .row TT0)]

abbrev SQ4 : List (Nat × AS) := [(0, .box TT4), (1, .box TT0), (0, .row TT0)]

abbrev z19a : List (Nat × AS) := [(0, .v .str), (0, .v TT0), (0, .v (.int .i64))]

abbrev SQ98 : List (Nat × AS) := [(0, .v (.arr 4 (.int .u64))), (0, .v (.int .u8))]

abbrev z195 : List (Nat × AS) := [(0, .v .str), (0, .v (.int .i64)), (2, .box TT2)]

abbrev z14u : List (Nat × AS) := [(0, .box TT4), (1, .box TT0), (0, .v (.int .u8))]

abbrev SQ97 : List (Nat × AS) := [(1, .v (.int .i64)), (4, .box TT2), (0, .row TT0)]

abbrev z19z : List (Nat × AS) := [(0, .v (.arr 4 (.int .u64))), (0, .v (.int .i64))]

abbrev z1lb : List (Nat × AS) := [(1, .box (.arr 4 (.int .u64))), (1, .v (.int .i64))]

abbrev SQ90 : List (Nat × AS) := [(0, .v .str), (0, .v (.int .i64)), (0, .v (.int .u8))]

abbrev zyp : List (Nat × AS) := [(0, .box TT4), (0, .v (.int .i64)), (3, .v (.int .u8))]

abbrev SQ5 : List (Nat × AS) := [(0, .v .str), (0, .v (.int .i64)), (0, .v (.int .i64))]

abbrev SQ67 : List (Nat × AS) := [(0, .box TT4), (1, .v (.int .i64)), (0, .v (.int .i64))]

abbrev SQ0 : List (Nat × AS) := [(0, .box TT4), (2, .v (.int .i64)), (0, .v (.int .i64))]

abbrev z1a0 : List (Nat × AS) := [(0, .v .str), (1, .box TT0), (0, .box TT6), (0, .box TT2)]

abbrev z1a1 : List (Nat × AS) := [(0, .v (.arr 4 (.int .u64))), (0, .v (.arr 4 (.int .u64)))]

abbrev SQ57 : List (Nat × AS) := [(0, .box TT4), (1, .box (.arr 4 (.int .u64))), (0, .v .bool)]

abbrev SQ54 : List (Nat × AS) := [(0, .v .str), (0, .v (.int .i64)), (2, .box TT2), (0, .v .bool)]

abbrev z196 : List (Nat × AS) := [(0, .v .str), (1, .v (.int .i64)), (3, .box TT2), (0, .box TT2)]

abbrev z14v : List (Nat × AS) := [(0, .box TT4), (1, .box (.arr 4 (.int .u64))), (1, .v (.int .u8))]

abbrev z197 : List (Nat × AS) := [(0, .v .str), (0, .v (.int .i64)), (0, .v (.int .i64)), (3, .box TT2)]

abbrev SQ68 : List (Nat × AS) := [(0, .v TT0), (0, .v (.int .i64)), (0, .v (.int .i64)), (0, .v (.int .i64))]

abbrev SQ8 : List (Nat × AS) := [(0, .box TT4), (1, .v (.int .i64)), (0, .v (.int .i64)), (0, .v (.int .i64))]

abbrev z1a2 : List (Nat × AS) := [(0, .box TT4), (1, .box TT0), (0, .box TT0), (0, .box TT0), (24, .v (.int .u8))]

abbrev SQ42 : List (Nat × AS) := [(1, .v (.int .i64)), (2, .box TT2), (0, .v .bool), (1, .box (.arr 4 (.int .u64)))]

abbrev z198 : List (Nat × AS) := [(1, .v (.int .i64)), (0, .box (.arr 4 (.int .u64))), (1, .box (.arr 4 (.int .u64)))]

abbrev SQ9 : List (Nat × AS) := [(0, .v .str), (0, .v (.int .i64)), (0, .v (.int .i64)), (3, .box TT2), (0, .row TT0)]

abbrev z1a3 : List (Nat × AS) := [(4, .box TT2), (0, .box TT2), (0, .box TT2), (0, .v (.int .i64)), (0, .v (.int .i64))]

abbrev z1a4 : List (Nat × AS) := [(0, .box TT4), (1, .box (.arr 4 (.int .u64))), (1, .v (.int .u8)), (2, .v (.int .u8))]

abbrev z1a5 : List (Nat × AS) := [(0, .box TT4), (1, .box (.arr 4 (.int .u64))), (1, .v (.int .i64)), (0, .v (.int .u8))]

abbrev SQ83 : List (Nat × AS) := [(0, .v .str), (0, .v (.int .i64)), (2, .box TT2), (1, .v (.int .i64)), (0, .v (.int .i64))]

abbrev z1a6 : List (Nat × AS) := [(0, .v (.int .i64)), (0, .v (.sl .nod)), (2, .box TT0), (0, .row TT0), (0, .v (.int .i64))]

abbrev SQ2 : List (Nat × AS) := [(0, .v .str), (0, .v (.int .i64)), (3, .box TT2), (0, .v (.int .i64)), (0, .v (.int .i64))]

abbrev z1a7 : List (Nat × AS) := [(0, .box TT4), (1, .box (.arr 4 (.int .u64))), (0, .v .bool), (0, .box (.arr 4 (.int .u64)))]

abbrev SQ6 : List (Nat × AS) := [(0, .box TT4), (1, .box (.arr 4 (.int .u64))), (0, .box (.arr 4 (.int .u64))), (0, .v .bool)]

abbrev SQ79 : List (Nat × AS) := [(0, .box TT4), (1, .box (.arr 4 (.int .u64))), (0, .box (.arr 4 (.int .u64))), (13, .v .bool)]

abbrev SQ75 : List (Nat × AS) := [(1, .v (.int .u8)), (2, .box (.arr 4 (.int .u64))), (0, .box (.arr 4 (.int .u64))), (0, .v (.int .i64))]

abbrev SQ74 : List (Nat × AS) := [(1, .v (.int .i64)), (2, .box (.arr 4 (.int .u64))), (0, .box (.arr 4 (.int .u64))), (0, .v (.int .i64))]

abbrev SQ71 : List (Nat × AS) := [(0, .box TT4), (1, .box (.arr 4 (.int .u64))), (0, .box (.arr 4 (.int .u64))), (2, .box (.arr 4 (.int .u64)))]

abbrev SQ70 : List (Nat × AS) := [(0, .v .str), (0, .v (.int .i64)), (2, .box TT2), (0, .v .bool), (0, .box TT2), (0, .box (.arr 4 (.int .u64)))]

abbrev SQ69 : List (Nat × AS) := [(0, .v (.int .i64)), (3, .box TT0), (0, .row TT0), (2, .v (.sl .nod)), (0, .v (.int .i64)), (0, .v (.int .i64))]

abbrev SQ65 : List (Nat × AS) := [(2, .box (.arr 4 (.int .u64))), (0, .box (.arr 4 (.int .u64))), (0, .box (.arr 4 (.int .u64))), (1, .v (.int .i64))]

abbrev z1a8 : List (Nat × AS) := [(1, .box (.arr 4 (.int .u64))), (0, .box (.arr 4 (.int .u64))), (0, .box (.arr 4 (.int .u64))), (0, .v (.int .i64))]

abbrev z1a9 : List (Nat × AS) := [(2, .box (.arr 4 (.int .u64))), (0, .box (.arr 4 (.int .u64))), (0, .box (.arr 4 (.int .u64))), (0, .v (.int .i64))]

abbrev SQ61 : List (Nat × AS) := [(0, .v .str), (1, .box (.arr 4 (.int .u64))), (0, .box (.arr 4 (.int .u64))), (2, .v (.int .i64)), (0, .v (.int .i64))]

abbrev SQ1 : List (Nat × AS) := [(0, .v .str), (3, .box TT0), (1, .box TT2), (0, .v (.int .i64)), (0, .box TT2), (0, .v (.int .i64)), (0, .v (.int .i64))]

abbrev SQ55 : List (Nat × AS) := [(1, .v (.int .i64)), (0, .box (.arr 4 (.int .u64))), (1, .box (.arr 4 (.int .u64))), (0, .v (.int .u64)), (0, .v (.int .i64))]

abbrev SQ3 : List (Nat × AS) := [(0, .box TT4), (1, .box (.arr 4 (.int .u64))), (0, .box (.arr 4 (.int .u64))), (0, .v .bool), (0, .v (.int .i64)), (0, .box (.arr 4 (.int .u64)))]

abbrev SQ46 : List (Nat × AS) := [(0, .box TT4), (1, .box (.arr 4 (.int .u64))), (0, .box (.arr 4 (.int .u64))), (1, .v (.int .i64)), (0, .box (.arr 4 (.int .u64))), (28, .v .bool)]

def ty3 : TyI := ⟨(Go.TypeDesc.int IntKind.i64), 1, 8, (.int .i64), (0 : Int), false⟩

theorem z1aw : TyOk Tryd.prog 3 ty3 := TyOk.of (by kernel_rfl) (by kernel_rfl) (by kernel_rfl) (by kernel_rfl)

def ty4 : TyI := ⟨Go.TypeDesc.bool, 1, 1, .bool, false, false⟩

theorem z1av : TyOk Tryd.prog 4 ty4 := TyOk.of (by kernel_rfl) (by kernel_rfl) (by kernel_rfl) (by kernel_rfl)

def ty5 : TyI := ⟨(Go.TypeDesc.int IntKind.u8), 1, 1, (.int .u8), (0 : Int), false⟩

theorem z1au : TyOk Tryd.prog 5 ty5 := TyOk.of (by kernel_rfl) (by kernel_rfl) (by kernel_rfl) (by kernel_rfl)

def ty9 : TyI := ⟨Go.TypeDesc.string, 1, 16, .str, ([] : List UInt8), false⟩

theorem z1at : TyOk Tryd.prog 9 ty9 := TyOk.of (by kernel_rfl) (by kernel_rfl) (by kernel_rfl) (by kernel_rfl)

def ty22 : TyI := ⟨(Go.TypeDesc.int IntKind.u64), 1, 8, (.int .u64), (0 : Int), false⟩

theorem z15n : TyOk Tryd.prog 22 ty22 := TyOk.of (by kernel_rfl) (by kernel_rfl) (by kernel_rfl) (by kernel_rfl)

def ty24 : TyI := ⟨(Go.TypeDesc.array 4 22), 4, 32, (.arr 4 (.int .u64)), ([(0 : Int), (0 : Int), (0 : Int), (0 : Int)] : List Int), true⟩

theorem z15m : TyOk Tryd.prog 24 ty24 := TyOk.of (by kernel_rfl) (by kernel_rfl) (by kernel_rfl) (by kernel_rfl)

def ty25 : TyI := ⟨(Go.TypeDesc.slice 27), 1, 24, (.sl .nod), ([] : List Tree), false⟩

theorem z15l : TyOk Tryd.prog 25 ty25 := TyOk.of (by kernel_rfl) (by kernel_rfl) (by kernel_rfl) (by kernel_rfl)

def ty27 : TyI := ⟨(Go.TypeDesc.struct (List.toArray ([(Go.Field.mk "Kind" 3 0 false "" "" 0), (Go.Field.mk "Set" 24 1 false "" "" 8), (Go.Field.mk "Kids" 25 5 false "" "" 40), (Go.Field.mk "Min" 3 6 false "" "" 64), (Go.Field.mk "Max" 3 7 false "" "" 72)] : List Go.Field))), 8, 80, TT0, ((0 : Int), ([(0 : Int), (0 : Int), (0 : Int), (0 : Int)] : List Int), ([] : List Tree), (0 : Int), (0 : Int), ()), true⟩

theorem z15k : TyOk Tryd.prog 27 ty27 := TyOk.of (by kernel_rfl) (by kernel_rfl) (by kernel_rfl) (by kernel_rfl)

def ty34 : TyI := ⟨(Go.TypeDesc.int IntKind.i64), 1, 8, (.int .i64), (0 : Int), false⟩

theorem z15j : TyOk Tryd.prog 34 ty34 := TyOk.of (by kernel_rfl) (by kernel_rfl) (by kernel_rfl) (by kernel_rfl)

def ty36 : TyI := ⟨(Go.TypeDesc.struct (List.toArray ([(Go.Field.mk "E" 34 0 false "" "" 0), (Go.Field.mk "At" 3 1 false "" "" 8)] : List Go.Field))), 2, 16, TT6, ((0 : Int), (0 : Int), ()), true⟩

theorem z15i : TyOk Tryd.prog 36 ty36 := TyOk.of (by kernel_rfl) (by kernel_rfl) (by kernel_rfl) (by kernel_rfl)

def ty43 : TyI := ⟨(Go.TypeDesc.pointer 45), 1, 8, .opq, (Go.Value.pointer none), false⟩

theorem z15h : TyOk Tryd.prog 43 ty43 := TyOk.of (by kernel_rfl) (by kernel_rfl) (by kernel_rfl) (by kernel_rfl)

def ty45 : TyI := ⟨(Go.TypeDesc.struct (List.toArray ([(Go.Field.mk "s" 9 0 false "" "porter/regex" 0), (Go.Field.mk "at" 3 1 false "" "porter/regex" 16), (Go.Field.mk "open" 3 2 false "" "porter/regex" 24)] : List Go.Field))), 3, 32, TT4, (([] : List UInt8), (0 : Int), (0 : Int), ()), true⟩

theorem z15g : TyOk Tryd.prog 45 ty45 := TyOk.of (by kernel_rfl) (by kernel_rfl) (by kernel_rfl) (by kernel_rfl)

def ty49 : TyI := ⟨(Go.TypeDesc.struct (List.toArray ([(Go.Field.mk "N" 27 0 false "" "" 0), (Go.Field.mk "Set" 24 8 false "" "" 80), (Go.Field.mk "Many" 4 12 false "" "" 112), (Go.Field.mk "At" 3 13 false "" "" 120), (Go.Field.mk "F" 36 14 false "" "" 128)] : List Go.Field))), 16, 144, TT2, (((0 : Int), ([(0 : Int), (0 : Int), (0 : Int), (0 : Int)] : List Int), ([] : List Tree), (0 : Int), (0 : Int), ()), ([(0 : Int), (0 : Int), (0 : Int), (0 : Int)] : List Int), false, (0 : Int), ((0 : Int), (0 : Int), ()), ()), true⟩

theorem z15f : TyOk Tryd.prog 49 ty49 := TyOk.of (by kernel_rfl) (by kernel_rfl) (by kernel_rfl) (by kernel_rfl)

def ty78 : TyI := ⟨(Go.TypeDesc.int IntKind.u64), 1, 8, (.int .u64), (0 : Int), false⟩

theorem z15e : TyOk Tryd.prog 78 ty78 := TyOk.of (by kernel_rfl) (by kernel_rfl) (by kernel_rfl) (by kernel_rfl)

def ty84 : TyI := ⟨(Go.TypeDesc.array 64 5), 64, 64, (.arr 64 (.int .u8)), ((0 : Int) :: (0 : Int) :: (0 : Int) :: (0 : Int) :: (0 : Int) :: (0 : Int) :: (0 : Int) :: (0 : Int) :: (0 : Int) :: (0 : Int) :: (0 : Int) :: (0 : Int) :: (0 : Int) :: (0 : Int) :: (0 : Int) :: (0 : Int) :: (0 : Int) :: (0 : Int) :: (0 : Int) :: (0 : Int) :: (0 : Int) :: (0 : Int) :: (0 : Int) :: (0 : Int) :: (0 : Int) :: (0 : Int) :: (0 : Int) :: (0 : Int) :: (0 : Int) :: (0 : Int) :: (0 : Int) :: (0 : Int) :: (0 : Int) :: (0 : Int) :: (0 : Int) :: (0 : Int) :: (0 : Int) :: (0 : Int) :: (0 : Int) :: (0 : Int) :: (0 : Int) :: (0 : Int) :: (0 : Int) :: (0 : Int) :: (0 : Int) :: (0 : Int) :: (0 : Int) :: (0 : Int) :: (0 : Int) :: (0 : Int) :: (0 : Int) :: (0 : Int) :: (0 : Int) :: (0 : Int) :: (0 : Int) :: (0 : Int) :: (0 : Int) :: (0 : Int) :: (0 : Int) :: (0 : Int) :: (0 : Int) :: (0 : Int) :: (0 : Int) :: (0 : Int) :: ([] : List Int)), true⟩

theorem z15d : TyOk Tryd.prog 84 ty84 := TyOk.of (by kernel_rfl) (by kernel_rfl) (by kernel_rfl) (by kernel_rfl)

def tys : List (Nat × TyI) := [(3, ty3), (4, ty4), (5, ty5), (9, ty9), (22, ty22), (24, ty24), (25, ty25), (27, ty27), (34, ty34), (36, ty36), (43, ty43), (45, ty45), (49, ty49), (78, ty78), (84, ty84)]

theorem z16 : TysOk Tryd.prog tys := TysOk.cons z1aw (TysOk.cons z1av (TysOk.cons z1au (TysOk.cons z1at (TysOk.cons z15n (TysOk.cons z15m (TysOk.cons z15l (TysOk.cons z15k (TysOk.cons z15j (TysOk.cons z15i (TysOk.cons z15h (TysOk.cons z15g (TysOk.cons z15f (TysOk.cons z15e (TysOk.cons z15d (TysOk.nil)))))))))))))))

theorem mixed : Tryd.prog.follows .mixedOrders = true := by kernel_rfl

def glob1 : List Int := [0, 1, 56, 2, 57, 49, 28, 3, 61, 58, 42, 50, 38, 29, 17, 4, 62, 47, 59, 36, 45, 43, 51, 22, 53, 39, 33, 30, 24, 18, 12, 5, 63, 55, 48, 27, 60, 41, 37, 16, 46, 35, 44, 21, 52, 32, 23, 11, 54, 26, 40, 15, 34, 20, 31, 10, 25, 14, 19, 9, 13, 8, 7, 6]

def glob : Nat -> Option Dat := lk [(1, ⟨(.arr 64 (.int .u8)), glob1⟩)]

def zlt : Code := (Tryd.f12.body).getD .skip

def L_0 : List (List Nat × List Nat) := [([0], [2, 3]), ([0, 0, 1], [40, 2, 3]), ([1, 0, 1], [2, 3]), ([0, 0, 1, 0, 1], [4]), ([1, 0, 1, 0, 1], [4]), ([0, 0, 1, 1], [5, 2, 3]), ([0, 1, 0, 1, 1], [5, 2, 3]), (z1ad, [45, 2, 5, 3]), (z1ac, [2, 5, 3]), (z1ae, []), (z19d, [59, 5, 2, 3]), ([1, 0, 0, 1, 0, 0, 1, 0, 1, 1], [5, 2, 3]), ([0, 0, 1, 0, 0, 1, 0, 0, 1, 0, 1, 1], [4]), ([1, 0, 1, 0, 0, 1, 0, 0, 1, 0, 1, 1], [4]), (zx3, [5, 2, 3]), (z1ab, [5, 2, 3]), ([1, 0, 1, 1], []), ([0, 1, 1, 1], [4]), ([1, 1, 1, 1], [4])]

def E_0 (N : Nat) (self : DT1 -> DT1 -> Option Bool) : Env := z27 tys glob [(12, z1b z1lc (fun x => self x.1 x.2.1) (zb4 (.v .bool) 2))] [] [] [] false [] []

theorem Eok_0 (N : Nat) (self : DT1 -> DT1 -> Option Bool) (hself : Contract Tryd.prog glob 12 (z1b z1lc (fun x => self x.1 x.2.1) (zb4 (.v .bool) 2))) : EnvOk Tryd.prog (E_0 N self) := zi mixed z16 (FnsOk.cons (hself) (FnsOk.nil)) (ItsOk.nil)

def zaa (N : Nat) (self : DT1 -> DT1 -> Option Bool) (a : DT1) (b : DT1) (k0 : Bool -> Option Bool) : Option Bool :=
 cond (a.1 != b.1)
 (k0 true)
 (cond (!(eqD (T.arr 4 (T.int IntKind.u64)) a.2.1 b.2.1))
 (k0 true)
 (cond (a.2.2.2.1 != b.2.2.2.1)
 (k0 true)
 (cond (a.2.2.2.2.1 != b.2.2.2.2.1)
 (k0 true)
 (k0 ((((List.length a.2.2.1) : Nat) : Int) != (((List.length b.2.2.1) : Nat) : Int))))))

def g2_0 (N : Nat) (self : DT1 -> DT1 -> Option Bool) (x : z1a z199) (K : Ex -> List A -> Option Bool) : Option Bool :=
 zaa N self x.1 x.2.1 (fun a2 => (K .normal (mkS [(2, .box TT0), (0, .box TT0), (36, .v .bool)] 19 (x.1, x.2.1, a2, ()))))

def h2_0 (N : Nat) (self : DT1 -> DT1 -> Option Bool) : Hd Bool := fun st K => (unS z199 56 (restr [2, 3] 0 st)).bind fun x => g2_0 N self x K

def t2_0 (N : Nat) (self : DT1 -> DT1 -> Option Bool) : Tab Bool := []

theorem ok2_0 {N : Nat} {self : DT1 -> DT1 -> Option Bool} {c : Ctx} (hb : Base Tryd.prog (E_0 N self) c) : zk Tryd.prog c (zf zlt [0, 0, 1]) (h2_0 N self) :=
  zj (s := z199) (m := 56) (g := g2_0 N self) [2, 3] (ze hb N (t2_0 N self) L_0 zlt TabOk.nil [0, 0, 1] _ rfl) (fun x K => by kernel_rfl)

def zab (N : Nat) (self : DT1 -> DT1 -> Option Bool) (a : DT1) (b : DT1) (k0 : Bool -> Option Bool) (k1 : Option Bool) : Option Bool :=
 zaa N self a b
 (fun x40 => cond x40
 (k0 false)
 (k1))

def g1_0 (N : Nat) (self : DT1 -> DT1 -> Option Bool) (x : z1a z199) (K : Ex -> List A -> Option Bool) : Option Bool :=
 zab N self x.1 x.2.1 (fun a0 => (K .ret (mkS [(4, .v .bool)] 55 (a0, ())))) (K .normal (mkS z199 56 (x.1, x.2.1, ())))

def h1_0 (N : Nat) (self : DT1 -> DT1 -> Option Bool) : Hd Bool := fun st K => (unS z199 56 (restr [2, 3] 0 st)).bind fun x => g1_0 N self x K

def t1_0 (N : Nat) (self : DT1 -> DT1 -> Option Bool) : Tab Bool := [([0, 0, 1], h2_0 N self)]

theorem ok1_0 {N : Nat} {self : DT1 -> DT1 -> Option Bool} {c : Ctx} (hb : Base Tryd.prog (E_0 N self) c) : zk Tryd.prog c (zf zlt [0, 1]) (h1_0 N self) :=
  zj (s := z199) (m := 56) (g := g1_0 N self) [2, 3] (ze hb N (t1_0 N self) L_0 zlt (TabOk.cons (ok2_0 hb) TabOk.nil) [0, 1] _ rfl) (fun x K => by kernel_rfl)

def zdl (N : Nat) (self : DT1 -> DT1 -> Option Bool) (a : DT1) (b : DT1) (i : Int) (rec : Int -> Option Bool) (k0 : Bool -> Option Bool) (k1 : Option Bool) : Option Bool :=
 cond (decide (i < (((List.length a.2.2.1) : Nat) : Int)))
 (cond (inR i (List.length a.2.2.1))
 (cond (inR i (List.length b.2.2.1))
 ((self (unN (List.getD a.2.2.1 (Int.toNat i) (Tree.mk (0 : Int) ([] : List Int) ([] : List Tree) (0 : Int) (0 : Int)))) (unN (List.getD b.2.2.1 (Int.toNat i) (Tree.mk (0 : Int) ([] : List Int) ([] : List Tree) (0 : Int) (0 : Int))))).bind fun y =>
 cond (!y)
 (k0 false)
 (rec (IntKind.wrap IntKind.i64 (i + (1 : Int)))))
 (none))
 (none))
 (k1)

def zdm (N : Nat) (self : DT1 -> DT1 -> Option Bool) (a : DT1) (b : DT1) (i : Int) (k0 : Bool -> Option Bool) (k1 : Option Bool) : Option Bool :=
 iter (fun (v : Int) r => zdl N self a b v (fun i => (r i)) k0 k1) N i

def g3_0 (N : Nat) (self : DT1 -> DT1 -> Option Bool) (i : (DT1 × DT1)) (v : Int) (r : Int -> Option Bool) (K : Ex -> List A -> Option Bool) : Option Bool :=
 zdl N self i.1 i.2 v (fun i => (r i)) (fun a0 => (K .ret (mkS [(4, .v .bool)] 55 (a0, ())))) (K (.exit 0) (mkS [] 60 ()))

def h3_0 (N : Nat) (self : DT1 -> DT1 -> Option Bool) : Hd Bool := fun st K => (unS [(2, .box TT0), (0, .box TT0), (1, .v (.int .i64))] 54 (restr [5, 2, 3] 0 st)).bind fun x => iter (fun v r => g3_0 N self ((fun x => (x.1, x.2.1)) x) v r K) N ((fun x => x.2.2.1) x)

def t3_0 (N : Nat) (self : DT1 -> DT1 -> Option Bool) : Tab Bool := []

theorem ok3_0 {N : Nat} {self : DT1 -> DT1 -> Option Bool} {c : Ctx} (hb : Base Tryd.prog (E_0 N self) c) : zk Tryd.prog c (zf zlt [0, 1, 0, 1, 1]) (h3_0 N self) :=
  z4k (s := [(2, .box TT0), (0, .box TT0), (1, .v (.int .i64))]) (m := 54) (g3_0 N self) [5, 2, 3] N (fun x => (x.1, x.2.1)) (fun x => x.2.2.1) (fun i v => (i.1, i.2, v, ())) (fun _ => rfl) (ze hb N (t3_0 N self) L_0 zlt TabOk.nil [0, 0, 1, 0, 1, 1] _ rfl) (fun i v r K => by kernel_rfl)

def z7j (N : Nat) (self : DT1 -> DT1 -> Option Bool) (a : DT1) (b : DT1) : Option Bool :=
 zab N self a b
 (fun x4 => some x4)
 (zdm N self a b (0 : Int)
 (fun x41 => some x41)
 (some true))

def t_0 (N : Nat) (self : DT1 -> DT1 -> Option Bool) : Tab Bool := [([0, 1], h1_0 N self), ([0, 1, 0, 1, 1], h3_0 N self)]

theorem z1ei (N : Nat) (self : DT1 -> DT1 -> Option Bool) (x : z1a z1lc) : zas (E_0 N self) N (t_0 N self) L_0 Tryd.f12 (mkS z1lc 0 x) (z6d (.v .bool) 2) = z7j N self x.1 x.2.1 := by kernel_rfl

def z2n : Nat -> DT1 -> DT1 -> Option Bool
  | 0 => fun _ _ => none
  | N + 1 => z7j (N + 1) (z2n N)

def zcq (N : Nat) : List A -> Res := z1b z1lc (fun x => z2n N x.1 x.2.1) (zb4 (.v .bool) 2)

theorem zdn : ∀ N : Nat, Contract Tryd.prog glob 12 (zcq N)
  | 0 => Contract.zero Tryd.func12 (body := zlt) (by kernel_rfl) (by decide) (fun _ => rfl)
  | N + 1 => Contract.of (E := E_0 (N + 1) (z2n N)) (H := t_0 (N + 1) (z2n N)) (L := L_0) (N := (N + 1)) (body := zlt) (K := (z6d (.v .bool) 2)) (Eok_0 (N + 1) (z2n N) (zdn N)) Tryd.func12 (by kernel_rfl) (by decide) (fun _ hb => (TabOk.cons (ok1_0 hb) (TabOk.cons (ok3_0 hb) TabOk.nil))) (fun x y h => by rw [z1ei]; exact h) (z1p (s := (.v .bool)) (m := 2))

def zv8 : Code := (Tryd.f56.body).getD .skip

def L_10 : List (List Nat × List Nat) := [([0], [0]), ([0, 0, 1], [12, 0]), ([1, 0, 1], [0]), ([0, 1, 0, 1], [0]), ([0, 1, 1], [2, 0]), ([1, 1, 1], [2, 0])]

def E_10 (N : Nat) : Env := z27 tys glob [] [] [] [0] false [] []

theorem z1np (N : Nat) : EnvOk Tryd.prog (E_10 N) := zi mixed z16 (FnsOk.nil) (ItsOk.nil)

def z8t (N : Nat) (p : DT5) (k0 : Option (Int × (DT5 × Unit))) : Option (Int × (DT5 × Unit)) :=
 cond (p.2.1 == (((List.length p.1) : Nat) : Int))
 (none)
 (k0)

def z1kz (N : Nat) (x : z1a [(0, .box TT4)]) (K : Ex -> List A -> Option (Int × (DT5 × Unit))) : Option (Int × (DT5 × Unit)) :=
 z8t N x.1 (K .normal (mkS [(0, .box TT4)] 27 (x.1, ())))

def z1ht (N : Nat) : Hd (Int × (DT5 × Unit)) := fun st K => (unS [(0, .box TT4)] 27 (restr [0] 0 st)).bind fun x => z1kz N x K

def t1_10 (N : Nat) : Tab (Int × (DT5 × Unit)) := []

theorem z1ec {N : Nat} {c : Ctx} (hb : Base Tryd.prog (E_10 N) c) : zk Tryd.prog c (zf zv8 [0, 1]) (z1ht N) :=
  zj (s := [(0, .box TT4)]) (m := 27) (g := z1kz N) [0] (ze hb N (t1_10 N) L_10 zv8 TabOk.nil [0, 1] _ rfl) (fun x K => by kernel_rfl)

def z17 (N : Nat) (p : DT5) : Option (Int × (DT5 × Unit)) :=
 z8t N p
 (cond (inR p.2.1 (List.length p.1))
 (some ((((UInt8.toNat (List.getD p.1 (Int.toNat p.2.1) (0 : UInt8))) : Nat) : Int), (p, ())))
 (none))

def t_10 (N : Nat) : Tab (Int × (DT5 × Unit)) := [([0, 1], z1ht N)]

theorem z182 (N : Nat) (x : z1a [(0, .box TT4)]) : zas (E_10 N) N (t_10 N) L_10 Tryd.f56 (mkS [(0, .box TT4)] 0 x) (z9l (.v (.int .u8)) [(0, .box TT4)] 0) = z17 N x.1 := by kernel_rfl

def z14 (N : Nat) : List A -> Res := z1b [(0, .box TT4)] (fun x => z17 N x.1) (zaq (.v (.int .u8)) [(0, .box TT4)] 0)

theorem z1f (N : Nat) : Contract Tryd.prog glob 56 (z14 N) :=
  Contract.of (E := E_10 N) (H := t_10 N) (L := L_10) (N := N) (body := zv8) (K := (z9l (.v (.int .u8)) [(0, .box TT4)] 0)) (z1np N) Tryd.func56 (by kernel_rfl) (by decide) (fun _ hb => (TabOk.cons (z1ec hb) TabOk.nil)) (fun x y h => by rw [z182]; exact h) (z6x (s := (.v (.int .u8))) (os := [(0, .box TT4)]) (m := 0))

def zv7 : Code := (Tryd.f46.body).getD .skip

def L_11 : List (List Nat × List Nat) := [([0, 0], [7, 0]), ([1, 0], [0]), ([0, 1, 0], [0]), ([1], [0])]

def E_11 (N : Nat) : Env := z27 tys glob [(56, z14 N)] [] [] [0] false [] []

theorem z1no (N : Nat) : EnvOk Tryd.prog (E_11 N) := zi mixed z16 (FnsOk.cons (z1f N) (FnsOk.nil)) (ItsOk.nil)

def z8u (N : Nat) (p : DT5) (b : Int) (k0 : DT5 -> Option ((Unit) × (DT5 × Unit))) : Option ((Unit) × (DT5 × Unit)) :=
 (z17 N p).bind fun y =>
 cond (y.1 != b)
 (none)
 (k0 y.2.1)

def z1ky (N : Nat) (x : z1a zoh) (K : Ex -> List A -> Option ((Unit) × (DT5 × Unit))) : Option ((Unit) × (DT5 × Unit)) :=
 z8u N x.1 x.2.1 (fun a0 => (K .normal (mkS [(0, .box TT4)] 20 (a0, ()))))

def z1hs (N : Nat) : Hd ((Unit) × (DT5 × Unit)) := fun st K => (unS zoh 19 (restr [0, 1] 0 st)).bind fun x => z1ky N x K

def t1_11 (N : Nat) : Tab ((Unit) × (DT5 × Unit)) := []

theorem z1eb {N : Nat} {c : Ctx} (hb : Base Tryd.prog (E_11 N) c) : zk Tryd.prog c (zf zv7 [0]) (z1hs N) :=
  zj (s := zoh) (m := 19) (g := z1ky N) [0, 1] (ze hb N (t1_11 N) L_11 zv7 TabOk.nil [0] _ rfl) (fun x K => by kernel_rfl)

def zy (N : Nat) (p : DT5) (b : Int) : Option ((Unit) × (DT5 × Unit)) :=
 z8u N p b
 (fun p1 => some ((), ((p1.1, ((IntKind.wrap IntKind.i64 (p1.2.1 + (1 : Int))), p1.2.2)), ())))

def t_11 (N : Nat) : Tab ((Unit) × (DT5 × Unit)) := [([0], z1hs N)]

theorem z181 (N : Nat) (x : z1a zoh) : zas (E_11 N) N (t_11 N) L_11 Tryd.f46 (mkS zoh 0 x) (z9l (.tup []) [(0, .box TT4)] 1) = zy N x.1 x.2.1 := by kernel_rfl

def z1k (N : Nat) : List A -> Res := z1b zoh (fun x => zy N x.1 x.2.1) (zaq (.tup []) [(0, .box TT4)] 1)

theorem z20 (N : Nat) : Contract Tryd.prog glob 46 (z1k N) :=
  Contract.of (E := E_11 N) (H := t_11 N) (L := L_11) (N := N) (body := zv7) (K := (z9l (.tup []) [(0, .box TT4)] 1)) (z1no N) Tryd.func46 (by kernel_rfl) (by decide) (fun _ hb => (TabOk.cons (z1eb hb) TabOk.nil)) (fun x y h => by rw [z181]; exact h) (z6x (s := (.tup [])) (os := [(0, .box TT4)]) (m := 1))

abbrev za : Type := DT5 -> Option (DT1 × (DT5 × Unit))

def zv6 : Code := (Tryd.f39.body).getD .skip

def L_12 : List (List Nat × List Nat) := [([0], [0, 2]), ([0, 0, 1], [8, 0, 2]), ([1, 0, 1], [0, 2]), ([0, 1, 0, 1], [0, 2]), ([0, 1, 1], [0, 2]), ([0, 1, 1, 1], [0, 2]), ([0, 1, 1, 1, 1], [0, 3, 2]), ([0, 1, 1, 1, 1, 1], [0, 3, 2]), (zr7, [3, 2, 0]), (z11y, [2, 0]), (z13l, [2, 0])]

def E_12 (N : Nat) (self : za) : Env := z27 tys glob [(46, z1k N), (19, z1b [(0, .box TT4)] (fun x => self x.1) (zaq (.v TT0) [(0, .box TT4)] 0))] [] [] [0] false [] []

theorem z1nn (N : Nat) (self : za) (hself : Contract Tryd.prog glob 19 (z1b [(0, .box TT4)] (fun x => self x.1) (zaq (.v TT0) [(0, .box TT4)] 0))) : EnvOk Tryd.prog (E_12 N self) := zi mixed z16 (FnsOk.cons (z20 N) (FnsOk.cons (hself) (FnsOk.nil))) (ItsOk.nil)

def z7s (N : Nat) (self : za) (p : DT5) (x2 : DT1) (k0 : Option (DT1 × (DT5 × Unit))) : Option (DT1 × (DT5 × Unit)) :=
 cond (p.2.2.1 == (16 : Int))
 (none)
 (k0)

def z1kx (N : Nat) (self : za) (x : z1a z14s) (K : Ex -> List A -> Option (DT1 × (DT5 × Unit))) : Option (DT1 × (DT5 × Unit)) :=
 z7s N self x.1 x.2.1 (K .normal (mkS z14s 33 (x.1, x.2.1, ())))

def z1hr (N : Nat) (self : za) : Hd (DT1 × (DT5 × Unit)) := fun st K => (unS z14s 33 (restr [0, 2] 0 st)).bind fun x => z1kx N self x K

def t1_12 (N : Nat) (self : za) : Tab (DT1 × (DT5 × Unit)) := []

theorem z1ea {N : Nat} {self : za} {c : Ctx} (hb : Base Tryd.prog (E_12 N self) c) : zk Tryd.prog c (zf zv6 [0, 1]) (z1hr N self) :=
  zj (s := z14s) (m := 33) (g := z1kx N self) [0, 2] (ze hb N (t1_12 N self) L_12 zv6 TabOk.nil [0, 1] _ rfl) (fun x K => by kernel_rfl)

def z44 (N : Nat) (self : za) (p : DT5) : Option (DT1 × (DT5 × Unit)) :=
 z7s N self p ((0 : Int), (([(0 : Int), (0 : Int), (0 : Int), (0 : Int)] : List Int), (([] : List Tree), ((0 : Int), ((0 : Int), ())))))
 ((zy N (p.1, (p.2.1, ((IntKind.wrap IntKind.i64 (p.2.2.1 + (1 : Int))), p.2.2.2))) (40 : Int)).bind fun y =>
 (self y.2.1).bind fun y1 =>
 (zy N y1.2.1 (41 : Int)).bind fun y2 =>
 some (y1.1, ((y2.2.1.1, (y2.2.1.2.1, ((IntKind.wrap IntKind.i64 (y2.2.1.2.2.1 - (1 : Int))), y2.2.1.2.2.2))), ())))

def t_12 (N : Nat) (self : za) : Tab (DT1 × (DT5 × Unit)) := [([0, 1], z1hr N self)]

theorem z180 (N : Nat) (self : za) (x : z1a [(0, .box TT4)]) : zas (E_12 N self) N (t_12 N self) L_12 Tryd.f39 (mkS [(0, .box TT4)] 0 x) (z9l (.v TT0) [(0, .box TT4)] 0) = z44 N self x.1 := by kernel_rfl

def z79 (N : Nat) (self : za) : List A -> Res := z1b [(0, .box TT4)] (fun x => z44 N self x.1) (zaq (.v TT0) [(0, .box TT4)] 0)

theorem zc1 (N : Nat) (self : za) (hself : Contract Tryd.prog glob 19 (z1b [(0, .box TT4)] (fun x => self x.1) (zaq (.v TT0) [(0, .box TT4)] 0))) : Contract Tryd.prog glob 39 (z79 N self) :=
  Contract.of (E := E_12 N self) (H := t_12 N self) (L := L_12) (N := N) (body := zv6) (K := (z9l (.v TT0) [(0, .box TT4)] 0)) (z1nn N self hself) Tryd.func39 (by kernel_rfl) (by decide) (fun _ hb => (TabOk.cons (z1ea hb) TabOk.nil)) (fun x y h => by rw [z180]; exact h) (z6x (s := (.v TT0)) (os := [(0, .box TT4)]) (m := 0))

def z18v : Code := (Tryd.f52.body).getD .skip

def L_13 : List (List Nat × List Nat) := [([0], [1, 2, 4]), ([0, 1], [2, 4]), ([0, 1, 1], [4]), ([1, 1, 1], [4])]

def E_13 (N : Nat) : Env := z27 tys glob [] [] [] [] false [] []

theorem z1nm (N : Nat) : EnvOk Tryd.prog (E_13 N) := zi mixed z16 (FnsOk.nil) (ItsOk.nil)

def zap (N : Nat) (s : (List Int)) (b : Int) : Option (List Int) :=
 cond (inR (IntKind.wrap IntKind.u8 (Int.tdiv b (64 : Int))) 4)
 (cond (decide ((Int.toNat (IntKind.wrap IntKind.u8 (Int.tdiv b (64 : Int)))) < (List.length s)))
 (cond (decide ((0 : Int) <= (Int.tmod b (64 : Int))))
 (cond (inR (IntKind.wrap IntKind.u8 (Int.tdiv b (64 : Int))) 4)
 (cond (decide ((Int.toNat (IntKind.wrap IntKind.u8 (Int.tdiv b (64 : Int)))) < (List.length s)))
 (some (List.set s (Int.toNat (IntKind.wrap IntKind.u8 (Int.tdiv b (64 : Int)))) (bitsOp Go.BinOp.or IntKind.u64 (List.getD s (Int.toNat (IntKind.wrap IntKind.u8 (Int.tdiv b (64 : Int)))) (0 : Int)) (shlI IntKind.u64 (1 : Int) (Int.tmod b (64 : Int))))))
 (none))
 (none))
 (none))
 (none))
 (none)

def t_13 (N : Nat) : Tab (List Int) := []

theorem z17z (N : Nat) (x : z1a SQ98) : zas (E_13 N) N (t_13 N) L_13 Tryd.f52 (mkS SQ98 0 x) (z6d (.v (.arr 4 (.int .u64))) 2) = zap N x.1 x.2.1 := by kernel_rfl

def zcf (N : Nat) : List A -> Res := z1b SQ98 (fun x => zap N x.1 x.2.1) (zb4 (.v (.arr 4 (.int .u64))) 2)

theorem zhf (N : Nat) : Contract Tryd.prog glob 52 (zcf N) :=
  Contract.of (E := E_13 N) (H := t_13 N) (L := L_13) (N := N) (body := z18v) (K := (z6d (.v (.arr 4 (.int .u64))) 2)) (z1nm N) Tryd.func52 (by kernel_rfl) (by decide) (fun _ hb => TabOk.nil) (fun x y h => by rw [z17z]; exact h) (z1p (s := (.v (.arr 4 (.int .u64)))) (m := 2))

def zv5 : Code := (Tryd.f41.body).getD .skip

def L_14 : List (List Nat × List Nat) := [([0], [0, 1, 4]), ([0, 1], [0, 1, 5, 4]), ([0, 0, 1, 1], [6, 1, 5, 4]), ([0, 1, 0, 1, 1], [6, 1, 5, 4]), (z1ad, [12, 5, 6, 1, 4]), (z1ac, [5, 6, 1, 4]), (z1ae, [5, 4]), ([0, 0, 1, 0, 0, 1, 0, 1, 1], [6, 1, 5, 4]), (zx3, [6, 1, 5, 4]), (z1ab, [6, 1, 5, 4]), ([1, 0, 1, 1], [5, 4]), ([0, 1, 1, 1], [4]), ([1, 1, 1, 1], [4])]

def E_14 (N : Nat) : Env := z27 tys glob [(52, zcf N)] [] [] [] false [] []

theorem z1nl (N : Nat) : EnvOk Tryd.prog (E_14 N) := zi mixed z16 (FnsOk.cons (zhf N) (FnsOk.nil)) (ItsOk.nil)

def zcx (N : Nat) (hi : Int) (x4 : (List Int)) (s : (List Int)) (b : Int) (rec : (List Int) -> Int -> Option (List Int)) (k0 : (List Int) -> Option (List Int)) : Option (List Int) :=
 cond (decide (b <= (IntKind.wrap IntKind.i64 hi)))
 ((zap N s (IntKind.wrap IntKind.u8 b)).bind fun y =>
 rec y (IntKind.wrap IntKind.i64 (b + (1 : Int))))
 (k0 s)

def zk8 (N : Nat) (hi : Int) (x4 : (List Int)) (s : (List Int)) (b : Int) (k0 : (List Int) -> Option (List Int)) : Option (List Int) :=
 iter (fun (v : ((List Int) × Int)) r => zcx N hi x4 v.1 v.2 (fun s b => (r (s, b))) k0) N (s, b)

def z1kw (N : Nat) (i : (Int × (List Int))) (v : ((List Int) × Int)) (r : ((List Int) × Int) -> Option (List Int)) (K : Ex -> List A -> Option (List Int)) : Option (List Int) :=
 zcx N i.1 i.2 v.1 v.2 (fun s b => (r (s, b))) (fun a1 => (K (.exit 0) (mkS [(4, .box (.arr 4 (.int .u64))), (0, .box (.arr 4 (.int .u64)))] 14 (i.2, a1, ()))))

def z1hq (N : Nat) : Hd (List Int) := fun st K => (unS SQ75 13 (restr [6, 1, 5, 4] 0 st)).bind fun x => iter (fun v r => z1kw N ((fun x => (x.1, x.2.1)) x) v r K) N ((fun x => (x.2.2.1, x.2.2.2.1)) x)

def t1_14 (N : Nat) : Tab (List Int) := []

theorem z1e9 {N : Nat} {c : Ctx} (hb : Base Tryd.prog (E_14 N) c) : zk Tryd.prog c (zf zv5 [0, 1, 0, 1, 1]) (z1hq N) :=
  z4k (s := SQ75) (m := 13) (z1kw N) [6, 1, 5, 4] N (fun x => (x.1, x.2.1)) (fun x => (x.2.2.1, x.2.2.2.1)) (fun i v => (i.1, i.2, v.1, v.2, ())) (fun _ => rfl) (ze hb N (t1_14 N) L_14 zv5 TabOk.nil [0, 0, 1, 0, 1, 1] _ rfl) (fun i v r K => by kernel_rfl)

def z2h (N : Nat) (lo : Int) (hi : Int) : Option (List Int) :=
 zk8 N hi ([(0 : Int), (0 : Int), (0 : Int), (0 : Int)] : List Int) ([(0 : Int), (0 : Int), (0 : Int), (0 : Int)] : List Int) (IntKind.wrap IntKind.i64 lo)
 (fun s => some s)

def t_14 (N : Nat) : Tab (List Int) := [([0, 1, 0, 1, 1], z1hq N)]

theorem z17y (N : Nat) (x : z1a [(0, .v (.int .u8)), (0, .v (.int .u8))]) : zas (E_14 N) N (t_14 N) L_14 Tryd.f41 (mkS [(0, .v (.int .u8)), (0, .v (.int .u8))] 0 x) (z6d (.v (.arr 4 (.int .u64))) 2) = z2h N x.1 x.2.1 := by kernel_rfl

def z3u (N : Nat) : List A -> Res := z1b [(0, .v (.int .u8)), (0, .v (.int .u8))] (fun x => z2h N x.1 x.2.1) (zb4 (.v (.arr 4 (.int .u64))) 2)

theorem z5g (N : Nat) : Contract Tryd.prog glob 41 (z3u N) :=
  Contract.of (E := E_14 N) (H := t_14 N) (L := L_14) (N := N) (body := zv5) (K := (z6d (.v (.arr 4 (.int .u64))) 2)) (z1nl N) Tryd.func41 (by kernel_rfl) (by decide) (fun _ hb => (TabOk.cons (z1e9 hb) TabOk.nil)) (fun x y h => by rw [z17y]; exact h) (z1p (s := (.v (.arr 4 (.int .u64)))) (m := 2))

def z18u : Code := (Tryd.f40.body).getD .skip

def L_15 : List (List Nat × List Nat) := [([0], [1, 2]), ([0, 1], [2]), ([1, 1], [2])]

def E_15 (N : Nat) : Env := z27 tys glob [] [] [] [] false [] []

theorem z1nk (N : Nat) : EnvOk Tryd.prog (E_15 N) := zi mixed z16 (FnsOk.nil) (ItsOk.nil)

def zro (N : Nat) (s : (List Int)) : Option DT1 :=
 some ((1 : Int), (s, (([] : List Tree), ((0 : Int), ((0 : Int), ())))))

def t_15 (N : Nat) : Tab DT1 := []

theorem z17x (N : Nat) (x : z1a zvd) : zas (E_15 N) N (t_15 N) L_15 Tryd.f40 (mkS zvd 0 x) (z6d (.v TT0) 1) = zro N x.1 := by kernel_rfl

def zfr (N : Nat) : List A -> Res := z1b zvd (fun x => zro N x.1) (zb4 (.v TT0) 1)

theorem zld (N : Nat) : Contract Tryd.prog glob 40 (zfr N) :=
  Contract.of (E := E_15 N) (H := t_15 N) (L := L_15) (N := N) (body := z18u) (K := (z6d (.v TT0) 1)) (z1nk N) Tryd.func40 (by kernel_rfl) (by decide) (fun _ hb => TabOk.nil) (fun x y h => by rw [z17x]; exact h) (z1p (s := (.v TT0)) (m := 1))

def zo0 : Code := (Tryd.f26.body).getD .skip

def L_16 : List (List Nat × List Nat) := [([0], [0, 1]), ([0, 0, 1], [27, 0]), ([1, 0, 1], [0]), ([0, 0, 1, 0, 1], [4, 0]), ([1, 0, 1, 0, 1], [4, 0]), ([0, 1, 1], [0]), ([0, 1, 1, 1], [4, 0]), ([1, 1, 1, 1], [4, 0])]

def z1o2 (N : Nat) : Env := z27 tys glob [] [] [] [0] false [] []

theorem z1nj (N : Nat) : EnvOk Tryd.prog (z1o2 N) := zi mixed z16 (FnsOk.nil) (ItsOk.nil)

def z8o (N : Nat) (p : DT5) (b : Int) (k0 : Bool -> Option (Bool × (DT5 × Unit))) : Option (Bool × (DT5 × Unit)) :=
 cond (p.2.1 == (((List.length p.1) : Nat) : Int))
 (k0 true)
 (cond (inR p.2.1 (List.length p.1))
 (k0 ((((UInt8.toNat (List.getD p.1 (Int.toNat p.2.1) (0 : UInt8))) : Nat) : Int) != b))
 (none))

def z1jg (N : Nat) (x : z1a zoh) (K : Ex -> List A -> Option (Bool × (DT5 × Unit))) : Option (Bool × (DT5 × Unit)) :=
 z8o N x.1 x.2.1 (fun a1 => (K .normal (mkS [(0, .box TT4), (26, .v .bool)] 7 (x.1, a1, ()))))

def z1ga (N : Nat) : Hd (Bool × (DT5 × Unit)) := fun st K => (unS zoh 33 (restr [0, 1] 0 st)).bind fun x => z1jg N x K

def t2_16 (N : Nat) : Tab (Bool × (DT5 × Unit)) := []

theorem z1ct {N : Nat} {c : Ctx} (hb : Base Tryd.prog (z1o2 N) c) : zk Tryd.prog c (zf zo0 [0, 0, 1]) (z1ga N) :=
  zj (s := zoh) (m := 33) (g := z1jg N) [0, 1] (ze hb N (t2_16 N) L_16 zo0 TabOk.nil [0, 0, 1] _ rfl) (fun x K => by kernel_rfl)

def z8p (N : Nat) (p : DT5) (b : Int) (k0 : Bool -> Option (Bool × (DT5 × Unit))) (k1 : Option (Bool × (DT5 × Unit))) : Option (Bool × (DT5 × Unit)) :=
 z8o N p b
 (fun x27 => cond x27
 (k0 false)
 (k1))

def z1kv (N : Nat) (x : z1a zoh) (K : Ex -> List A -> Option (Bool × (DT5 × Unit))) : Option (Bool × (DT5 × Unit)) :=
 z8p N x.1 x.2.1 (fun a1 => (K .ret (mkS [(0, .box TT4), (3, .v .bool)] 30 (x.1, a1, ())))) (K .normal (mkS [(0, .box TT4)] 34 (x.1, ())))

def z1hp (N : Nat) : Hd (Bool × (DT5 × Unit)) := fun st K => (unS zoh 33 (restr [0, 1] 0 st)).bind fun x => z1kv N x K

def t1_16 (N : Nat) : Tab (Bool × (DT5 × Unit)) := [([0, 0, 1], z1ga N)]

theorem z1e8 {N : Nat} {c : Ctx} (hb : Base Tryd.prog (z1o2 N) c) : zk Tryd.prog c (zf zo0 [0, 1]) (z1hp N) :=
  zj (s := zoh) (m := 33) (g := z1kv N) [0, 1] (ze hb N (t1_16 N) L_16 zo0 (TabOk.cons (z1ct hb) TabOk.nil) [0, 1] _ rfl) (fun x K => by kernel_rfl)

def zw (N : Nat) (p : DT5) (b : Int) : Option (Bool × (DT5 × Unit)) :=
 z8p N p b
 (fun x4 => some (x4, (p, ())))
 (some (true, ((p.1, ((IntKind.wrap IntKind.i64 (p.2.1 + (1 : Int))), p.2.2)), ())))

def t_16 (N : Nat) : Tab (Bool × (DT5 × Unit)) := [([0, 1], z1hp N)]

theorem z17w (N : Nat) (x : z1a zoh) : zas (z1o2 N) N (t_16 N) L_16 Tryd.f26 (mkS zoh 0 x) (z9l (.v .bool) [(0, .box TT4)] 1) = zw N x.1 x.2.1 := by kernel_rfl

def z1i (N : Nat) : List A -> Res := z1b zoh (fun x => zw N x.1 x.2.1) (zaq (.v .bool) [(0, .box TT4)] 1)

theorem z1z (N : Nat) : Contract Tryd.prog glob 26 (z1i N) :=
  Contract.of (E := z1o2 N) (H := t_16 N) (L := L_16) (N := N) (body := zo0) (K := (z9l (.v .bool) [(0, .box TT4)] 1)) (z1nj N) Tryd.func26 (by kernel_rfl) (by decide) (fun _ hb => (TabOk.cons (z1e8 hb) TabOk.nil)) (fun x y h => by rw [z17w]; exact h) (z6x (s := (.v .bool)) (os := [(0, .box TT4)]) (m := 1))

def zv4 : Code := (Tryd.f57.body).getD .skip

def L_17 : List (List Nat × List Nat) := [([0], [0, 2]), ([0, 1], [0, 3, 2]), ([0, 0, 1, 1], [7, 6, 3, 0, 2]), ([0, 1, 0, 1, 1], [7, 6, 3, 0, 2]), (z19e, [8, 7, 3, 0, 6, 2]), (zx3, [7, 3, 0, 6, 2]), (PQ93, [3, 2]), (PQ91, [3, 0, 4, 7, 6, 2]), ([1, 0, 0, 1, 1, 0, 0, 1, 0, 1, 1], [7, 6, 3, 0, 2]), (z1lk, [7, 6, 3, 0, 2]), (z1lj, [7, 6, 3, 0, 2]), ([1, 0, 1, 1], [3, 2]), ([0, 1, 1, 1], [2]), ([1, 1, 1, 1], [2])]

def E_17 (N : Nat) : Env := z27 tys glob [(52, zcf N)] [] [] [] false [] []

theorem z1ni (N : Nat) : EnvOk Tryd.prog (E_17 N) := zi mixed z16 (FnsOk.cons (zhf N) (FnsOk.nil)) (ItsOk.nil)

def z9o (N : Nat) (s : (List UInt8)) (x2 : (List Int)) (x6 : Int) (set_ : (List Int)) (x7 : Int) (rec : (List Int) -> Int -> Option (List Int)) (k0 : (List Int) -> Option (List Int)) : Option (List Int) :=
 cond (decide (x7 < x6))
 (cond (inR x7 (List.length s))
 ((zap N set_ (((UInt8.toNat (List.getD s (Int.toNat x7) (0 : UInt8))) : Nat) : Int)).bind fun y =>
 rec y (IntKind.wrap IntKind.i64 (x7 + (1 : Int))))
 (none))
 (k0 set_)

def zgb (N : Nat) (s : (List UInt8)) (x2 : (List Int)) (set_ : (List Int)) (x6 : Int) (x7 : Int) (k0 : (List Int) -> Option (List Int)) : Option (List Int) :=
 iter (fun (v : ((List Int) × Int)) r => z9o N s x2 x6 v.1 v.2 (fun set_ x7 => (r (set_, x7))) k0) N (set_, x7)

def z1ku (N : Nat) (i : ((List UInt8) × (List Int) × Int)) (v : ((List Int) × Int)) (r : ((List Int) × Int) -> Option (List Int)) (K : Ex -> List A -> Option (List Int)) : Option (List Int) :=
 z9o N i.1 i.2.1 i.2.2 v.1 v.2 (fun set_ x7 => (r (set_, x7))) (fun a1 => (K (.exit 0) (mkS [(2, .box (.arr 4 (.int .u64))), (0, .box (.arr 4 (.int .u64)))] 13 (i.2.1, a1, ()))))

def z1ho (N : Nat) : Hd (List Int) := fun st K => (unS SQ61 9 (restr [7, 6, 3, 0, 2] 0 st)).bind fun x => iter (fun v r => z1ku N ((fun x => (x.1, x.2.1, x.2.2.2.1)) x) v r K) N ((fun x => (x.2.2.1, x.2.2.2.2.1)) x)

def t1_17 (N : Nat) : Tab (List Int) := []

theorem z1e7 {N : Nat} {c : Ctx} (hb : Base Tryd.prog (E_17 N) c) : zk Tryd.prog c (zf zv4 [0, 1, 0, 1, 1]) (z1ho N) :=
  z4k (s := SQ61) (m := 9) (z1ku N) [7, 6, 3, 0, 2] N (fun x => (x.1, x.2.1, x.2.2.2.1)) (fun x => (x.2.2.1, x.2.2.2.2.1)) (fun i v => (i.1, i.2.1, v.1, i.2.2, v.2, ())) (fun _ => rfl) (ze hb N (t1_17 N) L_17 zv4 TabOk.nil [0, 0, 1, 0, 1, 1] _ rfl) (fun i v r K => by kernel_rfl)

def z8i (N : Nat) (s : (List UInt8)) : Option (List Int) :=
 zgb N s ([(0 : Int), (0 : Int), (0 : Int), (0 : Int)] : List Int) ([(0 : Int), (0 : Int), (0 : Int), (0 : Int)] : List Int) (((List.length s) : Nat) : Int) (0 : Int)
 (fun set_ => some set_)

def t_17 (N : Nat) : Tab (List Int) := [([0, 1, 0, 1, 1], z1ho N)]

theorem z17v (N : Nat) (x : z1a [(0, .v .str)]) : zas (E_17 N) N (t_17 N) L_17 Tryd.f57 (mkS [(0, .v .str)] 0 x) (z6d (.v (.arr 4 (.int .u64))) 1) = z8i N x.1 := by kernel_rfl

def zbo (N : Nat) : List A -> Res := z1b [(0, .v .str)] (fun x => z8i N x.1) (zb4 (.v (.arr 4 (.int .u64))) 1)

theorem zgc (N : Nat) : Contract Tryd.prog glob 57 (zbo N) :=
  Contract.of (E := E_17 N) (H := t_17 N) (L := L_17) (N := N) (body := zv4) (K := (z6d (.v (.arr 4 (.int .u64))) 1)) (z1ni N) Tryd.func57 (by kernel_rfl) (by decide) (fun _ hb => (TabOk.cons (z1e7 hb) TabOk.nil)) (fun x y h => by rw [z17v]; exact h) (z1p (s := (.v (.arr 4 (.int .u64)))) (m := 1))

def z18t : Code := (Tryd.f60.body).getD .skip

def L_18 : List (List Nat × List Nat) := [([0], [0]), ([0, 1], [2]), ([1, 1], [2])]

def E_18 (N : Nat) : Env := z27 tys glob [] [] [] [] false [] []

theorem z1nh (N : Nat) : EnvOk Tryd.prog (E_18 N) := zi mixed z16 (FnsOk.nil) (ItsOk.nil)

def z5m (N : Nat) (b : Int) : Option Bool :=
 cond (decide ((48 : Int) <= b))
 (some (decide (b <= (57 : Int))))
 (some false)

def t_18 (N : Nat) : Tab Bool := []

theorem z17u (N : Nat) (x : z1a [(0, .v (.int .u8))]) : zas (E_18 N) N (t_18 N) L_18 Tryd.f60 (mkS [(0, .v (.int .u8))] 0 x) (z6d (.v .bool) 1) = z5m N x.1 := by kernel_rfl

def z7w (N : Nat) : List A -> Res := z1b [(0, .v (.int .u8))] (fun x => z5m N x.1) (zb4 (.v .bool) 1)

theorem zbv (N : Nat) : Contract Tryd.prog glob 60 (z7w N) :=
  Contract.of (E := E_18 N) (H := t_18 N) (L := L_18) (N := N) (body := z18t) (K := (z6d (.v .bool) 1)) (z1nh N) Tryd.func60 (by kernel_rfl) (by decide) (fun _ hb => TabOk.nil) (fun x y h => by rw [z17u]; exact h) (z1p (s := (.v .bool)) (m := 1))

def znz : Code := (Tryd.f58.body).getD .skip

def L_19 : List (List Nat × List Nat) := [([0], [0, 1]), ([0, 1], [0, 5, 1]), ([0, 1, 1], [5, 0, 1]), ([0, 0, 1, 1, 1], [16, 5, 0, 1]), ([1, 0, 1, 1, 1], [5, 0, 1]), (z13j, [4, 0]), (z14x, [4, 0]), ([0, 0, 1, 1, 1, 1], [24, 0, 1, 5]), ([1, 0, 1, 1, 1, 1], [5, 0]), ([0, 1, 0, 1, 1, 1, 1], [5, 0]), ([0, 1, 1, 1, 1, 1], [4, 0]), ([1, 1, 1, 1, 1, 1], [4, 0])]

def z1o1 (N : Nat) : Env := z27 tys glob [(60, z7w N), (56, z14 N)] [] [] [0] false [] []

theorem z1ng (N : Nat) : EnvOk Tryd.prog (z1o1 N) := zi mixed z16 (FnsOk.cons (zbv N) (FnsOk.cons (z1f N) (FnsOk.nil))) (ItsOk.nil)

def z9u (N : Nat) (p : DT5) (from_ : Int) (b : Int) (k0 : Bool -> Option (Int × (DT5 × Unit))) : Option (Int × (DT5 × Unit)) :=
 cond (decide (b < (97 : Int)))
 (k0 true)
 (k0 (decide ((102 : Int) < b)))

def z1jf (N : Nat) (x : z1a zyp) (K : Ex -> List A -> Option (Int × (DT5 × Unit))) : Option (Int × (DT5 × Unit)) :=
 z9u N x.1 x.2.1 x.2.2.1 (fun a3 => (K .normal (mkS [(0, .box TT4), (0, .v (.int .i64)), (3, .v (.int .u8)), (18, .v .bool)] 6 (x.1, x.2.1, x.2.2.1, a3, ()))))

def z1g9 (N : Nat) : Hd (Int × (DT5 × Unit)) := fun st K => (unS zyp 25 (restr [5, 0, 1] 0 st)).bind fun x => z1jf N x K

def t2_19 (N : Nat) : Tab (Int × (DT5 × Unit)) := []

theorem z1cs {N : Nat} {c : Ctx} (hb : Base Tryd.prog (z1o1 N) c) : zk Tryd.prog c (zf znz [0, 0, 1, 1, 1, 1]) (z1g9 N) :=
  zj (s := zyp) (m := 25) (g := z1jf N) [5, 0, 1] (ze hb N (t2_19 N) L_19 znz TabOk.nil [0, 0, 1, 1, 1, 1] _ rfl) (fun x K => by kernel_rfl)

def z9v (N : Nat) (p : DT5) (from_ : Int) (b : Int) (k0 : Option (Int × (DT5 × Unit))) : Option (Int × (DT5 × Unit)) :=
 z9u N p from_ b
 (fun x24 => cond x24
 (none)
 (k0))

def z1kt (N : Nat) (x : z1a zyp) (K : Ex -> List A -> Option (Int × (DT5 × Unit))) : Option (Int × (DT5 × Unit)) :=
 z9v N x.1 x.2.1 x.2.2.1 (K .normal (mkS [(0, .box TT4), (4, .v (.int .u8))] 25 (x.1, x.2.2.1, ())))

def z1hn (N : Nat) : Hd (Int × (DT5 × Unit)) := fun st K => (unS zyp 25 (restr [5, 0, 1] 0 st)).bind fun x => z1kt N x K

def t1_19 (N : Nat) : Tab (Int × (DT5 × Unit)) := [([0, 0, 1, 1, 1, 1], z1g9 N)]

theorem z1e6 {N : Nat} {c : Ctx} (hb : Base Tryd.prog (z1o1 N) c) : zk Tryd.prog c (zf znz [0, 1, 1, 1, 1]) (z1hn N) :=
  zj (s := zyp) (m := 25) (g := z1kt N) [5, 0, 1] (ze hb N (t1_19 N) L_19 znz (TabOk.cons (z1cs hb) TabOk.nil) [0, 1, 1, 1, 1] _ rfl) (fun x K => by kernel_rfl)

def z3i (N : Nat) (p : DT5) (from_ : Int) : Option (Int × (DT5 × Unit)) :=
 (z17 N p).bind fun y =>
 (z5m N y.1).bind fun y1 =>
 cond y1
 (some ((IntKind.wrap IntKind.u8 (y.1 - (48 : Int))), ((y.2.1.1, ((IntKind.wrap IntKind.i64 (y.2.1.2.1 + (1 : Int))), y.2.1.2.2)), ())))
 (z9v N (y.2.1.1, ((IntKind.wrap IntKind.i64 (y.2.1.2.1 + (1 : Int))), y.2.1.2.2)) from_ y.1
 (some ((IntKind.wrap IntKind.u8 ((IntKind.wrap IntKind.u8 (y.1 - (97 : Int))) + (10 : Int))), ((y.2.1.1, ((IntKind.wrap IntKind.i64 (y.2.1.2.1 + (1 : Int))), y.2.1.2.2)), ()))))

def t_19 (N : Nat) : Tab (Int × (DT5 × Unit)) := [([0, 1, 1, 1, 1], z1hn N)]

theorem z17t (N : Nat) (x : z1a z19w) : zas (z1o1 N) N (t_19 N) L_19 Tryd.f58 (mkS z19w 0 x) (z9l (.v (.int .u8)) [(0, .box TT4)] 1) = z3i N x.1 x.2.1 := by kernel_rfl

def z8z (N : Nat) : List A -> Res := z1b z19w (fun x => z3i N x.1 x.2.1) (zaq (.v (.int .u8)) [(0, .box TT4)] 1)

theorem zdb (N : Nat) : Contract Tryd.prog glob 58 (z8z N) :=
  Contract.of (E := z1o1 N) (H := t_19 N) (L := L_19) (N := N) (body := znz) (K := (z9l (.v (.int .u8)) [(0, .box TT4)] 1)) (z1ng N) Tryd.func58 (by kernel_rfl) (by decide) (fun _ hb => (TabOk.cons (z1e6 hb) TabOk.nil)) (fun x y h => by rw [z17t]; exact h) (z6x (s := (.v (.int .u8))) (os := [(0, .box TT4)]) (m := 1))

def z18s : Code := (Tryd.f44.body).getD .skip

def L_20 : List (List Nat × List Nat) := [([0], [0, 1]), ([0, 1], [4]), ([1, 1], [4])]

def E_20 (N : Nat) : Env := z27 tys glob [(59, z10k)] [] [] [] false [] []

theorem z1nf (N : Nat) : EnvOk Tryd.prog (E_20 N) := zi mixed z16 (FnsOk.cons (z1el glob) (FnsOk.nil)) (ItsOk.nil)

def zev (N : Nat) (s : (List UInt8)) (c : Int) : Option Int :=
 some (Go.Lib.indexByte s (Nat.toUInt8 (Int.toNat c)))

def t_20 (N : Nat) : Tab Int := []

theorem z17s (N : Nat) (x : z1a [(0, .v .str), (0, .v (.int .u8))]) : zas (E_20 N) N (t_20 N) L_20 Tryd.f44 (mkS [(0, .v .str), (0, .v (.int .u8))] 0 x) (z6d (.v (.int .i64)) 2) = zev N x.1 x.2.1 := by kernel_rfl

def z3v (N : Nat) : List A -> Res := z1b [(0, .v .str), (0, .v (.int .u8))] (fun x => zev N x.1 x.2.1) (zb4 (.v (.int .i64)) 2)

theorem z5q (N : Nat) : Contract Tryd.prog glob 44 (z3v N) :=
  Contract.of (E := E_20 N) (H := t_20 N) (L := L_20) (N := N) (body := z18s) (K := (z6d (.v (.int .i64)) 2)) (z1nf N) Tryd.func44 (by kernel_rfl) (by decide) (fun _ hb => TabOk.nil) (fun x y h => by rw [z17s]; exact h) (z1p (s := (.v (.int .i64))) (m := 2))

def zv3 : Code := (Tryd.f43.body).getD .skip

def L_21 : List (List Nat × List Nat) := [([0], [0, 2]), ([0, 1], [0, 2, 4]), ([0, 1, 1], [0, 2, 4]), ([0, 1, 1, 1], [0, 5, 2, 4]), ([0, 1, 1, 1, 1], [5, 2, 0, 4]), ([0, 0, 0, 1, 1, 1, 1, 1], [22, 2, 0, 5, 4]), ([1, 0, 0, 1, 1, 1, 1, 1], [5, 2, 0]), ([0, 1, 1, 0, 0, 1, 1, 1, 1, 1], [26, 2, 0, 5, 4]), ([1, 1, 1, 0, 0, 1, 1, 1, 1, 1], [5, 2, 0]), ([0, 1, 1, 1, 1, 0, 0, 1, 1, 1, 1, 1], [30, 0, 4, 2, 5]), ([1, 1, 1, 1, 1, 0, 0, 1, 1, 1, 1, 1], [5, 2, 0]), ([0, 1, 1, 1, 1, 1, 1, 0, 0, 1, 1, 1, 1, 1], [42, 0, 4, 5, 2]), ([1, 1, 1, 1, 1, 1, 1, 0, 0, 1, 1, 1, 1, 1], [5, 2, 0]), ([0, 1, 1, 1, 1, 1, 1, 1, 0, 0, 1, 1, 1, 1, 1], [5, 2, 0]), ([0, 0, 1, 1, 1, 1, 1, 0, 0, 1, 1, 1, 1, 1], [6, 0, 4, 2]), ([1, 0, 1, 1, 1, 1, 1, 0, 0, 1, 1, 1, 1, 1], [5, 2, 0]), ([0, 0, 1, 1, 1, 0, 0, 1, 1, 1, 1, 1], [2, 3, 0]), ([1, 0, 1, 1, 1, 0, 0, 1, 1, 1, 1, 1], [2, 3, 0]), ([0, 0, 1, 0, 0, 1, 1, 1, 1, 1], [2, 3, 0]), ([1, 0, 1, 0, 0, 1, 1, 1, 1, 1], [2, 3, 0]), ([0, 1, 1, 1, 1, 1], [5, 2, 0]), (zr7, [2, 3, 0]), (zve, [2, 3, 0])]

def E_21 (N : Nat) : Env := z27 tys glob [(44, z3v N), (58, z8z N), (57, zbo N), (41, z3u N), (46, z1k N), (56, z14 N)] [] [] [0] false [] []

theorem z1ne (N : Nat) : EnvOk Tryd.prog (E_21 N) := zi mixed z16 (FnsOk.cons (z5q N) (FnsOk.cons (zdb N) (FnsOk.cons (zgc N) (FnsOk.cons (z5g N) (FnsOk.cons (z20 N) (FnsOk.cons (z1f N) (FnsOk.nil))))))) (ItsOk.nil)

def z7a (N : Nat) (p : DT5) (set_ : (List Int)) (from_ : Int) (b : Int) (k0 : (List Int) -> Bool -> Option DT8) (k1 : DT5 -> Int -> Option DT8) : Option DT8 :=
 cond (b == (100 : Int))
 ((z2h N (48 : Int) (57 : Int)).bind fun y =>
 k0 y true)
 (cond (b == (119 : Int))
 ((z8i N ((48 : UInt8) :: (49 : UInt8) :: (50 : UInt8) :: (51 : UInt8) :: (52 : UInt8) :: (53 : UInt8) :: (54 : UInt8) :: (55 : UInt8) :: (56 : UInt8) :: (57 : UInt8) :: (65 : UInt8) :: (66 : UInt8) :: (67 : UInt8) :: (68 : UInt8) :: (69 : UInt8) :: (70 : UInt8) :: (71 : UInt8) :: (72 : UInt8) :: (73 : UInt8) :: (74 : UInt8) :: (75 : UInt8) :: (76 : UInt8) :: (77 : UInt8) :: (78 : UInt8) :: (79 : UInt8) :: (80 : UInt8) :: (81 : UInt8) :: (82 : UInt8) :: (83 : UInt8) :: (84 : UInt8) :: (85 : UInt8) :: (86 : UInt8) :: (87 : UInt8) :: (88 : UInt8) :: (89 : UInt8) :: (90 : UInt8) :: (95 : UInt8) :: (97 : UInt8) :: (98 : UInt8) :: (99 : UInt8) :: (100 : UInt8) :: (101 : UInt8) :: (102 : UInt8) :: (103 : UInt8) :: (104 : UInt8) :: (105 : UInt8) :: (106 : UInt8) :: (107 : UInt8) :: (108 : UInt8) :: (109 : UInt8) :: (110 : UInt8) :: (111 : UInt8) :: (112 : UInt8) :: (113 : UInt8) :: (114 : UInt8) :: (115 : UInt8) :: (116 : UInt8) :: (117 : UInt8) :: (118 : UInt8) :: (119 : UInt8) :: (120 : UInt8) :: (121 : UInt8) :: (122 : UInt8) :: ([] : List UInt8))).bind fun y1 =>
 k0 y1 true)
 (cond (b == (120 : Int))
 ((z3i N p from_).bind fun y2 =>
 (z3i N y2.2.1 from_).bind fun y3 =>
 k1 y3.2.1 (bitsOp Go.BinOp.or IntKind.u8 (shlI IntKind.u8 y2.1 (4 : Int)) y3.1))
 (cond (decide ((Go.Lib.indexByte ([(92 : UInt8), (46 : UInt8), (91 : UInt8), (93 : UInt8), (40 : UInt8), (41 : UInt8), (123 : UInt8), (125 : UInt8), (124 : UInt8), (42 : UInt8), (43 : UInt8), (63 : UInt8), (45 : UInt8), (94 : UInt8)] : List UInt8) (Nat.toUInt8 (Int.toNat b))) < (0 : Int)))
 (none)
 (k1 p b))))

def z1ks (N : Nat) (x : z1a z1a5) (K : Ex -> List A -> Option DT8) : Option DT8 :=
 z7a N x.1 x.2.1 x.2.2.1 x.2.2.2.1 (fun a1 a2 => (K .ret (mkS SQ57 48 (x.1, a1, a2, ())))) (fun a0 a2 => (K .normal (mkS [(0, .box TT4), (1, .box (.arr 4 (.int .u64))), (2, .v (.int .u8))] 46 (a0, x.2.1, a2, ()))))

def z1hm (N : Nat) : Hd DT8 := fun st K => (unS z1a5 46 (restr [5, 2, 0, 4] 0 st)).bind fun x => z1ks N x K

def t1_21 (N : Nat) : Tab DT8 := []

theorem z1e5 {N : Nat} {c : Ctx} (hb : Base Tryd.prog (E_21 N) c) : zk Tryd.prog c (zf zv3 [0, 1, 1, 1, 1, 1]) (z1hm N) :=
  zj (s := z1a5) (m := 46) (g := z1ks N) [5, 2, 0, 4] (ze hb N (t1_21 N) L_21 zv3 TabOk.nil [0, 1, 1, 1, 1, 1] _ rfl) (fun x K => by kernel_rfl)

def z24 (N : Nat) (p : DT5) : Option DT8 :=
 (zy N p (92 : Int)).bind fun y =>
 (z17 N y.2.1).bind fun y1 =>
 z7a N (y1.2.1.1, ((IntKind.wrap IntKind.i64 (y1.2.1.2.1 + (1 : Int))), y1.2.1.2.2)) ([(0 : Int), (0 : Int), (0 : Int), (0 : Int)] : List Int) p.2.1 y1.1
 (fun set_ class_ => some ((set_, (class_, ())), ((y1.2.1.1, ((IntKind.wrap IntKind.i64 (y1.2.1.2.1 + (1 : Int))), y1.2.1.2.2)), ())))
 (fun p1 b => (z2h N b b).bind fun y2 =>
 some ((y2, (false, ())), (p1, ())))

def t_21 (N : Nat) : Tab DT8 := [([0, 1, 1, 1, 1, 1], z1hm N)]

theorem z17r (N : Nat) (x : z1a [(0, .box TT4)]) : zas (E_21 N) N (t_21 N) L_21 Tryd.f43 (mkS [(0, .box TT4)] 0 x) (z9l (.tup [(.arr 4 (.int .u64)), .bool]) [(0, .box TT4)] 0) = z24 N x.1 := by kernel_rfl

def z35 (N : Nat) : List A -> Res := z1b [(0, .box TT4)] (fun x => z24 N x.1) (zaq (.tup [(.arr 4 (.int .u64)), .bool]) [(0, .box TT4)] 0)

theorem z4z (N : Nat) : Contract Tryd.prog glob 43 (z35 N) :=
  Contract.of (E := E_21 N) (H := t_21 N) (L := L_21) (N := N) (body := zv3) (K := (z9l (.tup [(.arr 4 (.int .u64)), .bool]) [(0, .box TT4)] 0)) (z1ne N) Tryd.func43 (by kernel_rfl) (by decide) (fun _ hb => (TabOk.cons (z1e5 hb) TabOk.nil)) (fun x y h => by rw [z17r]; exact h) (z6x (s := (.tup [(.arr 4 (.int .u64)), .bool])) (os := [(0, .box TT4)]) (m := 0))

def zny : Code := (Tryd.f68.body).getD .skip

def L_22 : List (List Nat × List Nat) := [([0], [0, 2]), ([0, 1], [4, 0, 2]), ([0, 0, 1, 1], [7, 0, 2, 4]), ([0, 0, 1, 0, 1, 1], [8, 0, 2, 7, 4]), ([1, 0, 1, 0, 1, 1], [0, 4, 2]), (z1aa, [14, 0, 4, 2, 7]), ([1, 0, 1, 1, 0, 1, 0, 1, 1], [14, 0, 4, 2]), ([0, 1, 1, 0, 1, 1, 0, 1, 0, 1, 1], [14, 0, 4, 2, 7]), ([1, 1, 1, 0, 1, 1, 0, 1, 0, 1, 1], [14, 0, 4, 2]), ([0, 1, 1, 1, 1, 0, 1, 1, 0, 1, 0, 1, 1], [14, 0, 4, 2, 7]), ([1, 1, 1, 1, 1, 0, 1, 1, 0, 1, 0, 1, 1], [14, 0, 4, 2]), ([1, 1, 1, 1, 1, 1, 0, 1, 1, 0, 1, 0, 1, 1], [14, 0, 4, 2]), ([1, 1, 1, 0, 1, 0, 1, 1], [0, 4, 2]), ([0, 1, 1, 1, 0, 1, 0, 1, 1], [0, 4, 2]), ([0, 0, 1, 0, 1, 0, 1, 1], [2, 3, 0]), ([1, 0, 1, 0, 1, 0, 1, 1], [2, 3, 0]), ([1, 0, 1, 1], [0, 4, 2]), ([0, 1, 1, 1], [4, 2, 0]), ([0, 1, 1, 1, 1], [2, 3, 0]), ([1, 1, 1, 1, 1], [2, 3, 0])]

def z1o0 (N : Nat) : Env := z27 tys glob [(43, z35 N), (41, z3u N), (56, z14 N)] [] [] [0] false [] []

theorem z1nd (N : Nat) : EnvOk Tryd.prog (z1o0 N) := zi mixed z16 (FnsOk.cons (z4z N) (FnsOk.cons (z5g N) (FnsOk.cons (z1f N) (FnsOk.nil)))) (ItsOk.nil)

def z8q (N : Nat) (p : DT5) (set_ : (List Int)) (b : Int) (x7 : Int) (k0 : Bool -> Option DT8) : Option DT8 :=
 cond (x7 == (91 : Int))
 (k0 (x7 == (91 : Int)))
 (cond (x7 == (93 : Int))
 (k0 (x7 == (93 : Int)))
 (cond (x7 == (45 : Int))
 (k0 (x7 == (45 : Int)))
 (k0 (x7 == (94 : Int)))))

def z1je (N : Nat) (x : z1a z1a4) (K : Ex -> List A -> Option DT8) : Option DT8 :=
 z8q N x.1 x.2.1 x.2.2.1 x.2.2.2.1 (fun a3 => (K .normal (mkS [(0, .box TT4), (1, .box (.arr 4 (.int .u64))), (1, .v (.int .u8)), (9, .v .bool)] 20 (x.1, x.2.1, x.2.2.1, a3, ()))))

def z1g8 (N : Nat) : Hd DT8 := fun st K => (unS z1a4 27 (restr [7, 0, 4, 2] 0 st)).bind fun x => z1je N x K

def t2_22 (N : Nat) : Tab DT8 := []

theorem z1cr {N : Nat} {c : Ctx} (hb : Base Tryd.prog (z1o0 N) c) : zk Tryd.prog c (zf zny z13k) (z1g8 N) :=
  zj (s := z1a4) (m := 27) (g := z1je N) [7, 0, 4, 2] (ze hb N (t2_22 N) L_22 zny TabOk.nil z13k _ rfl) (fun x K => by kernel_rfl)

def z8r (N : Nat) (p : DT5) (set_ : (List Int)) (b : Int) (k0 : DT5 -> (List Int) -> Bool -> Option DT8) (k1 : Option DT8) : Option DT8 :=
 cond (b == (92 : Int))
 ((z24 N p).bind fun y =>
 k0 y.2.1 y.1.1 y.1.2.1)
 (z8q N p set_ b b
 (fun x14 => cond x14
 (none)
 (k1)))

def z1kr (N : Nat) (x : z1a z14v) (K : Ex -> List A -> Option DT8) : Option DT8 :=
 z8r N x.1 x.2.1 x.2.2.1 (fun a0 a1 a2 => (K .ret (mkS SQ57 31 (a0, a1, a2, ())))) (K .normal (mkS z14v 30 (x.1, x.2.1, x.2.2.1, ())))

def z1hl (N : Nat) : Hd DT8 := fun st K => (unS z14v 30 (restr [4, 0, 2] 0 st)).bind fun x => z1kr N x K

def t1_22 (N : Nat) : Tab DT8 := [(z13k, z1g8 N)]

theorem z1e4 {N : Nat} {c : Ctx} (hb : Base Tryd.prog (z1o0 N) c) : zk Tryd.prog c (zf zny [0, 1, 1]) (z1hl N) :=
  zj (s := z14v) (m := 30) (g := z1kr N) [4, 0, 2] (ze hb N (t1_22 N) L_22 zny (TabOk.cons (z1cr hb) TabOk.nil) [0, 1, 1] _ rfl) (fun x K => by kernel_rfl)

def z2u (N : Nat) (p : DT5) : Option DT8 :=
 (z17 N p).bind fun y =>
 z8r N y.2.1 ([(0 : Int), (0 : Int), (0 : Int), (0 : Int)] : List Int) y.1
 (fun p1 set_ class_ => some ((set_, (class_, ())), (p1, ())))
 ((z2h N y.1 y.1).bind fun y1 =>
 some ((y1, (false, ())), ((y.2.1.1, ((IntKind.wrap IntKind.i64 (y.2.1.2.1 + (1 : Int))), y.2.1.2.2)), ())))

def t_22 (N : Nat) : Tab DT8 := [([0, 1, 1], z1hl N)]

theorem z17q (N : Nat) (x : z1a [(0, .box TT4)]) : zas (z1o0 N) N (t_22 N) L_22 Tryd.f68 (mkS [(0, .box TT4)] 0 x) (z9l (.tup [(.arr 4 (.int .u64)), .bool]) [(0, .box TT4)] 0) = z2u N x.1 := by kernel_rfl

def z7p (N : Nat) : List A -> Res := z1b [(0, .box TT4)] (fun x => z2u N x.1) (zaq (.tup [(.arr 4 (.int .u64)), .bool]) [(0, .box TT4)] 0)

theorem zci (N : Nat) : Contract Tryd.prog glob 68 (z7p N) :=
  Contract.of (E := z1o0 N) (H := t_22 N) (L := L_22) (N := N) (body := zny) (K := (z9l (.tup [(.arr 4 (.int .u64)), .bool]) [(0, .box TT4)] 0)) (z1nd N) Tryd.func68 (by kernel_rfl) (by decide) (fun _ hb => (TabOk.cons (z1e4 hb) TabOk.nil)) (fun x y h => by rw [z17q]; exact h) (z6x (s := (.tup [(.arr 4 (.int .u64)), .bool])) (os := [(0, .box TT4)]) (m := 0))

def z18r : Code := (Tryd.f74.body).getD .skip

def L_23 : List (List Nat × List Nat) := [([0], [0]), ([0, 0, 1], [4, 0]), ([1, 0, 1], [0]), ([0, 0, 1, 0, 1], [2]), ([1, 0, 1, 0, 1], [2]), ([0, 1, 1], [2]), ([1, 1, 1], [2])]

def E_23 (N : Nat) : Env := z27 tys glob [] [] [] [] false [] []

theorem z1nc (N : Nat) : EnvOk Tryd.prog (E_23 N) := zi mixed z16 (FnsOk.nil) (ItsOk.nil)

def z1y (N : Nat) (x0 : Int) : Option Int :=
 cond (x0 == (0 : Int))
 (some (64 : Int))
 (cond (inR (z19l IntKind.u64 (IntKind.wrap IntKind.u64 ((285870213051353865 : Int) * (bitsOp Go.BinOp.and IntKind.u64 x0 (IntKind.wrap IntKind.u64 ((0 : Int) - x0))))) (58 : Int)) 64)
 (some (IntKind.wrap IntKind.i64 (List.getD glob1 (Int.toNat (z19l IntKind.u64 (IntKind.wrap IntKind.u64 ((285870213051353865 : Int) * (bitsOp Go.BinOp.and IntKind.u64 x0 (IntKind.wrap IntKind.u64 ((0 : Int) - x0))))) (58 : Int))) (0 : Int))))
 (none))

def t_23 (N : Nat) : Tab Int := []

theorem z17p (N : Nat) (x : z1a [(0, .v (.int .u64))]) : zas (E_23 N) N (t_23 N) L_23 Tryd.f74 (mkS [(0, .v (.int .u64))] 0 x) (z6d (.v (.int .i64)) 1) = z1y N x.1 := by kernel_rfl

def z74 (N : Nat) : List A -> Res := z1b [(0, .v (.int .u64))] (fun x => z1y N x.1) (zb4 (.v (.int .i64)) 1)

theorem zcw (N : Nat) : Contract Tryd.prog glob 74 (z74 N) :=
  Contract.of (E := E_23 N) (H := t_23 N) (L := L_23) (N := N) (body := z18r) (K := (z6d (.v (.int .i64)) 1)) (z1nc N) Tryd.func74 (by kernel_rfl) (by decide) (fun _ hb => TabOk.nil) (fun x y h => by rw [z17p]; exact h) (z1p (s := (.v (.int .i64))) (m := 1))

def zv2 : Code := (Tryd.f69.body).getD .skip

def L_24 : List (List Nat × List Nat) := [([0], [1]), ([0, 0, 1], [6, 1]), ([1, 0, 1], [1]), ([0, 0, 1, 0, 1], [2]), ([1, 0, 1, 0, 1], [2]), ([0, 1, 1], [3, 1]), ([0, 0, 1, 1, 1], [3, 1]), ([0, 0, 0, 0, 0, 1, 1, 1], [10, 3, 1]), ([1, 0, 0, 0, 0, 1, 1, 1], [3, 1]), ([1, 1, 0, 0, 0, 0, 1, 1, 1], [3, 1]), ([0, 1, 0, 0, 0, 1, 1, 1], [3, 1]), ([1, 0, 0, 0, 1, 1, 1], [3, 1]), ([0, 1, 1, 1], [3, 1]), ([0, 1, 1, 1, 1], [2]), ([1, 1, 1, 1, 1], [2])]

def E_24 (N : Nat) : Env := z27 tys glob [(74, z74 N)] [] [] [] false [] []

theorem z1nb (N : Nat) : EnvOk Tryd.prog (E_24 N) := zi mixed z16 (FnsOk.cons (zcw N) (FnsOk.nil)) (ItsOk.nil)

def zgd (N : Nat) (s : (List Int)) (i : Int) (rec : Int -> Option Int) (k0 : Int -> Option Int) : Option Int :=
 cond (inR i 4)
 (cond (decide ((Int.toNat i) < (List.length s)))
 (cond ((List.getD s (Int.toNat i) (0 : Int)) == (0 : Int))
 (rec (IntKind.wrap IntKind.i64 (i + (1 : Int))))
 (k0 i))
 (none))
 (none)

def zge (N : Nat) (s : (List Int)) (i : Int) (k0 : Int -> Option Int) : Option Int :=
 iter (fun (v : Int) r => zgd N s v (fun i => (r i)) k0) N i

def z1kq (N : Nat) (i : (List Int)) (v : Int) (r : Int -> Option Int) (K : Ex -> List A -> Option Int) : Option Int :=
 zgd N i v (fun i => (r i)) (fun a1 => (K (.exit 0) (mkS z1lb 16 (i, a1, ()))))

def z1hk (N : Nat) : Hd Int := fun st K => (unS z1lb 16 (restr [3, 1] 0 st)).bind fun x => iter (fun v r => z1kq N ((fun x => x.1) x) v r K) N ((fun x => x.2.1) x)

def t1_24 (N : Nat) : Tab Int := []

theorem z1e3 {N : Nat} {c : Ctx} (hb : Base Tryd.prog (E_24 N) c) : zk Tryd.prog c (zf zv2 [0, 0, 1, 1, 1]) (z1hk N) :=
  z4k (s := z1lb) (m := 16) (z1kq N) [3, 1] N (fun x => x.1) (fun x => x.2.1) (fun i v => (i, v, ())) (fun _ => rfl) (ze hb N (t1_24 N) L_24 zv2 TabOk.nil [0, 0, 0, 1, 1, 1] _ rfl) (fun i v r K => by kernel_rfl)

def z29 (N : Nat) (s : (List Int)) : Option Int :=
 cond (eqD (T.arr 4 (T.int IntKind.u64)) s ([(0 : Int), (0 : Int), (0 : Int), (0 : Int)] : List Int))
 (some (-(1 : Int)))
 (zge N s (0 : Int)
 (fun i => cond (inR i 4)
 (cond (decide ((Int.toNat i) < (List.length s)))
 ((z1y N (List.getD s (Int.toNat i) (0 : Int))).bind fun y =>
 some (IntKind.wrap IntKind.i64 ((IntKind.wrap IntKind.i64 (i * (64 : Int))) + y)))
 (none))
 (none)))

def t_24 (N : Nat) : Tab Int := [([0, 0, 1, 1, 1], z1hk N)]

theorem z17o (N : Nat) (x : z1a zvd) : zas (E_24 N) N (t_24 N) L_24 Tryd.f69 (mkS zvd 0 x) (z6d (.v (.int .i64)) 1) = z29 N x.1 := by kernel_rfl

def zbq (N : Nat) : List A -> Res := z1b zvd (fun x => z29 N x.1) (zb4 (.v (.int .i64)) 1)

theorem zgf (N : Nat) : Contract Tryd.prog glob 69 (zbq N) :=
  Contract.of (E := E_24 N) (H := t_24 N) (L := L_24) (N := N) (body := zv2) (K := (z6d (.v (.int .i64)) 1)) (z1nb N) Tryd.func69 (by kernel_rfl) (by decide) (fun _ hb => (TabOk.cons (z1e3 hb) TabOk.nil)) (fun x y h => by rw [z17o]; exact h) (z1p (s := (.v (.int .i64))) (m := 1))

def zg7 : Code := (Tryd.f53.body).getD .skip

def z1aj : List (List Nat × List Nat) := [([0], [0, 2]), ([0, 1], [4, 0, 3, 2]), ([0, 0, 1, 1], [17, 3, 2, 0]), ([1, 0, 1, 1], [0, 3, 2]), ([0, 0, 1, 0, 1, 1], [2, 0]), ([1, 0, 1, 0, 1, 1], [2, 0]), ([0, 1, 1, 1], [0, 3, 5, 2]), ([0, 1, 1, 1, 1], [4, 6, 3, 0, 5, 2]), (zkf, [35, 0, 5, 3, 6, 2]), (zyg, [3, 6, 2, 0]), (zyk, [3, 6, 2, 0]), (zr7, [2, 0]), (zve, [2, 0])]

def z19k (N : Nat) : Env := z27 tys glob [(69, zbq N), (68, z7p N), (26, z1i N), (41, z3u N)] [] [] [0] false [] []

theorem z1na (N : Nat) : EnvOk Tryd.prog (z19k N) := zi mixed z16 (FnsOk.cons (zgf N) (FnsOk.cons (zci N) (FnsOk.cons (z1z N) (FnsOk.cons (z5g N) (FnsOk.nil))))) (ItsOk.nil)

def z8x (N : Nat) (p : DT5) (x2 : (List Int)) (first : (List Int)) (class_ : Bool) (k0 : DT5 -> Bool -> Option DT9) : Option DT9 :=
 cond class_
 (k0 p true)
 ((zw N p (45 : Int)).bind fun y =>
 k0 y.2.1 (!y.1))

def z1jd (N : Nat) (x : z1a SQ6) (K : Ex -> List A -> Option DT9) : Option DT9 :=
 z8x N x.1 x.2.1 x.2.2.1 x.2.2.2.1 (fun a0 a3 => (K .normal (mkS SQ79 28 (a0, x.2.1, x.2.2.1, a3, ()))))

def z1g7 (N : Nat) : Hd DT9 := fun st K => (unS SQ6 41 (restr [4, 0, 3, 2] 0 st)).bind fun x => z1jd N x K

def t2_25 (N : Nat) : Tab DT9 := []

theorem z1cq {N : Nat} {c : Ctx} (hb : Base Tryd.prog (z19k N) c) : zk Tryd.prog c (zf zg7 [0, 0, 1, 1]) (z1g7 N) :=
  zj (s := SQ6) (m := 41) (g := z1jd N) [4, 0, 3, 2] (ze hb N (t2_25 N) z1aj zg7 TabOk.nil [0, 0, 1, 1] _ rfl) (fun x K => by kernel_rfl)

def z8y (N : Nat) (p : DT5) (x2 : (List Int)) (first : (List Int)) (class_ : Bool) (k0 : DT5 -> Option DT9) (k1 : DT5 -> Option DT9) : Option DT9 :=
 z8x N p x2 first class_
 (fun p1 x17 => cond x17
 (k0 p1)
 (k1 p1))

def z1kp (N : Nat) (x : z1a SQ6) (K : Ex -> List A -> Option DT9) : Option DT9 :=
 z8y N x.1 x.2.1 x.2.2.1 x.2.2.2.1 (fun a0 => (K .ret (mkS [(0, .box TT4), (1, .box (.arr 4 (.int .u64)))] 43 (a0, x.2.2.1, ())))) (fun a0 => (K .normal (mkS [(0, .box TT4), (1, .box (.arr 4 (.int .u64))), (0, .box (.arr 4 (.int .u64)))] 42 (a0, x.2.1, x.2.2.1, ()))))

def z1hj (N : Nat) : Hd DT9 := fun st K => (unS SQ6 41 (restr [4, 0, 3, 2] 0 st)).bind fun x => z1kp N x K

def t1_25 (N : Nat) : Tab DT9 := [([0, 0, 1, 1], z1g7 N)]

theorem z1e2 {N : Nat} {c : Ctx} (hb : Base Tryd.prog (z19k N) c) : zk Tryd.prog c (zf zg7 [0, 1, 1]) (z1hj N) :=
  zj (s := SQ6) (m := 41) (g := z1kp N) [4, 0, 3, 2] (ze hb N (t1_25 N) z1aj zg7 (TabOk.cons (z1cq hb) TabOk.nil) [0, 1, 1] _ rfl) (fun x K => by kernel_rfl)

def z8v (N : Nat) (p : DT5) (x2 : (List Int)) (first : (List Int)) (class_ : Bool) (from_ : Int) (last : (List Int)) (k0 : Bool -> Option DT9) : Option DT9 :=
 cond class_
 (k0 true)
 ((z29 N last).bind fun y =>
 (z29 N first).bind fun y1 =>
 k0 (decide (y < y1)))

def z1i9 (N : Nat) (x : z1a SQ3) (K : Ex -> List A -> Option DT9) : Option DT9 :=
 z8v N x.1 x.2.1 x.2.2.1 x.2.2.2.1 x.2.2.2.2.1 x.2.2.2.2.2.1 (fun a5 => (K .normal (mkS SQ46 10 (x.1, x.2.1, x.2.2.1, x.2.2.2.2.1, x.2.2.2.2.2.1, a5, ()))))

def z1f3 (N : Nat) : Hd DT9 := fun st K => (unS SQ3 39 (restr [4, 6, 3, 0, 5, 2] 0 st)).bind fun x => z1i9 N x K

def t4_25 (N : Nat) : Tab DT9 := []

theorem z1bm {N : Nat} {c : Ctx} (hb : Base Tryd.prog (z19k N) c) : zk Tryd.prog c (zf zg7 zkf) (z1f3 N) :=
  zj (s := SQ3) (m := 39) (g := z1i9 N) [4, 6, 3, 0, 5, 2] (ze hb N (t4_25 N) z1aj zg7 TabOk.nil zkf _ rfl) (fun x K => by kernel_rfl)

def z8w (N : Nat) (p : DT5) (x2 : (List Int)) (first : (List Int)) (class_ : Bool) (from_ : Int) (last : (List Int)) (k0 : Option DT9) : Option DT9 :=
 z8v N p x2 first class_ from_ last
 (fun x35 => cond x35
 (none)
 (k0))

def z1io (N : Nat) (x : z1a SQ3) (K : Ex -> List A -> Option DT9) : Option DT9 :=
 z8w N x.1 x.2.1 x.2.2.1 x.2.2.2.1 x.2.2.2.2.1 x.2.2.2.2.2.1 (K .normal (mkS SQ71 39 (x.1, x.2.1, x.2.2.1, x.2.2.2.2.2.1, ())))

def z1fi (N : Nat) : Hd DT9 := fun st K => (unS SQ3 39 (restr [4, 6, 3, 0, 5, 2] 0 st)).bind fun x => z1io N x K

def t3_25 (N : Nat) : Tab DT9 := [(zkf, z1f3 N)]

theorem z1c1 {N : Nat} {c : Ctx} (hb : Base Tryd.prog (z19k N) c) : zk Tryd.prog c (zf zg7 [0, 1, 1, 1, 1, 1]) (z1fi N) :=
  zj (s := SQ3) (m := 39) (g := z1io N) [4, 6, 3, 0, 5, 2] (ze hb N (t3_25 N) z1aj zg7 (TabOk.cons (z1bm hb) TabOk.nil) [0, 1, 1, 1, 1, 1] _ rfl) (fun x K => by kernel_rfl)

def z2x (N : Nat) (p : DT5) : Option DT9 :=
 (z2u N p).bind fun y =>
 z8y N y.2.1 ([(0 : Int), (0 : Int), (0 : Int), (0 : Int)] : List Int) y.1.1 y.1.2.1
 (fun p1 => some (y.1.1, (p1, ())))
 (fun p2 => (z2u N p2).bind fun y1 =>
 z8w N y1.2.1 ([(0 : Int), (0 : Int), (0 : Int), (0 : Int)] : List Int) y.1.1 y1.1.2.1 p2.2.1 y1.1.1
 ((z29 N y.1.1).bind fun y2 =>
 (z29 N y1.1.1).bind fun y3 =>
 (z2h N (IntKind.wrap IntKind.u8 y2) (IntKind.wrap IntKind.u8 y3)).bind fun y4 =>
 some (y4, (y1.2.1, ()))))

def t_25 (N : Nat) : Tab DT9 := [([0, 1, 1], z1hj N), ([0, 1, 1, 1, 1, 1], z1fi N)]

theorem z17n (N : Nat) (x : z1a [(0, .box TT4)]) : zas (z19k N) N (t_25 N) z1aj Tryd.f53 (mkS [(0, .box TT4)] 0 x) (z9l (.v (.arr 4 (.int .u64))) [(0, .box TT4)] 0) = z2x N x.1 := by kernel_rfl

def z7r (N : Nat) : List A -> Res := z1b [(0, .box TT4)] (fun x => z2x N x.1) (zaq (.v (.arr 4 (.int .u64))) [(0, .box TT4)] 0)

theorem zcj (N : Nat) : Contract Tryd.prog glob 53 (z7r N) :=
  Contract.of (E := z19k N) (H := t_25 N) (L := z1aj) (N := N) (body := zg7) (K := (z9l (.v (.arr 4 (.int .u64))) [(0, .box TT4)] 0)) (z1na N) Tryd.func53 (by kernel_rfl) (by decide) (fun _ hb => (TabOk.cons (z1e2 hb) (TabOk.cons (z1c1 hb) TabOk.nil))) (fun x y h => by rw [z17n]; exact h) (z6x (s := (.v (.arr 4 (.int .u64)))) (os := [(0, .box TT4)]) (m := 0))

def zv1 : Code := (Tryd.f54.body).getD .skip

def L_26 : List (List Nat × List Nat) := [([0], [2, 3, 4]), ([0, 0, 1], [6, 2, 3, 4]), ([0, 1, 0, 1], [6, 2, 3, 4]), ([0, 0, 0, 1, 0, 1], [7, 6, 2, 3, 4]), (z14w, [6, 2, 3, 4]), ([1, 0, 1, 0, 0, 1, 0, 1], [2, 4]), ([0, 0, 0, 1, 1, 0, 0, 1, 0, 1], [5, 2, 3, 6, 4]), ([1, 0, 0, 1, 1, 0, 0, 1, 0, 1], [6, 2, 3, 4]), ([0, 1, 1, 0, 0, 1, 0, 1], [6, 2, 3, 4]), ([1, 1, 1, 0, 0, 1, 0, 1], [6, 2, 3, 4]), ([1, 0, 1], [2, 4]), ([0, 1, 1], [4]), ([1, 1, 1], [4])]

def E_26 (N : Nat) : Env := z27 tys glob [] [] [] [] false [] []

theorem z1n9 (N : Nat) : EnvOk Tryd.prog (E_26 N) := zi mixed z16 (FnsOk.nil) (ItsOk.nil)

def zk6 (N : Nat) (t : (List Int)) (x4 : (List Int)) (s : (List Int)) (x6 : Int) (rec : (List Int) -> Int -> Option (List Int)) (k0 : (List Int) -> Option (List Int)) : Option (List Int) :=
 cond (decide (x6 < (4 : Int)))
 (cond (inR x6 4)
 (cond (decide ((Int.toNat x6) < (List.length s)))
 (cond (inR x6 4)
 (cond (decide ((Int.toNat x6) < (List.length t)))
 (cond (inR x6 4)
 (cond (decide ((Int.toNat x6) < (List.length s)))
 (rec (List.set s (Int.toNat x6) (bitsOp Go.BinOp.or IntKind.u64 (List.getD s (Int.toNat x6) (0 : Int)) (List.getD t (Int.toNat x6) (0 : Int)))) (IntKind.wrap IntKind.i64 (x6 + (1 : Int))))
 (none))
 (none))
 (none))
 (none))
 (none))
 (none))
 (k0 s)

def zqx (N : Nat) (s : (List Int)) (t : (List Int)) (x4 : (List Int)) (x6 : Int) (k0 : (List Int) -> Option (List Int)) : Option (List Int) :=
 iter (fun (v : ((List Int) × Int)) r => zk6 N t x4 v.1 v.2 (fun s x6 => (r (s, x6))) k0) N (s, x6)

def z1ko (N : Nat) (i : ((List Int) × (List Int))) (v : ((List Int) × Int)) (r : ((List Int) × Int) -> Option (List Int)) (K : Ex -> List A -> Option (List Int)) : Option (List Int) :=
 zk6 N i.1 i.2 v.1 v.2 (fun s x6 => (r (s, x6))) (fun a0 => (K (.exit 0) (mkS [(2, .box (.arr 4 (.int .u64))), (1, .box (.arr 4 (.int .u64)))] 14 (a0, i.2, ()))))

def z1hi (N : Nat) : Hd (List Int) := fun st K => (unS SQ65 12 (restr [6, 2, 3, 4] 0 st)).bind fun x => iter (fun v r => z1ko N ((fun x => (x.2.1, x.2.2.1)) x) v r K) N ((fun x => (x.1, x.2.2.2.1)) x)

def t1_26 (N : Nat) : Tab (List Int) := []

theorem z1e1 {N : Nat} {c : Ctx} (hb : Base Tryd.prog (E_26 N) c) : zk Tryd.prog c (zf zv1 [0, 1, 0, 1]) (z1hi N) :=
  z4k (s := SQ65) (m := 12) (z1ko N) [6, 2, 3, 4] N (fun x => (x.2.1, x.2.2.1)) (fun x => (x.1, x.2.2.2.1)) (fun i v => (v.1, i.1, i.2, v.2, ())) (fun _ => rfl) (ze hb N (t1_26 N) L_26 zv1 TabOk.nil [0, 0, 1, 0, 1] _ rfl) (fun i v r K => by kernel_rfl)

def zbp (N : Nat) (s : (List Int)) (t : (List Int)) : Option (List Int) :=
 zqx N s t ([(0 : Int), (0 : Int), (0 : Int), (0 : Int)] : List Int) (0 : Int)
 (fun s1 => some s1)

def t_26 (N : Nat) : Tab (List Int) := [([0, 1, 0, 1], z1hi N)]

theorem z17m (N : Nat) (x : z1a z1a1) : zas (E_26 N) N (t_26 N) L_26 Tryd.f54 (mkS z1a1 0 x) (z6d (.v (.arr 4 (.int .u64))) 2) = zbp N x.1 x.2.1 := by kernel_rfl

def zer (N : Nat) : List A -> Res := z1b z1a1 (fun x => zbp N x.1 x.2.1) (zb4 (.v (.arr 4 (.int .u64))) 2)

theorem zk7 (N : Nat) : Contract Tryd.prog glob 54 (zer N) :=
  Contract.of (E := E_26 N) (H := t_26 N) (L := L_26) (N := N) (body := zv1) (K := (z6d (.v (.arr 4 (.int .u64))) 2)) (z1n9 N) Tryd.func54 (by kernel_rfl) (by decide) (fun _ hb => (TabOk.cons (z1e1 hb) TabOk.nil)) (fun x y h => by rw [z17m]; exact h) (z1p (s := (.v (.arr 4 (.int .u64)))) (m := 2))

def zv0 : Code := (Tryd.f55.body).getD .skip

def L_27 : List (List Nat × List Nat) := [([0], [1, 2]), ([0, 0, 1], [4, 1, 2]), ([0, 1, 0, 1], [4, 1, 2]), ([0, 0, 0, 1, 0, 1], [5, 4, 1, 2]), (z14w, [4, 1, 2]), ([1, 0, 1, 0, 0, 1, 0, 1], [1, 2]), ([0, 0, 0, 1, 1, 0, 0, 1, 0, 1], [3, 1, 4, 2]), ([1, 0, 0, 1, 1, 0, 0, 1, 0, 1], [4, 1, 2]), ([0, 1, 1, 0, 0, 1, 0, 1], [4, 1, 2]), ([1, 1, 1, 0, 0, 1, 0, 1], [4, 1, 2]), ([1, 0, 1], [1, 2]), ([0, 1, 1], [2]), ([1, 1, 1], [2])]

def E_27 (N : Nat) : Env := z27 tys glob [] [] [] [] false [] []

theorem z1n8 (N : Nat) : EnvOk Tryd.prog (E_27 N) := zi mixed z16 (FnsOk.nil) (ItsOk.nil)

def zid (N : Nat) (x2 : (List Int)) (s : (List Int)) (x4 : Int) (rec : (List Int) -> Int -> Option (List Int)) (k0 : (List Int) -> Option (List Int)) : Option (List Int) :=
 cond (decide (x4 < (4 : Int)))
 (cond (inR x4 4)
 (cond (decide ((Int.toNat x4) < (List.length s)))
 (cond (inR x4 4)
 (cond (decide ((Int.toNat x4) < (List.length s)))
 (rec (List.set s (Int.toNat x4) (bitsOp Go.BinOp.xor IntKind.u64 (if ((IntKind.signed IntKind.u64) = true) then (-(1 : Int)) else (IntKind.max IntKind.u64)) (List.getD s (Int.toNat x4) (0 : Int)))) (IntKind.wrap IntKind.i64 (x4 + (1 : Int))))
 (none))
 (none))
 (none))
 (none))
 (k0 s)

def zog (N : Nat) (s : (List Int)) (x2 : (List Int)) (x4 : Int) (k0 : (List Int) -> Option (List Int)) : Option (List Int) :=
 iter (fun (v : ((List Int) × Int)) r => zid N x2 v.1 v.2 (fun s x4 => (r (s, x4))) k0) N (s, x4)

def z1kn (N : Nat) (i : (List Int)) (v : ((List Int) × Int)) (r : ((List Int) × Int) -> Option (List Int)) (K : Ex -> List A -> Option (List Int)) : Option (List Int) :=
 zid N i v.1 v.2 (fun s x4 => (r (s, x4))) (fun a0 => (K (.exit 0) (mkS [(1, .box (.arr 4 (.int .u64))), (0, .box (.arr 4 (.int .u64)))] 12 (a0, i, ()))))

def z1hh (N : Nat) : Hd (List Int) := fun st K => (unS [(1, .box (.arr 4 (.int .u64))), (0, .box (.arr 4 (.int .u64))), (1, .v (.int .i64))] 10 (restr [4, 1, 2] 0 st)).bind fun x => iter (fun v r => z1kn N ((fun x => x.2.1) x) v r K) N ((fun x => (x.1, x.2.2.1)) x)

def t1_27 (N : Nat) : Tab (List Int) := []

theorem z1e0 {N : Nat} {c : Ctx} (hb : Base Tryd.prog (E_27 N) c) : zk Tryd.prog c (zf zv0 [0, 1, 0, 1]) (z1hh N) :=
  z4k (s := [(1, .box (.arr 4 (.int .u64))), (0, .box (.arr 4 (.int .u64))), (1, .v (.int .i64))]) (m := 10) (z1kn N) [4, 1, 2] N (fun x => x.2.1) (fun x => (x.1, x.2.2.1)) (fun i v => (v.1, i, v.2, ())) (fun _ => rfl) (ze hb N (t1_27 N) L_27 zv0 TabOk.nil [0, 0, 1, 0, 1] _ rfl) (fun i v r K => by kernel_rfl)

def zae (N : Nat) (s : (List Int)) : Option (List Int) :=
 zog N s ([(0 : Int), (0 : Int), (0 : Int), (0 : Int)] : List Int) (0 : Int)
 (fun s1 => some s1)

def t_27 (N : Nat) : Tab (List Int) := [([0, 1, 0, 1], z1hh N)]

theorem z17l (N : Nat) (x : z1a zvd) : zas (E_27 N) N (t_27 N) L_27 Tryd.f55 (mkS zvd 0 x) (z6d (.v (.arr 4 (.int .u64))) 1) = zae N x.1 := by kernel_rfl

def zdz (N : Nat) : List A -> Res := z1b zvd (fun x => zae N x.1) (zb4 (.v (.arr 4 (.int .u64))) 1)

theorem zie (N : Nat) : Contract Tryd.prog glob 55 (zdz N) :=
  Contract.of (E := E_27 N) (H := t_27 N) (L := L_27) (N := N) (body := zv0) (K := (z6d (.v (.arr 4 (.int .u64))) 1)) (z1n8 N) Tryd.func55 (by kernel_rfl) (by decide) (fun _ hb => (TabOk.cons (z1e0 hb) TabOk.nil)) (fun x y h => by rw [z17l]; exact h) (z1p (s := (.v (.arr 4 (.int .u64)))) (m := 1))

def zuz : Code := (Tryd.f42.body).getD .skip

def L_28 : List (List Nat × List Nat) := [([0], [0, 2]), ([0, 1], [0, 2]), ([0, 1, 1], [0, 3, 2]), ([0, 1, 1, 1], [0, 4, 3, 2]), ([0, 0, 1, 1, 1, 1], [0, 4, 3, 2]), (z11u, [13, 4, 0, 3, 2]), (z11t, [4, 0, 3, 2]), (z1le, [3, 4, 2, 0]), ([0, 1, 0, 0, 0, 1, 1, 1, 1], [0, 4, 3, 2]), (z11s, [0, 4, 3, 2]), ([0, 1, 1, 1, 1], [3, 4, 2, 0]), (zkf, [18, 4, 2, 0]), (zyg, [4, 2, 0]), (z19c, [2, 0]), (PQ92, [2, 0]), (zr7, [2, 0]), (zve, [2, 0])]

def E_28 (N : Nat) : Env := z27 tys glob [(55, zdz N), (54, zer N), (53, z7r N), (26, z1i N), (46, z1k N)] [] [] [0] false [] []

theorem z1n7 (N : Nat) : EnvOk Tryd.prog (E_28 N) := zi mixed z16 (FnsOk.cons (zie N) (FnsOk.cons (zk7 N) (FnsOk.cons (zcj N) (FnsOk.cons (z1z N) (FnsOk.cons (z20 N) (FnsOk.nil)))))) (ItsOk.nil)

def z45 (N : Nat) (x2 : (List Int)) (not_ : Bool) (p : DT5) (set_ : (List Int)) (rec : DT5 -> (List Int) -> Option DT9) (k0 : DT5 -> (List Int) -> Option DT9) : Option DT9 :=
 (zw N p (93 : Int)).bind fun y =>
 cond (!y.1)
 ((z2x N y.2.1).bind fun y1 =>
 (zbp N set_ y1.1).bind fun y2 =>
 rec y1.2.1 y2)
 (k0 y.2.1 set_)

def zam (N : Nat) (p : DT5) (x2 : (List Int)) (not_ : Bool) (set_ : (List Int)) (k0 : DT5 -> (List Int) -> Option DT9) : Option DT9 :=
 iter (fun (v : (DT5 × (List Int))) r => z45 N x2 not_ v.1 v.2 (fun p set_ => (r (p, set_))) k0) N (p, set_)

def z1km (N : Nat) (i : ((List Int) × Bool)) (v : (DT5 × (List Int))) (r : (DT5 × (List Int)) -> Option DT9) (K : Ex -> List A -> Option DT9) : Option DT9 :=
 z45 N i.1 i.2 v.1 v.2 (fun p set_ => (r (p, set_))) (fun a0 a3 => (K (.exit 0) (mkS z1a7 17 (a0, i.1, i.2, a3, ()))))

def z1hg (N : Nat) : Hd DT9 := fun st K => (unS z1a7 17 (restr [0, 4, 3, 2] 0 st)).bind fun x => iter (fun v r => z1km N ((fun x => (x.2.1, x.2.2.1)) x) v r K) N ((fun x => (x.1, x.2.2.2.1)) x)

def t1_28 (N : Nat) : Tab DT9 := []

theorem z1dz {N : Nat} {c : Ctx} (hb : Base Tryd.prog (E_28 N) c) : zk Tryd.prog c (zf zuz [0, 0, 1, 1, 1, 1]) (z1hg N) :=
  z4k (s := z1a7) (m := 17) (z1km N) [0, 4, 3, 2] N (fun x => (x.2.1, x.2.2.1)) (fun x => (x.1, x.2.2.2.1)) (fun i v => (v.1, i.1, i.2, v.2, ())) (fun _ => rfl) (ze hb N (t1_28 N) L_28 zuz TabOk.nil [0, 0, 0, 1, 1, 1, 1] _ rfl) (fun i v r K => by kernel_rfl)

def z2y (N : Nat) (p : DT5) : Option DT9 :=
 (zy N p (91 : Int)).bind fun y =>
 (zw N y.2.1 (94 : Int)).bind fun y1 =>
 (z2x N y1.2.1).bind fun y2 =>
 zam N y2.2.1 ([(0 : Int), (0 : Int), (0 : Int), (0 : Int)] : List Int) y1.1 y2.1
 (fun p1 set_ => cond y1.1
 ((zae N set_).bind fun y3 =>
 some (y3, (p1, ())))
 (some (set_, (p1, ()))))

def t_28 (N : Nat) : Tab DT9 := [([0, 0, 1, 1, 1, 1], z1hg N)]

theorem z17k (N : Nat) (x : z1a [(0, .box TT4)]) : zas (E_28 N) N (t_28 N) L_28 Tryd.f42 (mkS [(0, .box TT4)] 0 x) (z9l (.v (.arr 4 (.int .u64))) [(0, .box TT4)] 0) = z2y N x.1 := by kernel_rfl

def z5l (N : Nat) : List A -> Res := z1b [(0, .box TT4)] (fun x => z2y N x.1) (zaq (.v (.arr 4 (.int .u64))) [(0, .box TT4)] 0)

theorem zan (N : Nat) : Contract Tryd.prog glob 42 (z5l N) :=
  Contract.of (E := E_28 N) (H := t_28 N) (L := L_28) (N := N) (body := zuz) (K := (z9l (.v (.arr 4 (.int .u64))) [(0, .box TT4)] 0)) (z1n7 N) Tryd.func42 (by kernel_rfl) (by decide) (fun _ hb => (TabOk.cons (z1dz hb) TabOk.nil)) (fun x y h => by rw [z17k]; exact h) (z6x (s := (.v (.arr 4 (.int .u64)))) (os := [(0, .box TT4)]) (m := 0))

def zuy : Code := (Tryd.f34.body).getD .skip

def L_29 : List (List Nat × List Nat) := [([0], [0, 2]), ([0, 1], [3, 0, 2]), ([0, 1, 1], [15, 0, 2, 3]), ([0, 0, 1, 1, 1], [36, 0, 2, 15, 3]), ([1, 0, 1, 1, 1], [2, 0]), ([0, 1, 1, 0, 1, 1, 1], [40, 0, 2, 15, 3]), ([1, 1, 1, 0, 1, 1, 1], [2, 0]), ([0, 1, 1, 1, 1, 0, 1, 1, 1], [51, 0, 2, 15, 3]), ([1, 1, 1, 1, 1, 0, 1, 1, 1], [2, 0]), ([0, 1, 1, 1, 1, 1, 1, 0, 1, 1, 1], [56, 0, 2, 3]), ([1, 1, 1, 1, 1, 1, 1, 0, 1, 1, 1], [2, 0]), ([0, 0, 1, 1, 1, 1, 1, 1, 1, 1, 0, 1, 1, 1], [18, 0, 3, 2]), ([1, 0, 1, 1, 1, 1, 1, 1, 1, 1, 0, 1, 1, 1], [0, 3, 2]), ([0, 1, 0, 1, 1, 1, 1, 1, 1, 1, 1, 0, 1, 1, 1], [0, 3, 2]), ([0, 1, 1, 1, 1, 1, 1, 1, 1, 1, 0, 1, 1, 1], [3, 2, 0]), ([0, 1, 1, 1, 1, 1, 1, 1, 1, 1, 1, 0, 1, 1, 1], [2, 0]), ([1, 1, 1, 1, 1, 1, 1, 1, 1, 1, 1, 0, 1, 1, 1], [2, 0]), ([0, 0, 1, 1, 1, 1, 1, 1, 1, 0, 1, 1, 1], [4, 2, 0]), ([0, 1, 0, 1, 1, 1, 1, 1, 1, 1, 0, 1, 1, 1], [2, 0]), ([1, 1, 0, 1, 1, 1, 1, 1, 1, 1, 0, 1, 1, 1], [2, 0]), ([0, 0, 1, 1, 1, 1, 1, 0, 1, 1, 1], [2, 0]), ([1, 0, 1, 1, 1, 1, 1, 0, 1, 1, 1], [2, 0]), ([0, 0, 1, 1, 1, 0, 1, 1, 1], [2, 0]), ([0, 1, 0, 1, 1, 1, 0, 1, 1, 1], [2, 0]), ([1, 1, 0, 1, 1, 1, 0, 1, 1, 1], [2, 0]), (z13j, [2, 0]), (z14x, [2, 0]), ([1, 1, 1], [2, 0])]

def E_29 (N : Nat) (self : za) : Env := z27 tys glob [(42, z5l N), (43, z35 N), (44, z3v N), (40, zfr N), (41, z3u N), (39, z79 N self), (19, z1b [(0, .box TT4)] (fun x => self x.1) (zaq (.v TT0) [(0, .box TT4)] 0))] [] [] [0] false [] []

theorem z1n6 (N : Nat) (self : za) (hself : Contract Tryd.prog glob 19 (z1b [(0, .box TT4)] (fun x => self x.1) (zaq (.v TT0) [(0, .box TT4)] 0))) : EnvOk Tryd.prog (E_29 N self) := zi mixed z16 (FnsOk.cons (zan N) (FnsOk.cons (z4z N) (FnsOk.cons (z5q N) (FnsOk.cons (zld N) (FnsOk.cons (z5g N) (FnsOk.cons (zc1 N self hself) (FnsOk.cons (hself) (FnsOk.nil)))))))) (ItsOk.nil)

def z91 (N : Nat) (self : za) (p : DT5) (x2 : DT1) (b : Int) (k0 : Option (DT1 × (DT5 × Unit))) : Option (DT1 × (DT5 × Unit)) :=
 cond (decide ((0 : Int) <= (Go.Lib.indexByte ([(92 : UInt8), (46 : UInt8), (91 : UInt8), (93 : UInt8), (40 : UInt8), (41 : UInt8), (123 : UInt8), (125 : UInt8), (124 : UInt8), (42 : UInt8), (43 : UInt8), (63 : UInt8)] : List UInt8) (Nat.toUInt8 (Int.toNat b)))))
 (none)
 (k0)

def z1kl (N : Nat) (self : za) (x : z1a z14u) (K : Ex -> List A -> Option (DT1 × (DT5 × Unit))) : Option (DT1 × (DT5 × Unit)) :=
 z91 N self x.1 x.2.1 x.2.2.1 (K .normal (mkS z14u 61 (x.1, x.2.1, x.2.2.1, ())))

def z1hf (N : Nat) (self : za) : Hd (DT1 × (DT5 × Unit)) := fun st K => (unS z14u 61 (restr [3, 0, 2] 0 st)).bind fun x => z1kl N self x K

def t1_29 (N : Nat) (self : za) : Tab (DT1 × (DT5 × Unit)) := []

theorem z1dy {N : Nat} {self : za} {c : Ctx} (hb : Base Tryd.prog (E_29 N self) c) : zk Tryd.prog c (zf zuy z1af) (z1hf N self) :=
  zj (s := z14u) (m := 61) (g := z1kl N self) [3, 0, 2] (ze hb N (t1_29 N self) L_29 zuy TabOk.nil z1af _ rfl) (fun x K => by kernel_rfl)

def z4m (N : Nat) (self : za) (p : DT5) : Option (DT1 × (DT5 × Unit)) :=
 cond (inR p.2.1 (List.length p.1))
 (cond ((((UInt8.toNat (List.getD p.1 (Int.toNat p.2.1) (0 : UInt8))) : Nat) : Int) == (40 : Int))
 ((z44 N self p).bind fun y =>
 some (y.1, (y.2.1, ())))
 (cond ((((UInt8.toNat (List.getD p.1 (Int.toNat p.2.1) (0 : UInt8))) : Nat) : Int) == (46 : Int))
 ((z2h N (0 : Int) (255 : Int)).bind fun y1 =>
 some (((1 : Int), (y1, (([] : List Tree), ((0 : Int), ((0 : Int), ()))))), ((p.1, ((IntKind.wrap IntKind.i64 (p.2.1 + (1 : Int))), p.2.2)), ())))
 (cond ((((UInt8.toNat (List.getD p.1 (Int.toNat p.2.1) (0 : UInt8))) : Nat) : Int) == (91 : Int))
 ((z2y N p).bind fun y2 =>
 some (((1 : Int), (y2.1, (([] : List Tree), ((0 : Int), ((0 : Int), ()))))), (y2.2.1, ())))
 (cond ((((UInt8.toNat (List.getD p.1 (Int.toNat p.2.1) (0 : UInt8))) : Nat) : Int) == (92 : Int))
 ((z24 N p).bind fun y3 =>
 some (((1 : Int), (y3.1.1, (([] : List Tree), ((0 : Int), ((0 : Int), ()))))), (y3.2.1, ())))
 (z91 N self p ((0 : Int), (([(0 : Int), (0 : Int), (0 : Int), (0 : Int)] : List Int), (([] : List Tree), ((0 : Int), ((0 : Int), ()))))) (((UInt8.toNat (List.getD p.1 (Int.toNat p.2.1) (0 : UInt8))) : Nat) : Int)
 ((z2h N (((UInt8.toNat (List.getD p.1 (Int.toNat p.2.1) (0 : UInt8))) : Nat) : Int) (((UInt8.toNat (List.getD p.1 (Int.toNat p.2.1) (0 : UInt8))) : Nat) : Int)).bind fun y4 =>
 some (((1 : Int), (y4, (([] : List Tree), ((0 : Int), ((0 : Int), ()))))), ((p.1, ((IntKind.wrap IntKind.i64 (p.2.1 + (1 : Int))), p.2.2)), ()))))))))
 (none)

def t_29 (N : Nat) (self : za) : Tab (DT1 × (DT5 × Unit)) := [(z1af, z1hf N self)]

theorem z17j (N : Nat) (self : za) (x : z1a [(0, .box TT4)]) : zas (E_29 N self) N (t_29 N self) L_29 Tryd.f34 (mkS [(0, .box TT4)] 0 x) (z9l (.v TT0) [(0, .box TT4)] 0) = z4m N self x.1 := by kernel_rfl

def z7v (N : Nat) (self : za) : List A -> Res := z1b [(0, .box TT4)] (fun x => z4m N self x.1) (zaq (.v TT0) [(0, .box TT4)] 0)

theorem zck (N : Nat) (self : za) (hself : Contract Tryd.prog glob 19 (z1b [(0, .box TT4)] (fun x => self x.1) (zaq (.v TT0) [(0, .box TT4)] 0))) : Contract Tryd.prog glob 34 (z7v N self) :=
  Contract.of (E := E_29 N self) (H := t_29 N self) (L := L_29) (N := N) (body := zuy) (K := (z9l (.v TT0) [(0, .box TT4)] 0)) (z1n6 N self hself) Tryd.func34 (by kernel_rfl) (by decide) (fun _ hb => (TabOk.cons (z1dy hb) TabOk.nil)) (fun x y h => by rw [z17j]; exact h) (z6x (s := (.v TT0)) (os := [(0, .box TT4)]) (m := 0))

def zbt : Code := (Tryd.f45.body).getD .skip

def z152 : List (List Nat × List Nat) := [([0], [0]), ([0, 1], [0, 3]), ([0, 0, 1, 1], [12, 0, 3]), ([1, 0, 1, 1], [0, 3]), ([0, 1, 0, 1, 1], [0, 3]), ([0, 1, 1, 1], [0, 4, 3]), ([0, 0, 1, 1, 1, 1], [0, 4, 3]), (z11u, [37, 4, 0, 3]), (z11t, [4, 0, 3]), (z1le, [0, 3, 4]), ([0, 0, 1, 0, 0, 0, 1, 1, 1, 1], [0, 4, 3]), ([1, 0, 1, 0, 0, 0, 1, 1, 1, 1], [0, 4, 3]), (z11s, [0, 4, 3]), ([0, 1, 1, 1, 1], [0, 3, 4]), (zkf, [75, 0, 3, 4]), (zyg, [4, 0, 3]), (zyk, [4, 0, 3]), (zyh, [80, 0, 3, 4]), (z19b, [4, 0]), (z1ll, [4, 0]), (z11y, [2, 0]), (z13l, [2, 0])]

def z13p (N : Nat) : Env := z27 tys glob [(60, z7w N), (56, z14 N)] [] [] [0] false [] []

theorem z1n5 (N : Nat) : EnvOk Tryd.prog (z13p N) := zi mixed z16 (FnsOk.cons (zbv N) (FnsOk.cons (z1f N) (FnsOk.nil))) (ItsOk.nil)

def z9t (N : Nat) (p : DT5) (from_ : Int) (k0 : DT5 -> Option (Int × (DT5 × Unit))) : Option (Int × (DT5 × Unit)) :=
 (z17 N p).bind fun y =>
 (z5m N y.1).bind fun y1 =>
 cond (!y1)
 (none)
 (k0 y.2.1)

def z1kk (N : Nat) (x : z1a z14t) (K : Ex -> List A -> Option (Int × (DT5 × Unit))) : Option (Int × (DT5 × Unit)) :=
 z9t N x.1 x.2.1 (fun a0 => (K .normal (mkS z14t 81 (a0, x.2.1, ()))))

def z1he (N : Nat) : Hd (Int × (DT5 × Unit)) := fun st K => (unS z14t 81 (restr [0, 3] 0 st)).bind fun x => z1kk N x K

def t1_30 (N : Nat) : Tab (Int × (DT5 × Unit)) := []

theorem z1dx {N : Nat} {c : Ctx} (hb : Base Tryd.prog (z13p N) c) : zk Tryd.prog c (zf zbt [0, 1, 1]) (z1he N) :=
  zj (s := z14t) (m := 81) (g := z1kk N) [0, 3] (ze hb N (t1_30 N) z152 zbt TabOk.nil [0, 1, 1] _ rfl) (fun x K => by kernel_rfl)

def z6j (N : Nat) (p : DT5) (from_ : Int) (n : Int) (k0 : Option (Int × (DT5 × Unit))) (k1 : Option (Int × (DT5 × Unit))) : Option (Int × (DT5 × Unit)) :=
 cond (decide (p.2.1 < (((List.length p.1) : Nat) : Int)))
 (cond (inR p.2.1 (List.length p.1))
 ((z5m N (((UInt8.toNat (List.getD p.1 (Int.toNat p.2.1) (0 : UInt8))) : Nat) : Int)).bind fun y =>
 cond y
 (k0)
 (k1))
 (none))
 (k1)

def z1i8 (N : Nat) (x : z1a SQ0) (K : Ex -> List A -> Option (Int × (DT5 × Unit))) : Option (Int × (DT5 × Unit)) :=
 z6j N x.1 x.2.1 x.2.2.1 (K .normal (mkS SQ0 80 (x.1, x.2.1, x.2.2.1, ()))) (K (.exit 0) (mkS SQ0 80 (x.1, x.2.1, x.2.2.1, ())))

def z1f2 (N : Nat) : Hd (Int × (DT5 × Unit)) := fun st K => (unS SQ0 80 (restr [0, 4, 3] 0 st)).bind fun x => z1i8 N x K

def t4_30 (N : Nat) : Tab (Int × (DT5 × Unit)) := []

theorem z1bl {N : Nat} {c : Ctx} (hb : Base Tryd.prog (z13p N) c) : zk Tryd.prog c (zf zbt zyj) (z1f2 N) :=
  zj (s := SQ0) (m := 80) (g := z1i8 N) [0, 4, 3] (ze hb N (t4_30 N) z152 zbt TabOk.nil zyj _ rfl) (fun x K => by kernel_rfl)

def z2q (N : Nat) (from_ : Int) (p : DT5) (n : Int) (rec : DT5 -> Int -> Option (Int × (DT5 × Unit))) (k0 : DT5 -> Int -> Option (Int × (DT5 × Unit))) : Option (Int × (DT5 × Unit)) :=
 z6j N p from_ n
 (cond (inR p.2.1 (List.length p.1))
 (rec (p.1, ((IntKind.wrap IntKind.i64 (p.2.1 + (1 : Int))), p.2.2)) (if ((17 : Int) < (IntKind.wrap IntKind.i64 ((IntKind.wrap IntKind.i64 ((10 : Int) * n)) + (IntKind.wrap IntKind.i64 (IntKind.wrap IntKind.u8 ((((UInt8.toNat (List.getD p.1 (Int.toNat p.2.1) (0 : UInt8))) : Nat) : Int) - (48 : Int))))))) then (17 : Int) else (IntKind.wrap IntKind.i64 ((IntKind.wrap IntKind.i64 ((10 : Int) * n)) + (IntKind.wrap IntKind.i64 (IntKind.wrap IntKind.u8 ((((UInt8.toNat (List.getD p.1 (Int.toNat p.2.1) (0 : UInt8))) : Nat) : Int) - (48 : Int))))))))
 (none))
 (k0 p n)

def zd9 (N : Nat) (p : DT5) (from_ : Int) (n : Int) (k0 : DT5 -> Int -> Option (Int × (DT5 × Unit))) : Option (Int × (DT5 × Unit)) :=
 iter (fun (v : (DT5 × Int)) r => z2q N from_ v.1 v.2 (fun p n => (r (p, n))) k0) N (p, n)

def z1in (N : Nat) (i : Int) (v : (DT5 × Int)) (r : (DT5 × Int) -> Option (Int × (DT5 × Unit))) (K : Ex -> List A -> Option (Int × (DT5 × Unit))) : Option (Int × (DT5 × Unit)) :=
 z2q N i v.1 v.2 (fun p n => (r (p, n))) (fun a0 a2 => (K (.exit 0) (mkS SQ0 80 (a0, i, a2, ()))))

def z1fh (N : Nat) : Hd (Int × (DT5 × Unit)) := fun st K => (unS SQ0 80 (restr [0, 4, 3] 0 st)).bind fun x => iter (fun v r => z1in N ((fun x => x.2.1) x) v r K) N ((fun x => (x.1, x.2.2.1)) x)

def t3_30 (N : Nat) : Tab (Int × (DT5 × Unit)) := [(zyj, z1f2 N)]

theorem z1c0 {N : Nat} {c : Ctx} (hb : Base Tryd.prog (z13p N) c) : zk Tryd.prog c (zf zbt [0, 0, 1, 1, 1, 1]) (z1fh N) :=
  z4k (s := SQ0) (m := 80) (z1in N) [0, 4, 3] N (fun x => x.2.1) (fun x => (x.1, x.2.2.1)) (fun i v => (v.1, i, v.2, ())) (fun _ => rfl) (ze hb N (t3_30 N) z152 zbt (TabOk.cons (z1bl hb) TabOk.nil) [0, 0, 0, 1, 1, 1, 1] _ rfl) (fun i v r K => by kernel_rfl)

def z9s (N : Nat) (p : DT5) (from_ : Int) (n : Int) (k0 : DT5 -> Int -> Option (Int × (DT5 × Unit))) : Option (Int × (DT5 × Unit)) :=
 zd9 N p from_ n
 (fun p1 n1 => k0 p1 n1)

def z1jc (N : Nat) (x : z1a SQ0) (K : Ex -> List A -> Option (Int × (DT5 × Unit))) : Option (Int × (DT5 × Unit)) :=
 z9s N x.1 x.2.1 x.2.2.1 (fun a0 a2 => (K .normal (mkS SQ0 80 (a0, x.2.1, a2, ()))))

def z1g6 (N : Nat) : Hd (Int × (DT5 × Unit)) := fun st K => (unS SQ0 80 (restr [0, 4, 3] 0 st)).bind fun x => z1jc N x K

def t2_30 (N : Nat) : Tab (Int × (DT5 × Unit)) := [([0, 0, 1, 1, 1, 1], z1fh N)]

theorem z1cp {N : Nat} {c : Ctx} (hb : Base Tryd.prog (z13p N) c) : zk Tryd.prog c (zf zbt [0, 1, 1, 1, 1]) (z1g6 N) :=
  zj (s := SQ0) (m := 80) (g := z1jc N) [0, 4, 3] (ze hb N (t2_30 N) z152 zbt (TabOk.cons (z1c0 hb) TabOk.nil) [0, 1, 1, 1, 1] _ rfl) (fun x K => by kernel_rfl)

def z9q (N : Nat) (p : DT5) (from_ : Int) (n : Int) (k0 : Bool -> Option (Int × (DT5 × Unit))) : Option (Int × (DT5 × Unit)) :=
 cond (inR from_ (List.length p.1))
 (cond ((((UInt8.toNat (List.getD p.1 (Int.toNat from_) (0 : UInt8))) : Nat) : Int) == (48 : Int))
 (k0 (decide ((IntKind.wrap IntKind.i64 (from_ + (1 : Int))) < p.2.1)))
 (k0 false))
 (none)

def z1hx (N : Nat) (x : z1a SQ0) (K : Ex -> List A -> Option (Int × (DT5 × Unit))) : Option (Int × (DT5 × Unit)) :=
 z9q N x.1 x.2.1 x.2.2.1 (fun a3 => (K .normal (mkS [(0, .box TT4), (2, .v (.int .i64)), (0, .v (.int .i64)), (70, .v .bool)] 9 (x.1, x.2.1, x.2.2.1, a3, ()))))

def z1er (N : Nat) : Hd (Int × (DT5 × Unit)) := fun st K => (unS SQ0 80 (restr [0, 3, 4] 0 st)).bind fun x => z1hx N x K

def t6_30 (N : Nat) : Tab (Int × (DT5 × Unit)) := []

theorem z1ba {N : Nat} {c : Ctx} (hb : Base Tryd.prog (z13p N) c) : zk Tryd.prog c (zf zbt zkf) (z1er N) :=
  zj (s := SQ0) (m := 80) (g := z1hx N) [0, 3, 4] (ze hb N (t6_30 N) z152 zbt TabOk.nil zkf _ rfl) (fun x K => by kernel_rfl)

def z9r (N : Nat) (p : DT5) (from_ : Int) (n : Int) (k0 : Option (Int × (DT5 × Unit))) : Option (Int × (DT5 × Unit)) :=
 z9q N p from_ n
 (fun x75 => cond x75
 (none)
 (k0))

def z1i1 (N : Nat) (x : z1a SQ0) (K : Ex -> List A -> Option (Int × (DT5 × Unit))) : Option (Int × (DT5 × Unit)) :=
 z9r N x.1 x.2.1 x.2.2.1 (K .normal (mkS SQ0 80 (x.1, x.2.1, x.2.2.1, ())))

def z1ev (N : Nat) : Hd (Int × (DT5 × Unit)) := fun st K => (unS SQ0 80 (restr [0, 3, 4] 0 st)).bind fun x => z1i1 N x K

def t5_30 (N : Nat) : Tab (Int × (DT5 × Unit)) := [(zkf, z1er N)]

theorem z1be {N : Nat} {c : Ctx} (hb : Base Tryd.prog (z13p N) c) : zk Tryd.prog c (zf zbt [0, 1, 1, 1, 1, 1]) (z1ev N) :=
  zj (s := SQ0) (m := 80) (g := z1i1 N) [0, 3, 4] (ze hb N (t5_30 N) z152 zbt (TabOk.cons (z1ba hb) TabOk.nil) [0, 1, 1, 1, 1, 1] _ rfl) (fun x K => by kernel_rfl)

def z3h (N : Nat) (p : DT5) : Option (Int × (DT5 × Unit)) :=
 z9t N p p.2.1
 (fun p1 => z9s N p1 p.2.1 (0 : Int)
 (fun p2 n => z9r N p2 p.2.1 n
 (cond (decide ((16 : Int) < n))
 (none)
 (some (n, (p2, ()))))))

def t_30 (N : Nat) : Tab (Int × (DT5 × Unit)) := [([0, 1, 1], z1he N), ([0, 1, 1, 1, 1], z1g6 N), ([0, 1, 1, 1, 1, 1], z1ev N)]

theorem z17i (N : Nat) (x : z1a [(0, .box TT4)]) : zas (z13p N) N (t_30 N) z152 Tryd.f45 (mkS [(0, .box TT4)] 0 x) (z9l (.v (.int .i64)) [(0, .box TT4)] 0) = z3h N x.1 := by kernel_rfl

def z8s (N : Nat) : List A -> Res := z1b [(0, .box TT4)] (fun x => z3h N x.1) (zaq (.v (.int .i64)) [(0, .box TT4)] 0)

theorem zda (N : Nat) : Contract Tryd.prog glob 45 (z8s N) :=
  Contract.of (E := z13p N) (H := t_30 N) (L := z152) (N := N) (body := zbt) (K := (z9l (.v (.int .i64)) [(0, .box TT4)] 0)) (z1n5 N) Tryd.func45 (by kernel_rfl) (by decide) (fun _ hb => (TabOk.cons (z1dx hb) (TabOk.cons (z1cp hb) (TabOk.cons (z1be hb) TabOk.nil)))) (fun x y h => by rw [z17i]; exact h) (z6x (s := (.v (.int .i64))) (os := [(0, .box TT4)]) (m := 0))

def znx : Code := (Tryd.f35.body).getD .skip

def L_31 : List (List Nat × List Nat) := [([0], [0]), ([0, 1], [0, 4]), ([0, 1, 1], [2, 0, 4]), ([0, 1, 1, 1], [0, 2, 3, 4]), ([0, 0, 1, 1, 1, 1], [13, 0, 2, 3, 4]), ([1, 0, 1, 1, 1, 1], [3, 2, 0, 4]), ([0, 0, 0, 1, 0, 1, 1, 1, 1], [15, 2, 0]), ([1, 0, 0, 1, 0, 1, 1, 1, 1], [0, 2]), ([0, 0, 1, 0, 0, 1, 0, 1, 1, 1, 1], [2, 3, 0]), ([1, 0, 1, 0, 0, 1, 0, 1, 1, 1, 1], [2, 3, 0]), ([0, 1, 0, 1, 0, 1, 1, 1, 1], [0, 2, 4]), ([1, 1, 0, 1, 0, 1, 1, 1, 1], [3, 2, 0, 4]), (zkf, [26, 0, 4, 2, 3]), (zyg, [0, 2, 3]), (zyk, [0, 2, 3]), (zr7, [2, 3, 0]), (z11y, [2, 3, 0]), (z13l, [2, 3, 0])]

def z1nz (N : Nat) : Env := z27 tys glob [(45, z8s N), (26, z1i N), (46, z1k N)] [] [] [0] false [] []

theorem z1n4 (N : Nat) : EnvOk Tryd.prog (z1nz N) := zi mixed z16 (FnsOk.cons (zda N) (FnsOk.cons (z1z N) (FnsOk.cons (z20 N) (FnsOk.nil)))) (ItsOk.nil)

def z7b (N : Nat) (p : DT5) (low : Int) (high : Int) (from_ : Int) (k0 : DT5 -> Int -> Option ((Int × Int × Unit) × (DT5 × Unit))) (k1 : DT5 -> Int -> Int -> Option ((Int × Int × Unit) × (DT5 × Unit))) : Option ((Int × Int × Unit) × (DT5 × Unit)) :=
 (zw N p (44 : Int)).bind fun y =>
 cond y.1
 ((zw N y.2.1 (125 : Int)).bind fun y1 =>
 cond y1.1
 (k0 y1.2.1 (-(1 : Int)))
 ((z3h N y1.2.1).bind fun y2 =>
 k1 y2.2.1 y2.1 y1.2.1.2.1))
 (k1 y.2.1 high from_)

def z1kj (N : Nat) (x : z1a SQ8) (K : Ex -> List A -> Option ((Int × Int × Unit) × (DT5 × Unit))) : Option ((Int × Int × Unit) × (DT5 × Unit)) :=
 z7b N x.1 x.2.1 x.2.2.1 x.2.2.2.1 (fun a0 a2 => (K .ret (mkS SQ67 30 (a0, x.2.1, a2, ())))) (fun a0 a2 a3 => (K .normal (mkS SQ8 29 (a0, x.2.1, a2, a3, ()))))

def z1hd (N : Nat) : Hd ((Int × Int × Unit) × (DT5 × Unit)) := fun st K => (unS SQ8 29 (restr [0, 2, 3, 4] 0 st)).bind fun x => z1kj N x K

def t1_31 (N : Nat) : Tab ((Int × Int × Unit) × (DT5 × Unit)) := []

theorem z1dw {N : Nat} {c : Ctx} (hb : Base Tryd.prog (z1nz N) c) : zk Tryd.prog c (zf znx [0, 1, 1, 1, 1]) (z1hd N) :=
  zj (s := SQ8) (m := 29) (g := z1kj N) [0, 2, 3, 4] (ze hb N (t1_31 N) L_31 znx TabOk.nil [0, 1, 1, 1, 1] _ rfl) (fun x K => by kernel_rfl)

def z50 (N : Nat) (p : DT5) (low : Int) (high : Int) (from_ : Int) (k0 : Option ((Int × Int × Unit) × (DT5 × Unit))) : Option ((Int × Int × Unit) × (DT5 × Unit)) :=
 cond (decide (high < (if ((1 : Int) > low) then (1 : Int) else low)))
 (none)
 (k0)

def z1jb (N : Nat) (x : z1a SQ8) (K : Ex -> List A -> Option ((Int × Int × Unit) × (DT5 × Unit))) : Option ((Int × Int × Unit) × (DT5 × Unit)) :=
 z50 N x.1 x.2.1 x.2.2.1 x.2.2.2.1 (K .normal (mkS SQ67 30 (x.1, x.2.1, x.2.2.1, ())))

def z1g5 (N : Nat) : Hd ((Int × Int × Unit) × (DT5 × Unit)) := fun st K => (unS SQ8 29 (restr [3, 2, 0, 4] 0 st)).bind fun x => z1jb N x K

def t2_31 (N : Nat) : Tab ((Int × Int × Unit) × (DT5 × Unit)) := []

theorem z1co {N : Nat} {c : Ctx} (hb : Base Tryd.prog (z1nz N) c) : zk Tryd.prog c (zf znx [0, 1, 1, 1, 1, 1]) (z1g5 N) :=
  zj (s := SQ8) (m := 29) (g := z1jb N) [3, 2, 0, 4] (ze hb N (t2_31 N) L_31 znx TabOk.nil [0, 1, 1, 1, 1, 1] _ rfl) (fun x K => by kernel_rfl)

def z3o (N : Nat) (p : DT5) : Option ((Int × Int × Unit) × (DT5 × Unit)) :=
 (z3h N p).bind fun y =>
 z7b N y.2.1 y.1 y.1 p.2.1
 (fun p1 high => some ((y.1, (high, ())), (p1, ())))
 (fun p2 high1 from_ => z50 N p2 y.1 high1 from_
 ((zy N p2 (125 : Int)).bind fun y1 =>
 some ((y.1, (high1, ())), (y1.2.1, ()))))

def t_31 (N : Nat) : Tab ((Int × Int × Unit) × (DT5 × Unit)) := [([0, 1, 1, 1, 1], z1hd N), ([0, 1, 1, 1, 1, 1], z1g5 N)]

theorem z17h (N : Nat) (x : z1a [(0, .box TT4)]) : zas (z1nz N) N (t_31 N) L_31 Tryd.f35 (mkS [(0, .box TT4)] 0 x) (z9l (.tup [(.int .i64), (.int .i64)]) [(0, .box TT4)] 0) = z3o N x.1 := by kernel_rfl

def z6s (N : Nat) : List A -> Res := z1b [(0, .box TT4)] (fun x => z3o N x.1) (zaq (.tup [(.int .i64), (.int .i64)]) [(0, .box TT4)] 0)

theorem zb9 (N : Nat) : Contract Tryd.prog glob 35 (z6s N) :=
  Contract.of (E := z1nz N) (H := t_31 N) (L := L_31) (N := N) (body := znx) (K := (z9l (.tup [(.int .i64), (.int .i64)]) [(0, .box TT4)] 0)) (z1n4 N) Tryd.func35 (by kernel_rfl) (by decide) (fun _ hb => (TabOk.cons (z1dw hb) (TabOk.cons (z1co hb) TabOk.nil))) (fun x y h => by rw [z17h]; exact h) (z6x (s := (.tup [(.int .i64), (.int .i64)])) (os := [(0, .box TT4)]) (m := 0))

def zux : Code := (Tryd.f32.body).getD .skip

def L_32 : List (List Nat × List Nat) := [([0], [0, 2]), ([0, 1], [0, 3, 2]), ([0, 0, 1, 1], [16, 3, 2, 0]), ([1, 0, 1, 1], [3, 0, 2]), ([0, 0, 1, 0, 1, 1], [2, 0]), ([1, 0, 1, 0, 1, 1], [2, 0]), ([0, 1, 1, 1], [0, 4, 2, 3]), ([0, 0, 1, 1, 1, 1], [29, 4, 0, 2, 3]), ([0, 0, 0, 0, 0, 0, 0, 0, 0, 0, 0, 0, 0, 0, 1, 0, 1, 1, 1, 1], [30, 4, 0, 2, 29, 3]), ([1, 0, 0, 0, 0, 0, 0, 0, 0, 0, 0, 0, 0, 0, 1, 0, 1, 1, 1, 1], [29, 0, 4, 2, 3]), ([0, 1, 0, 0, 0, 0, 0, 0, 0, 0, 0, 0, 0, 0, 0, 1, 0, 1, 1, 1, 1], [4, 0, 2]), ([0, 0, 1, 0, 0, 0, 0, 0, 0, 0, 0, 0, 0, 0, 0, 1, 0, 1, 1, 1, 1], [32, 0, 4, 2, 29, 3]), ([1, 0, 1, 0, 0, 0, 0, 0, 0, 0, 0, 0, 0, 0, 0, 1, 0, 1, 1, 1, 1], [29, 0, 4, 2, 3]), ([0, 1, 0, 1, 0, 0, 0, 0, 0, 0, 0, 0, 0, 0, 0, 0, 1, 0, 1, 1, 1, 1], [0, 4, 2]), ([0, 0, 1, 1, 0, 0, 0, 0, 0, 0, 0, 0, 0, 0, 0, 0, 1, 0, 1, 1, 1, 1], [34, 0, 4, 2, 29, 3]), ([1, 0, 1, 1, 0, 0, 0, 0, 0, 0, 0, 0, 0, 0, 0, 0, 1, 0, 1, 1, 1, 1], [29, 0, 4, 2, 3]), ([0, 1, 0, 1, 1, 0, 0, 0, 0, 0, 0, 0, 0, 0, 0, 0, 0, 1, 0, 1, 1, 1, 1], [0, 4, 2]), ([0, 1, 1, 1, 0, 0, 0, 0, 0, 0, 0, 0, 0, 0, 0, 0, 1, 0, 1, 1, 1, 1], [36, 0, 4, 2, 3]), ([1, 1, 1, 1, 0, 0, 0, 0, 0, 0, 0, 0, 0, 0, 0, 0, 1, 0, 1, 1, 1, 1], [3, 2, 0]), ([0, 1, 1, 1, 1, 0, 0, 0, 0, 0, 0, 0, 0, 0, 0, 0, 0, 1, 0, 1, 1, 1, 1], [0, 4, 2]), ([1, 0, 0, 0, 0, 0, 0, 0, 0, 0, 0, 0, 1, 0, 1, 1, 1, 1], [3, 2, 0]), ([0, 0, 0, 0, 0, 0, 0, 0, 0, 0, 1, 0, 1, 1, 1, 1], [4, 0, 2]), ([1, 0, 0, 0, 0, 0, 0, 0, 0, 0, 1, 0, 1, 1, 1, 1], [0, 4, 2]), (z14z, [0, 4, 2]), ([0, 1, 0, 0, 0, 0, 0, 0, 0, 1, 0, 1, 1, 1, 1], [4, 2, 0]), ([1, 1, 0, 0, 0, 0, 0, 0, 0, 1, 0, 1, 1, 1, 1], [4, 2, 0]), ([0, 0, 0, 0, 0, 0, 1, 0, 1, 1, 1, 1], [0, 4, 2]), ([0, 0, 1, 0, 0, 0, 0, 0, 1, 0, 1, 1, 1, 1], [4, 2, 0]), ([1, 0, 1, 0, 0, 0, 0, 0, 1, 0, 1, 1, 1, 1], [4, 2, 0]), ([1, 1, 0, 0, 0, 0, 0, 1, 0, 1, 1, 1, 1], [4, 2, 0]), ([0, 0, 0, 0, 1, 0, 1, 1, 1, 1], [0, 4, 2]), ([0, 0, 1, 0, 0, 0, 1, 0, 1, 1, 1, 1], [0, 4, 2]), ([1, 0, 1, 0, 0, 0, 1, 0, 1, 1, 1, 1], [4, 2, 0]), ([1, 1, 0, 0, 0, 1, 0, 1, 1, 1, 1], [4, 2, 0]), (z11x, [3, 2, 0]), ([0, 0, 1, 0, 1, 0, 1, 1, 1, 1], [2, 0]), ([1, 0, 1, 0, 1, 0, 1, 1, 1, 1], [2, 0]), ([1, 1, 0, 1, 0, 1, 1, 1, 1], [4, 2, 0]), ([1, 0, 1, 1, 1, 1], [4, 2, 0]), ([0, 1, 1, 1, 1, 1], [2, 0]), ([1, 1, 1, 1, 1, 1], [2, 0])]

def E_32 (N : Nat) (self : za) : Env := z27 tys glob [(35, z6s N), (34, z7v N self), (19, z1b [(0, .box TT4)] (fun x => self x.1) (zaq (.v TT0) [(0, .box TT4)] 0))] [] [] [0] false [] []

theorem z1n3 (N : Nat) (self : za) (hself : Contract Tryd.prog glob 19 (z1b [(0, .box TT4)] (fun x => self x.1) (zaq (.v TT0) [(0, .box TT4)] 0))) : EnvOk Tryd.prog (E_32 N self) := zi mixed z16 (FnsOk.cons (zb9 N) (FnsOk.cons (zck N self hself) (FnsOk.cons (hself) (FnsOk.nil)))) (ItsOk.nil)

def z7q (N : Nat) (self : za) (p : DT5) (x2 : DT1) (kid : DT1) (rep : DT1) (x29 : Int) (k0 : DT1 -> Option (DT1 × (DT5 × Unit))) (k1 : Option (DT1 × (DT5 × Unit))) (k2 : Option (DT1 × (DT5 × Unit))) (k3 : Option (DT1 × (DT5 × Unit))) : Option (DT1 × (DT5 × Unit)) :=
 cond (x29 == (43 : Int))
 (k0 (rep.1, (rep.2.1, (rep.2.2.1, ((1 : Int), rep.2.2.2.2)))))
 (cond (x29 == (42 : Int))
 (k0 rep)
 (cond (x29 == (63 : Int))
 (k1)
 (cond (x29 == (123 : Int))
 (k2)
 (k3))))

def z1ki (N : Nat) (self : za) (x : z1a z1a2) (K : Ex -> List A -> Option (DT1 × (DT5 × Unit))) : Option (DT1 × (DT5 × Unit)) :=
 z7q N self x.1 x.2.1 x.2.2.1 x.2.2.2.1 x.2.2.2.2.1 (fun a2 => (K .normal (mkS z19y 65 (x.1, x.2.1, a2, ())))) (K (.exit 3) (mkS z19y 65 (x.1, x.2.1, x.2.2.2.1, ()))) (K (.exit 4) (mkS z19y 65 (x.1, x.2.1, x.2.2.2.1, ()))) (K (.exit 5) (mkS [(0, .box TT4), (1, .box TT0), (0, .box TT0)] 66 (x.1, x.2.1, x.2.2.1, ())))

def z1hc (N : Nat) (self : za) : Hd (DT1 × (DT5 × Unit)) := fun st K => (unS z1a2 40 (restr [29, 4, 0, 2, 3] 0 st)).bind fun x => z1ki N self x K

def t1_32 (N : Nat) (self : za) : Tab (DT1 × (DT5 × Unit)) := []

theorem z1dv {N : Nat} {self : za} {c : Ctx} (hb : Base Tryd.prog (E_32 N self) c) : zk Tryd.prog c (zf zux z14z) (z1hc N self) :=
  zj (s := z1a2) (m := 40) (g := z1ki N self) [29, 4, 0, 2, 3] (ze hb N (t1_32 N self) L_32 zux TabOk.nil z14z _ rfl) (fun x K => by kernel_rfl)

def z2b (N : Nat) (self : za) (p : DT5) : Option (DT1 × (DT5 × Unit)) :=
 (z4m N self p).bind fun y =>
 cond (y.2.1.2.1 == (((List.length y.2.1.1) : Nat) : Int))
 (some (y.1, (y.2.1, ())))
 (cond (inR y.2.1.2.1 (List.length y.2.1.1))
 (z7q N self y.2.1 ((0 : Int), (([(0 : Int), (0 : Int), (0 : Int), (0 : Int)] : List Int), (([] : List Tree), ((0 : Int), ((0 : Int), ()))))) y.1 ((4 : Int), (([(0 : Int), (0 : Int), (0 : Int), (0 : Int)] : List Int), ((List.map foN ([y.1] : List DT7)), ((0 : Int), ((-(1 : Int)), ()))))) (((UInt8.toNat (List.getD y.2.1.1 (Int.toNat y.2.1.2.1) (0 : UInt8))) : Nat) : Int)
 (fun rep => some (rep, ((y.2.1.1, ((IntKind.wrap IntKind.i64 (y.2.1.2.1 + (1 : Int))), y.2.1.2.2)), ())))
 (some (((4 : Int), (([(0 : Int), (0 : Int), (0 : Int), (0 : Int)] : List Int), ((List.map foN ([y.1] : List DT7)), ((0 : Int), ((1 : Int), ()))))), ((y.2.1.1, ((IntKind.wrap IntKind.i64 (y.2.1.2.1 + (1 : Int))), y.2.1.2.2)), ())))
 ((z3o N (y.2.1.1, ((IntKind.wrap IntKind.i64 (y.2.1.2.1 + (1 : Int))), y.2.1.2.2))).bind fun y1 =>
 some (((4 : Int), (([(0 : Int), (0 : Int), (0 : Int), (0 : Int)] : List Int), ((List.map foN ([y.1] : List DT7)), (y1.1.1, (y1.1.2.1, ()))))), (y1.2.1, ())))
 (some (y.1, (y.2.1, ()))))
 (none))

def t_32 (N : Nat) (self : za) : Tab (DT1 × (DT5 × Unit)) := [(z14z, z1hc N self)]

theorem z17g (N : Nat) (self : za) (x : z1a [(0, .box TT4)]) : zas (E_32 N self) N (t_32 N self) L_32 Tryd.f32 (mkS [(0, .box TT4)] 0 x) (z9l (.v TT0) [(0, .box TT4)] 0) = z2b N self x.1 := by kernel_rfl

def z78 (N : Nat) (self : za) : List A -> Res := z1b [(0, .box TT4)] (fun x => z2b N self x.1) (zaq (.v TT0) [(0, .box TT4)] 0)

theorem zc0 (N : Nat) (self : za) (hself : Contract Tryd.prog glob 19 (z1b [(0, .box TT4)] (fun x => self x.1) (zaq (.v TT0) [(0, .box TT4)] 0))) : Contract Tryd.prog glob 32 (z78 N self) :=
  Contract.of (E := E_32 N self) (H := t_32 N self) (L := L_32) (N := N) (body := zux) (K := (z9l (.v TT0) [(0, .box TT4)] 0)) (z1n3 N self hself) Tryd.func32 (by kernel_rfl) (by decide) (fun _ hb => (TabOk.cons (z1dv hb) TabOk.nil)) (fun x y h => by rw [z17g]; exact h) (z6x (s := (.v TT0)) (os := [(0, .box TT4)]) (m := 0))

def zuw : Code := (Tryd.f27.body).getD .skip

def L_33 : List (List Nat × List Nat) := [([0], [1, 0, 4]), ([0, 1], [1, 0, 5, 4]), ([0, 0, 1, 1], [10, 9, 8, 0, 5, 4]), ([0, 1, 0, 1, 1], [10, 9, 8, 0, 5, 4]), (z19e, [11, 8, 10, 0, 5, 9, 4]), (zx3, [8, 10, 0, 5, 9, 4]), (PQ93, [5, 4, 0]), (PQ91, [7, 0, 5, 10, 9, 8, 4]), ([0, 1, 0, 0, 1, 1, 0, 0, 1, 0, 1, 1], [17, 5, 7, 10, 9, 8, 0, 4]), ([1, 1, 0, 0, 1, 1, 0, 0, 1, 0, 1, 1], [10, 9, 8, 0, 5, 4]), ([1, 1, 1, 0, 0, 1, 1, 0, 0, 1, 0, 1, 1], [10, 9, 8, 0, 5, 4]), ([0, 1, 1, 0, 0, 1, 1, 0, 0, 1, 0, 1, 1], [10, 9, 8, 0, 5, 4]), (z1lk, [10, 9, 8, 0, 5, 4]), (z1lj, [10, 9, 8, 0, 5, 4]), ([1, 0, 1, 1], [5, 4, 0]), ([0, 0, 1, 1, 1], [29, 5, 4, 0]), ([1, 0, 1, 1, 1], [0, 5, 4]), (z13j, [4]), (z14x, [4]), ([0, 1, 1, 1, 1], [4]), ([1, 1, 1, 1, 1], [4])]

def E_33 (N : Nat) : Env := z27 tys glob [] [(5, TT0)] [] [] false [] []

theorem z1n2 (N : Nat) : EnvOk Tryd.prog (E_33 N) := zi mixed z16 (FnsOk.nil) (ItsOk.nil)

def zaw (N : Nat) (kind : Int) (x4 : DT1) (x8 : (List Tree)) (x9 : Int) (kids : (List DT1)) (x10 : Int) (rec : (List DT1) -> Int -> Option DT1) (k0 : (List DT1) -> Option DT1) : Option DT1 :=
 cond (decide (x10 < x9))
 (cond (inR x10 (List.length x8))
 (cond ((unN (List.getD x8 (Int.toNat x10) (Tree.mk (0 : Int) ([] : List Int) ([] : List Tree) (0 : Int) (0 : Int)))).1 == kind)
 (cond (decide ((((List.length kids) + (List.length (List.map unN (unN (List.getD x8 (Int.toNat x10) (Tree.mk (0 : Int) ([] : List Int) ([] : List Tree) (0 : Int) (0 : Int)))).2.2.1))) * 80) <= 70368744177664))
 (rec (kids ++ (List.map unN (unN (List.getD x8 (Int.toNat x10) (Tree.mk (0 : Int) ([] : List Int) ([] : List Tree) (0 : Int) (0 : Int)))).2.2.1)) (IntKind.wrap IntKind.i64 (x10 + (1 : Int))))
 (none))
 (cond (decide ((((List.length kids) + 1) * 80) <= 70368744177664))
 (rec (kids ++ ([(unN (List.getD x8 (Int.toNat x10) (Tree.mk (0 : Int) ([] : List Int) ([] : List Tree) (0 : Int) (0 : Int))))] : List DT7)) (IntKind.wrap IntKind.i64 (x10 + (1 : Int))))
 (none)))
 (none))
 (k0 kids)

def zjl (N : Nat) (kind : Int) (x4 : DT1) (kids : (List DT1)) (x8 : (List Tree)) (x9 : Int) (x10 : Int) (k0 : (List DT1) -> Option DT1) : Option DT1 :=
 iter (fun (v : ((List DT1) × Int)) r => zaw N kind x4 x8 x9 v.1 v.2 (fun kids x10 => (r (kids, x10))) k0) N (kids, x10)

def z1kh (N : Nat) (i : (Int × DT1 × (List Tree) × Int)) (v : ((List DT1) × Int)) (r : ((List DT1) × Int) -> Option DT1) (K : Ex -> List A -> Option DT1) : Option DT1 :=
 zaw N i.1 i.2.1 i.2.2.1 i.2.2.2 v.1 v.2 (fun kids x10 => (r (kids, x10))) (fun a2 => (K (.exit 0) (mkS [(0, .v (.int .i64)), (3, .box TT0), (0, .row TT0)] 30 (i.1, i.2.1, a2, ()))))

def z1hb (N : Nat) : Hd DT1 := fun st K => (unS SQ69 25 (restr [10, 9, 8, 0, 5, 4] 0 st)).bind fun x => iter (fun v r => z1kh N ((fun x => (x.1, x.2.1, x.2.2.2.1, x.2.2.2.2.1)) x) v r K) N ((fun x => (x.2.2.1, x.2.2.2.2.2.1)) x)

def t1_33 (N : Nat) : Tab DT1 := []

theorem z1du {N : Nat} {c : Ctx} (hb : Base Tryd.prog (E_33 N) c) : zk Tryd.prog c (zf zuw [0, 1, 0, 1, 1]) (z1hb N) :=
  z4k (s := SQ69) (m := 25) (z1kh N) [10, 9, 8, 0, 5, 4] N (fun x => (x.1, x.2.1, x.2.2.2.1, x.2.2.2.2.1)) (fun x => (x.2.2.1, x.2.2.2.2.2.1)) (fun i v => (i.1, i.2.1, v.1, i.2.2.1, i.2.2.2, v.2, ())) (fun _ => rfl) (ze hb N (t1_33 N) L_33 zuw TabOk.nil [0, 0, 1, 0, 1, 1] _ rfl) (fun i v r K => by kernel_rfl)

def z8b (N : Nat) (kind : Int) (parts : (List Tree)) : Option DT1 :=
 zjl N kind ((0 : Int), (([(0 : Int), (0 : Int), (0 : Int), (0 : Int)] : List Int), (([] : List Tree), ((0 : Int), ((0 : Int), ()))))) ([] : List DT7) parts (((List.length parts) : Nat) : Int) (0 : Int)
 (fun kids => cond ((((List.length kids) : Nat) : Int) == (1 : Int))
 (cond (inR (0 : Int) (List.length kids))
 (cond (decide (0 < (List.length kids)))
 (some (List.getD kids 0 ((0 : Int), (([] : List Int), (([] : List Tree), ((0 : Int), ((0 : Int), ())))))))
 (none))
 (none))
 (some (kind, (([(0 : Int), (0 : Int), (0 : Int), (0 : Int)] : List Int), ((List.map foN kids), ((0 : Int), ((0 : Int), ())))))))

def t_33 (N : Nat) : Tab DT1 := [([0, 1, 0, 1, 1], z1hb N)]

theorem z17f (N : Nat) (x : z1a z19x) : zas (E_33 N) N (t_33 N) L_33 Tryd.f27 (mkS z19x 0 x) (z6d (.v TT0) 2) = z8b N x.1 x.2.1 := by kernel_rfl

def z9k (N : Nat) : List A -> Res := z1b z19x (fun x => z8b N x.1 x.2.1) (zb4 (.v TT0) 2)

theorem zct (N : Nat) : Contract Tryd.prog glob 27 (z9k N) :=
  Contract.of (E := E_33 N) (H := t_33 N) (L := L_33) (N := N) (body := zuw) (K := (z6d (.v TT0) 2)) (z1n2 N) Tryd.func27 (by kernel_rfl) (by decide) (fun _ hb => (TabOk.cons (z1du hb) TabOk.nil)) (fun x y h => by rw [z17f]; exact h) (z1p (s := (.v TT0)) (m := 2))

def zj9 : Code := (Tryd.f25.body).getD .skip

def z1ls : List (List Nat × List Nat) := [([0], [0, 2]), ([0, 1], [0, 3, 2]), ([0, 0, 1, 1], [0, 3, 2]), ([0, 0, 0, 0, 0, 1, 1], [37, 3, 0, 2]), ([1, 0, 0, 0, 0, 1, 1], [3, 0, 2]), (z11r, [3, 2, 0]), ([0, 1, 0, 0, 0, 1, 1], [0, 3, 2]), ([1, 0, 0, 0, 1, 1], [0, 3, 2]), ([0, 1, 1], [3, 2, 0]), ([0, 1, 1, 1], [2, 0]), ([1, 1, 1, 1], [2, 0])]

def z1ap (N : Nat) (self : za) : Env := z27 tys glob [(27, z9k N), (32, z78 N self), (19, z1b [(0, .box TT4)] (fun x => self x.1) (zaq (.v TT0) [(0, .box TT4)] 0))] [(3, TT0)] [] [0] false [] []

theorem z1n1 (N : Nat) (self : za) (hself : Contract Tryd.prog glob 19 (z1b [(0, .box TT4)] (fun x => self x.1) (zaq (.v TT0) [(0, .box TT4)] 0))) : EnvOk Tryd.prog (z1ap N self) := zi mixed z16 (FnsOk.cons (zct N) (FnsOk.cons (zc0 N self hself) (FnsOk.cons (hself) (FnsOk.nil)))) (ItsOk.nil)

def z9w (N : Nat) (self : za) (p : DT5) (x2 : DT1) (parts : (List DT1)) (k0 : Option (DT1 × (DT5 × Unit))) (k1 : Option (DT1 × (DT5 × Unit))) : Option (DT1 × (DT5 × Unit)) :=
 cond (decide (p.2.1 < (((List.length p.1) : Nat) : Int)))
 (cond (inR p.2.1 (List.length p.1))
 (cond ((((UInt8.toNat (List.getD p.1 (Int.toNat p.2.1) (0 : UInt8))) : Nat) : Int) != (124 : Int))
 (cond (inR p.2.1 (List.length p.1))
 (cond ((((UInt8.toNat (List.getD p.1 (Int.toNat p.2.1) (0 : UInt8))) : Nat) : Int) != (41 : Int))
 (k0)
 (k1))
 (none))
 (k1))
 (none))
 (k1)

def z1im (N : Nat) (self : za) (x : z1a SQ4) (K : Ex -> List A -> Option (DT1 × (DT5 × Unit))) : Option (DT1 × (DT5 × Unit)) :=
 z9w N self x.1 x.2.1 x.2.2.1 (K .normal (mkS SQ4 41 (x.1, x.2.1, x.2.2.1, ()))) (K (.exit 0) (mkS SQ4 41 (x.1, x.2.1, x.2.2.1, ())))

def z1fg (N : Nat) (self : za) : Hd (DT1 × (DT5 × Unit)) := fun st K => (unS SQ4 41 (restr [0, 3, 2] 0 st)).bind fun x => z1im N self x K

def t3_34 (N : Nat) (self : za) : Tab (DT1 × (DT5 × Unit)) := []

theorem z1bz {N : Nat} {self : za} {c : Ctx} (hb : Base Tryd.prog (z1ap N self) c) : zk Tryd.prog c (zf zj9 [0, 0, 0, 0, 1, 1]) (z1fg N self) :=
  zj (s := SQ4) (m := 41) (g := z1im N self) [0, 3, 2] (ze hb N (t3_34 N self) z1ls zj9 TabOk.nil [0, 0, 0, 0, 1, 1] _ rfl) (fun x K => by kernel_rfl)

def z4u (N : Nat) (self : za) (x2 : DT1) (p : DT5) (parts : (List DT1)) (rec : DT5 -> (List DT1) -> Option (DT1 × (DT5 × Unit))) (k0 : DT5 -> (List DT1) -> Option (DT1 × (DT5 × Unit))) : Option (DT1 × (DT5 × Unit)) :=
 z9w N self p x2 parts
 ((z2b N self p).bind fun y =>
 cond (decide ((((List.length parts) + 1) * 80) <= 70368744177664))
 (rec y.2.1 (parts ++ ([y.1] : List DT7)))
 (none))
 (k0 p parts)

def zdc (N : Nat) (self : za) (p : DT5) (x2 : DT1) (parts : (List DT1)) (k0 : DT5 -> (List DT1) -> Option (DT1 × (DT5 × Unit))) : Option (DT1 × (DT5 × Unit)) :=
 iter (fun (v : (DT5 × (List DT1))) r => z4u N self x2 v.1 v.2 (fun p parts => (r (p, parts))) k0) N (p, parts)

def z1ja (N : Nat) (self : za) (i : DT1) (v : (DT5 × (List DT1))) (r : (DT5 × (List DT1)) -> Option (DT1 × (DT5 × Unit))) (K : Ex -> List A -> Option (DT1 × (DT5 × Unit))) : Option (DT1 × (DT5 × Unit)) :=
 z4u N self i v.1 v.2 (fun p parts => (r (p, parts))) (fun a0 a2 => (K (.exit 0) (mkS SQ4 41 (a0, i, a2, ()))))

def z1g4 (N : Nat) (self : za) : Hd (DT1 × (DT5 × Unit)) := fun st K => (unS SQ4 41 (restr [0, 3, 2] 0 st)).bind fun x => iter (fun v r => z1ja N self ((fun x => x.2.1) x) v r K) N ((fun x => (x.1, x.2.2.1)) x)

def t2_34 (N : Nat) (self : za) : Tab (DT1 × (DT5 × Unit)) := [([0, 0, 0, 0, 1, 1], z1fg N self)]

theorem z1cn {N : Nat} {self : za} {c : Ctx} (hb : Base Tryd.prog (z1ap N self) c) : zk Tryd.prog c (zf zj9 [0, 0, 1, 1]) (z1g4 N self) :=
  z4k (s := SQ4) (m := 41) (z1ja N self) [0, 3, 2] N (fun x => x.2.1) (fun x => (x.1, x.2.2.1)) (fun i v => (v.1, i, v.2, ())) (fun _ => rfl) (ze hb N (t2_34 N self) z1ls zj9 (TabOk.cons (z1bz hb) TabOk.nil) [0, 0, 0, 1, 1] _ rfl) (fun i v r K => by kernel_rfl)

def z9x (N : Nat) (self : za) (p : DT5) (x2 : DT1) (parts : (List DT1)) (k0 : DT5 -> (List DT1) -> Option (DT1 × (DT5 × Unit))) : Option (DT1 × (DT5 × Unit)) :=
 zdc N self p x2 parts
 (fun p1 zh2 => k0 p1 zh2)

def z1kg (N : Nat) (self : za) (x : z1a SQ4) (K : Ex -> List A -> Option (DT1 × (DT5 × Unit))) : Option (DT1 × (DT5 × Unit)) :=
 z9x N self x.1 x.2.1 x.2.2.1 (fun a0 a2 => (K .normal (mkS SQ4 41 (a0, x.2.1, a2, ()))))

def z1ha (N : Nat) (self : za) : Hd (DT1 × (DT5 × Unit)) := fun st K => (unS SQ4 41 (restr [0, 3, 2] 0 st)).bind fun x => z1kg N self x K

def t1_34 (N : Nat) (self : za) : Tab (DT1 × (DT5 × Unit)) := [([0, 0, 1, 1], z1g4 N self)]

theorem z1dt {N : Nat} {self : za} {c : Ctx} (hb : Base Tryd.prog (z1ap N self) c) : zk Tryd.prog c (zf zj9 [0, 1, 1]) (z1ha N self) :=
  zj (s := SQ4) (m := 41) (g := z1kg N self) [0, 3, 2] (ze hb N (t1_34 N self) z1ls zj9 (TabOk.cons (z1cn hb) TabOk.nil) [0, 1, 1] _ rfl) (fun x K => by kernel_rfl)

def z3j (N : Nat) (self : za) (p : DT5) : Option (DT1 × (DT5 × Unit)) :=
 z9x N self p ((0 : Int), (([(0 : Int), (0 : Int), (0 : Int), (0 : Int)] : List Int), (([] : List Tree), ((0 : Int), ((0 : Int), ()))))) ([] : List DT7)
 (fun p1 parts => (z8b N (2 : Int) (List.map foN parts)).bind fun y =>
 some (y, (p1, ())))

def t_34 (N : Nat) (self : za) : Tab (DT1 × (DT5 × Unit)) := [([0, 1, 1], z1ha N self)]

theorem z17e (N : Nat) (self : za) (x : z1a [(0, .box TT4)]) : zas (z1ap N self) N (t_34 N self) z1ls Tryd.f25 (mkS [(0, .box TT4)] 0 x) (z9l (.v TT0) [(0, .box TT4)] 0) = z3j N self x.1 := by kernel_rfl

def z90 (N : Nat) (self : za) : List A -> Res := z1b [(0, .box TT4)] (fun x => z3j N self x.1) (zaq (.v TT0) [(0, .box TT4)] 0)

theorem zdd (N : Nat) (self : za) (hself : Contract Tryd.prog glob 19 (z1b [(0, .box TT4)] (fun x => self x.1) (zaq (.v TT0) [(0, .box TT4)] 0))) : Contract Tryd.prog glob 25 (z90 N self) :=
  Contract.of (E := z1ap N self) (H := t_34 N self) (L := z1ls) (N := N) (body := zj9) (K := (z9l (.v TT0) [(0, .box TT4)] 0)) (z1n1 N self hself) Tryd.func25 (by kernel_rfl) (by decide) (fun _ hb => (TabOk.cons (z1dt hb) TabOk.nil)) (fun x y h => by rw [z17e]; exact h) (z6x (s := (.v TT0)) (os := [(0, .box TT4)]) (m := 0))

def zr1 : Code := (Tryd.f19.body).getD .skip

def L_35 : List (List Nat × List Nat) := [([0], [0, 2]), ([0, 1], [0, 3, 2]), ([0, 0, 1, 1], [0, 3, 2]), ([0, 0, 0, 0, 0, 1, 1], [8, 3, 0, 2]), ([1, 0, 0, 0, 0, 1, 1], [3, 0, 2]), (z11r, [3, 2, 0]), ([0, 1, 0, 0, 0, 1, 1], [0, 3, 2]), ([1, 0, 0, 0, 1, 1], [0, 3, 2]), ([0, 1, 1], [3, 2, 0]), ([0, 1, 1, 1], [2, 0]), ([1, 1, 1, 1], [2, 0])]

def E_35 (N : Nat) (self : DT5 -> Option (DT1 × (DT5 × Unit))) : Env := z27 tys glob [(25, z90 N self), (27, z9k N), (26, z1i N), (19, z1b [(0, .box TT4)] (fun x => self x.1) (zaq (.v TT0) [(0, .box TT4)] 0))] [(3, TT0)] [] [0] false [] []

theorem z1n0 (N : Nat) (self : DT5 -> Option (DT1 × (DT5 × Unit))) (hself : Contract Tryd.prog glob 19 (z1b [(0, .box TT4)] (fun x => self x.1) (zaq (.v TT0) [(0, .box TT4)] 0))) : EnvOk Tryd.prog (E_35 N self) := zi mixed z16 (FnsOk.cons (zdd N self hself) (FnsOk.cons (zct N) (FnsOk.cons (z1z N) (FnsOk.cons (hself) (FnsOk.nil))))) (ItsOk.nil)

def z6t (N : Nat) (self : DT5 -> Option (DT1 × (DT5 × Unit))) (x2 : DT1) (p : DT5) (parts : (List DT1)) (rec : DT5 -> (List DT1) -> Option (DT1 × (DT5 × Unit))) (k0 : DT5 -> (List DT1) -> Option (DT1 × (DT5 × Unit))) : Option (DT1 × (DT5 × Unit)) :=
 (zw N p (124 : Int)).bind fun y =>
 cond y.1
 ((z3j N self y.2.1).bind fun y1 =>
 cond (decide ((((List.length parts) + 1) * 80) <= 70368744177664))
 (rec y1.2.1 (parts ++ ([y1.1] : List DT7)))
 (none))
 (k0 y.2.1 parts)

def zde (N : Nat) (self : DT5 -> Option (DT1 × (DT5 × Unit))) (p : DT5) (x2 : DT1) (parts : (List DT1)) (k0 : DT5 -> (List DT1) -> Option (DT1 × (DT5 × Unit))) : Option (DT1 × (DT5 × Unit)) :=
 iter (fun (v : (DT5 × (List DT1))) r => z6t N self x2 v.1 v.2 (fun p parts => (r (p, parts))) k0) N (p, parts)

def z1kf (N : Nat) (self : DT5 -> Option (DT1 × (DT5 × Unit))) (i : DT1) (v : (DT5 × (List DT1))) (r : (DT5 × (List DT1)) -> Option (DT1 × (DT5 × Unit))) (K : Ex -> List A -> Option (DT1 × (DT5 × Unit))) : Option (DT1 × (DT5 × Unit)) :=
 z6t N self i v.1 v.2 (fun p parts => (r (p, parts))) (fun a0 a2 => (K (.exit 0) (mkS SQ4 12 (a0, i, a2, ()))))

def z1h9 (N : Nat) (self : DT5 -> Option (DT1 × (DT5 × Unit))) : Hd (DT1 × (DT5 × Unit)) := fun st K => (unS SQ4 12 (restr [0, 3, 2] 0 st)).bind fun x => iter (fun v r => z1kf N self ((fun x => x.2.1) x) v r K) N ((fun x => (x.1, x.2.2.1)) x)

def t1_35 (N : Nat) (self : DT5 -> Option (DT1 × (DT5 × Unit))) : Tab (DT1 × (DT5 × Unit)) := []

theorem z1ds {N : Nat} {self : DT5 -> Option (DT1 × (DT5 × Unit))} {c : Ctx} (hb : Base Tryd.prog (E_35 N self) c) : zk Tryd.prog c (zf zr1 [0, 0, 1, 1]) (z1h9 N self) :=
  z4k (s := SQ4) (m := 12) (z1kf N self) [0, 3, 2] N (fun x => x.2.1) (fun x => (x.1, x.2.2.1)) (fun i v => (v.1, i, v.2, ())) (fun _ => rfl) (ze hb N (t1_35 N self) L_35 zr1 TabOk.nil [0, 0, 0, 1, 1] _ rfl) (fun i v r K => by kernel_rfl)

def z7h (N : Nat) (self : DT5 -> Option (DT1 × (DT5 × Unit))) (p : DT5) : Option (DT1 × (DT5 × Unit)) :=
 (z3j N self p).bind fun y =>
 zde N self y.2.1 ((0 : Int), (([(0 : Int), (0 : Int), (0 : Int), (0 : Int)] : List Int), (([] : List Tree), ((0 : Int), ((0 : Int), ()))))) ([y.1] : List DT7)
 (fun p1 parts => (z8b N (3 : Int) (List.map foN parts)).bind fun y1 =>
 some (y1, (p1, ())))

def t_35 (N : Nat) (self : DT5 -> Option (DT1 × (DT5 × Unit))) : Tab (DT1 × (DT5 × Unit)) := [([0, 0, 1, 1], z1h9 N self)]

theorem z17d (N : Nat) (self : DT5 -> Option (DT1 × (DT5 × Unit))) (x : z1a [(0, .box TT4)]) : zas (E_35 N self) N (t_35 N self) L_35 Tryd.f19 (mkS [(0, .box TT4)] 0 x) (z9l (.v TT0) [(0, .box TT4)] 0) = z7h N self x.1 := by kernel_rfl

def zg : Nat -> DT5 -> Option (DT1 × (DT5 × Unit))
  | 0 => fun _ => none
  | N + 1 => z7h (N + 1) (zg N)

def zcl (N : Nat) : List A -> Res := z1b [(0, .box TT4)] (fun x => zg N x.1) (zaq (.v TT0) [(0, .box TT4)] 0)

theorem z2r : ∀ N : Nat, Contract Tryd.prog glob 19 (zcl N)
  | 0 => Contract.zero Tryd.func19 (body := zr1) (by kernel_rfl) (by decide) (fun _ => rfl)
  | N + 1 => Contract.of (E := E_35 (N + 1) (zg N)) (H := t_35 (N + 1) (zg N)) (L := L_35) (N := (N + 1)) (body := zr1) (K := (z9l (.v TT0) [(0, .box TT4)] 0)) (z1n0 (N + 1) (zg N) (z2r N)) Tryd.func19 (by kernel_rfl) (by decide) (fun _ hb => (TabOk.cons (z1ds hb) TabOk.nil)) (fun x y h => by rw [z17d]; exact h) (z6x (s := (.v TT0)) (os := [(0, .box TT4)]) (m := 0))

def zuv : Code := (Tryd.f47.body).getD .skip

def L_36 : List (List Nat × List Nat) := [([0], [1, 0]), ([0, 0, 1], [5, 1, 0]), ([0, 1, 0, 1], [5, 1, 0]), ([0, 0, 0, 0, 1, 0, 1], [9, 1, 5, 0]), ([1, 0, 0, 0, 1, 0, 1], [1, 5, 0]), ([1, 1, 0, 0, 0, 1, 0, 1], []), ([0, 0, 0, 1, 0, 0, 1, 0, 1], [16, 5, 1, 0]), ([1, 0, 0, 1, 0, 0, 1, 0, 1], [5, 1, 0]), ([0, 0, 1, 0, 0, 1, 0, 0, 1, 0, 1], [4]), ([1, 0, 1, 0, 0, 1, 0, 0, 1, 0, 1], [4]), (z14w, [5, 1, 0]), ([1, 1, 0, 0, 1, 0, 1], [5, 1, 0]), ([1, 0, 1], []), ([0, 1, 1], [4]), ([1, 1, 1], [4])]

def E_36 (N : Nat) : Env := z27 tys glob [] [] [] [] false [] []

theorem z1mz (N : Nat) : EnvOk Tryd.prog (E_36 N) := zi mixed z16 (FnsOk.nil) (ItsOk.nil)

def z3d (N : Nat) (b : Int) (l : (List UInt8)) (i : Int) (rec : Int -> Option Bool) (k0 : Bool -> Option Bool) (k1 : Option Bool) : Option Bool :=
 cond (decide (i < (((List.length l) : Nat) : Int)))
 (cond (inR i (List.length l))
 (cond ((((UInt8.toNat (List.getD l (Int.toNat i) (0 : UInt8))) : Nat) : Int) == b)
 (k0 true)
 (rec (IntKind.wrap IntKind.i64 (i + (1 : Int)))))
 (none))
 (k1)

def zcp (N : Nat) (b : Int) (l : (List UInt8)) (i : Int) (k0 : Bool -> Option Bool) (k1 : Option Bool) : Option Bool :=
 iter (fun (v : Int) r => z3d N b l v (fun i => (r i)) k0 k1) N i

def z1ke (N : Nat) (i : (Int × (List UInt8))) (v : Int) (r : Int -> Option Bool) (K : Ex -> List A -> Option Bool) : Option Bool :=
 z3d N i.1 i.2 v (fun i => (r i)) (fun a0 => (K .ret (mkS [(4, .v .bool)] 12 (a0, ())))) (K (.exit 0) (mkS [] 17 ()))

def z1h8 (N : Nat) : Hd Bool := fun st K => (unS [(0, .v (.int .u8)), (0, .v .str), (3, .v (.int .i64))] 11 (restr [5, 1, 0] 0 st)).bind fun x => iter (fun v r => z1ke N ((fun x => (x.1, x.2.1)) x) v r K) N ((fun x => x.2.2.1) x)

def t1_36 (N : Nat) : Tab Bool := []

theorem z1dr {N : Nat} {c : Ctx} (hb : Base Tryd.prog (E_36 N) c) : zk Tryd.prog c (zf zuv [0, 1, 0, 1]) (z1h8 N) :=
  z4k (s := [(0, .v (.int .u8)), (0, .v .str), (3, .v (.int .i64))]) (m := 11) (z1ke N) [5, 1, 0] N (fun x => (x.1, x.2.1)) (fun x => x.2.2.1) (fun i v => (i.1, i.2, v, ())) (fun _ => rfl) (ze hb N (t1_36 N) L_36 zuv TabOk.nil [0, 0, 1, 0, 1] _ rfl) (fun i v r K => by kernel_rfl)

def z1x (N : Nat) (b : Int) (l : (List UInt8)) : Option Bool :=
 zcp N b l (0 : Int)
 (fun x4 => some x4)
 (some false)

def t_36 (N : Nat) : Tab Bool := [([0, 1, 0, 1], z1h8 N)]

theorem z17c (N : Nat) (x : z1a [(0, .v (.int .u8)), (0, .v .str)]) : zas (E_36 N) N (t_36 N) L_36 Tryd.f47 (mkS [(0, .v (.int .u8)), (0, .v .str)] 0 x) (z6d (.v .bool) 2) = z1x N x.1 x.2.1 := by kernel_rfl

def z5c (N : Nat) : List A -> Res := z1b [(0, .v (.int .u8)), (0, .v .str)] (fun x => z1x N x.1 x.2.1) (zb4 (.v .bool) 2)

theorem z97 (N : Nat) : Contract Tryd.prog glob 47 (z5c N) :=
  Contract.of (E := E_36 N) (H := t_36 N) (L := L_36) (N := N) (body := zuv) (K := (z6d (.v .bool) 2)) (z1mz N) Tryd.func47 (by kernel_rfl) (by decide) (fun _ hb => (TabOk.cons (z1dr hb) TabOk.nil)) (fun x y h => by rw [z17c]; exact h) (z1p (s := (.v .bool)) (m := 2))

def z18q : Code := (Tryd.f31.body).getD .skip

def L_37 : List (List Nat × List Nat) := [([0], [0, 1, 4]), ([0, 1], [4]), ([1, 1], [4])]

def E_37 (N : Nat) : Env := z27 tys glob [] [] [] [] false [] []

theorem z1my (N : Nat) : EnvOk Tryd.prog (E_37 N) := zi mixed z16 (FnsOk.nil) (ItsOk.nil)

def zgz (N : Nat) (e : Int) (at_ : Int) : Option DT3 :=
 some (((0 : Int), (([(0 : Int), (0 : Int), (0 : Int), (0 : Int)] : List Int), (([] : List Tree), ((0 : Int), ((0 : Int), ()))))), (([(0 : Int), (0 : Int), (0 : Int), (0 : Int)] : List Int), (false, ((0 : Int), ((e, (at_, ())), ())))))

def t_37 (N : Nat) : Tab DT3 := []

theorem z17b (N : Nat) (x : z1a SQ7) : zas (E_37 N) N (t_37 N) L_37 Tryd.f31 (mkS SQ7 0 x) (z6d (.v TT2) 2) = zgz N x.1 x.2.1 := by kernel_rfl

def z2s (N : Nat) : List A -> Res := z1b SQ7 (fun x => zgz N x.1 x.2.1) (zb4 (.v TT2) 2)

theorem z49 (N : Nat) : Contract Tryd.prog glob 31 (z2s N) :=
  Contract.of (E := E_37 N) (H := t_37 N) (L := L_37) (N := N) (body := z18q) (K := (z6d (.v TT2) 2)) (z1my N) Tryd.func31 (by kernel_rfl) (by decide) (fun _ hb => TabOk.nil) (fun x y h => by rw [z17b]; exact h) (z1p (s := (.v TT2)) (m := 2))

def z18p : Code := (Tryd.f22.body).getD .skip

def L_38 : List (List Nat × List Nat) := [([0], [1, 0, 4]), ([0, 0, 1], [8, 0, 4, 1]), ([1, 0, 1], [1, 4]), ([0, 0, 1, 0, 1], [4]), ([1, 0, 1, 0, 1], [4]), ([0, 1, 1], [4]), ([1, 1, 1], [4])]

def E_38 (N : Nat) : Env := z27 tys glob [(31, z2s N)] [] [] [] false [] []

theorem z1mx (N : Nat) : EnvOk Tryd.prog (E_38 N) := zi mixed z16 (FnsOk.cons (z49 N) (FnsOk.nil)) (ItsOk.nil)

def z13 (N : Nat) (s : (List UInt8)) (at_ : Int) : Option DT3 :=
 cond (decide ((((List.length s) : Nat) : Int) <= at_))
 (some (((0 : Int), (([(0 : Int), (0 : Int), (0 : Int), (0 : Int)] : List Int), (([] : List Tree), ((0 : Int), ((0 : Int), ()))))), (([(0 : Int), (0 : Int), (0 : Int), (0 : Int)] : List Int), (false, ((0 : Int), (((1 : Int), ((((List.length s) : Nat) : Int), ())), ()))))))
 (some (((0 : Int), (([(0 : Int), (0 : Int), (0 : Int), (0 : Int)] : List Int), (([] : List Tree), ((0 : Int), ((0 : Int), ()))))), (([(0 : Int), (0 : Int), (0 : Int), (0 : Int)] : List Int), (false, ((0 : Int), (((2 : Int), (at_, ())), ()))))))

def t_38 (N : Nat) : Tab DT3 := []

theorem z17a (N : Nat) (x : z1a zr6) : zas (E_38 N) N (t_38 N) L_38 Tryd.f22 (mkS zr6 0 x) (z6d (.v TT2) 2) = z13 N x.1 x.2.1 := by kernel_rfl

def z2z (N : Nat) : List A -> Res := z1b zr6 (fun x => z13 N x.1 x.2.1) (zb4 (.v TT2) 2)

theorem z4c (N : Nat) : Contract Tryd.prog glob 22 (z2z N) :=
  Contract.of (E := E_38 N) (H := t_38 N) (L := L_38) (N := N) (body := z18p) (K := (z6d (.v TT2) 2)) (z1mx N) Tryd.func22 (by kernel_rfl) (by decide) (fun _ hb => TabOk.nil) (fun x y h => by rw [z17a]; exact h) (z1p (s := (.v TT2)) (m := 2))

def z18o : Code := (Tryd.f29.body).getD .skip

def L_39 : List (List Nat × List Nat) := [([0], [1, 0, 2]), ([0, 1], [6]), ([1, 1], [6])]

def E_39 (N : Nat) : Env := z27 tys glob [] [] [] [] false [] []

theorem z1mw (N : Nat) : EnvOk Tryd.prog (E_39 N) := zi mixed z16 (FnsOk.nil) (ItsOk.nil)

def z1m (N : Nat) (s : (List UInt8)) (at_ : Int) (b : Int) : Option Bool :=
 cond (decide (at_ < (((List.length s) : Nat) : Int)))
 (cond (inR at_ (List.length s))
 (some ((((UInt8.toNat (List.getD s (Int.toNat at_) (0 : UInt8))) : Nat) : Int) == b))
 (none))
 (some false)

def t_39 (N : Nat) : Tab Bool := []

theorem z179 (N : Nat) (x : z1a SQ90) : zas (E_39 N) N (t_39 N) L_39 Tryd.f29 (mkS SQ90 0 x) (z6d (.v .bool) 3) = z1m N x.1 x.2.1 x.2.2.1 := by kernel_rfl

def z47 (N : Nat) : List A -> Res := z1b SQ90 (fun x => z1m N x.1 x.2.1 x.2.2.1) (zb4 (.v .bool) 3)

theorem z62 (N : Nat) : Contract Tryd.prog glob 29 (z47 N) :=
  Contract.of (E := E_39 N) (H := t_39 N) (L := L_39) (N := N) (body := z18o) (K := (z6d (.v .bool) 3)) (z1mw N) Tryd.func29 (by kernel_rfl) (by decide) (fun _ hb => TabOk.nil) (fun x y h => by rw [z179]; exact h) (z1p (s := (.v .bool)) (m := 3))

def zuu : Code := (Tryd.f71.body).getD .skip

def L_40 : List (List Nat × List Nat) := [([0], [1, 2]), ([0, 1], [1, 5]), ([0, 0, 1, 1], [6, 1, 5]), ([0, 1, 0, 1, 1], [6, 1, 5]), (z1ad, [14, 5, 6, 1]), (z1ac, [5, 6, 1]), (z1ae, [5]), ([0, 0, 1, 0, 0, 1, 0, 1, 1], [6, 1, 5]), (zx3, [6, 1, 5]), (z1ab, [6, 1, 5]), ([1, 0, 1, 1], [5]), ([0, 1, 1, 1], [4]), ([1, 1, 1, 1], [4])]

def E_40 (N : Nat) : Env := z27 tys glob [] [] [] [] false [] []

theorem z1mv (N : Nat) : EnvOk Tryd.prog (E_40 N) := zi mixed z16 (FnsOk.nil) (ItsOk.nil)

def z7k (N : Nat) (b : Int) (w : Int) (i : Int) (rec : Int -> Int -> Option Bool) (k0 : Int -> Option Bool) : Option Bool :=
 cond (decide (i < (Int.tmod b (64 : Int))))
 (rec (IntKind.wrap IntKind.u64 (Int.tdiv w (2 : Int))) (IntKind.wrap IntKind.i64 (i + (1 : Int))))
 (k0 w)

def zb3 (N : Nat) (b : Int) (w : Int) (i : Int) (k0 : Int -> Option Bool) : Option Bool :=
 iter (fun (v : (Int × Int)) r => z7k N b v.1 v.2 (fun w i => (r (w, i))) k0) N (w, i)

def z1kd (N : Nat) (i : Int) (v : (Int × Int)) (r : (Int × Int) -> Option Bool) (K : Ex -> List A -> Option Bool) : Option Bool :=
 z7k N i v.1 v.2 (fun w i => (r (w, i))) (fun a0 => (K (.exit 0) (mkS [(5, .v (.int .u64))] 16 (a0, ()))))

def z1h7 (N : Nat) : Hd Bool := fun st K => (unS [(1, .v (.int .i64)), (3, .v (.int .u64)), (0, .v (.int .i64))] 15 (restr [6, 1, 5] 0 st)).bind fun x => iter (fun v r => z1kd N ((fun x => x.1) x) v r K) N ((fun x => (x.2.1, x.2.2.1)) x)

def t1_40 (N : Nat) : Tab Bool := []

theorem z1dq {N : Nat} {c : Ctx} (hb : Base Tryd.prog (E_40 N) c) : zk Tryd.prog c (zf zuu [0, 1, 0, 1, 1]) (z1h7 N) :=
  z4k (s := [(1, .v (.int .i64)), (3, .v (.int .u64)), (0, .v (.int .i64))]) (m := 15) (z1kd N) [6, 1, 5] N (fun x => x.1) (fun x => (x.2.1, x.2.2.1)) (fun i v => (i, v.1, v.2, ())) (fun _ => rfl) (ze hb N (t1_40 N) L_40 zuu TabOk.nil [0, 0, 1, 0, 1, 1] _ rfl) (fun i v r K => by kernel_rfl)

def z3y (N : Nat) (s : (List Int)) (b : Int) : Option Bool :=
 cond (inR (IntKind.wrap IntKind.i64 (Int.tdiv b (64 : Int))) 4)
 (cond (decide ((Int.toNat (IntKind.wrap IntKind.i64 (Int.tdiv b (64 : Int)))) < (List.length s)))
 (zb3 N b (List.getD s (Int.toNat (IntKind.wrap IntKind.i64 (Int.tdiv b (64 : Int)))) (0 : Int)) (0 : Int)
 (fun w => some ((Int.tmod w (2 : Int)) == (1 : Int))))
 (none))
 (none)

def t_40 (N : Nat) : Tab Bool := [([0, 1, 0, 1, 1], z1h7 N)]

theorem z178 (N : Nat) (x : z1a z19z) : zas (E_40 N) N (t_40 N) L_40 Tryd.f71 (mkS z19z 0 x) (z6d (.v .bool) 2) = z3y N x.1 x.2.1 := by kernel_rfl

def z4x (N : Nat) : List A -> Res := z1b z19z (fun x => z3y N x.1 x.2.1) (zb4 (.v .bool) 2)

theorem z7l (N : Nat) : Contract Tryd.prog glob 71 (z4x N) :=
  Contract.of (E := E_40 N) (H := t_40 N) (L := L_40) (N := N) (body := zuu) (K := (z6d (.v .bool) 2)) (z1mv N) Tryd.func71 (by kernel_rfl) (by decide) (fun _ hb => (TabOk.cons (z1dq hb) TabOk.nil)) (fun x y h => by rw [z178]; exact h) (z1p (s := (.v .bool)) (m := 2))

def zj8 : Code := (Tryd.f61.body).getD .skip

def z1lr : List (List Nat × List Nat) := [([0], [1, 2, 4]), ([0, 0, 1], [17, 2, 4, 1]), ([1, 0, 1], [1, 2, 4]), ([0, 0, 1, 0, 1], [4]), ([1, 0, 1, 0, 1], [4]), ([0, 1, 1], [1, 5, 2, 4]), ([0, 0, 1, 1, 1], [6, 1, 5, 2, 4]), ([0, 1, 0, 1, 1, 1], [6, 1, 5, 2, 4]), ([0, 0, 0, 0, 1, 0, 1, 1, 1], [22, 5, 6, 1, 2, 4]), ([1, 0, 0, 0, 1, 0, 1, 1, 1], [5, 6, 1, 2, 4]), ([1, 1, 0, 0, 0, 1, 0, 1, 1, 1], [1, 2, 5, 4]), ([0, 0, 1, 0, 0, 1, 0, 1, 1, 1], [6, 1, 5, 2, 4]), ([0, 1, 0, 0, 1, 0, 1, 1, 1], [6, 1, 5, 2, 4]), ([1, 1, 0, 0, 1, 0, 1, 1, 1], [6, 1, 5, 2, 4]), ([1, 0, 1, 1, 1], [1, 2, 5, 4]), ([0, 1, 1, 1, 1], [2, 4]), ([0, 1, 1, 1, 1, 1], [4]), ([1, 1, 1, 1, 1, 1], [4])]

def z1ao (N : Nat) : Env := z27 tys glob [(71, z4x N)] [] [] [] false [] []

theorem z1mu (N : Nat) : EnvOk Tryd.prog (z1ao N) := zi mixed z16 (FnsOk.cons (z7l N) (FnsOk.nil)) (ItsOk.nil)

def zac (N : Nat) (b : Int) (s : (List Int)) (x4 : (List Int)) (k0 : Bool -> Option (List Int)) : Option (List Int) :=
 cond (decide (b < (0 : Int)))
 (k0 true)
 (cond (decide ((255 : Int) < b))
 (k0 true)
 ((z3y N s b).bind fun y =>
 k0 y))

def z1j9 (N : Nat) (x : z1a z198) (K : Ex -> List A -> Option (List Int)) : Option (List Int) :=
 zac N x.1 x.2.1 x.2.2.1 (fun a3 => (K .normal (mkS [(1, .v (.int .i64)), (0, .box (.arr 4 (.int .u64))), (1, .box (.arr 4 (.int .u64))), (12, .v .bool)] 19 (x.1, x.2.1, x.2.2.1, a3, ()))))

def z1g3 (N : Nat) : Hd (List Int) := fun st K => (unS z198 32 (restr [1, 2, 4] 0 st)).bind fun x => z1j9 N x K

def t2_41 (N : Nat) : Tab (List Int) := []

theorem z1cm {N : Nat} {c : Ctx} (hb : Base Tryd.prog (z1ao N) c) : zk Tryd.prog c (zf zj8 [0, 0, 1]) (z1g3 N) :=
  zj (s := z198) (m := 32) (g := z1j9 N) [1, 2, 4] (ze hb N (t2_41 N) z1lr zj8 TabOk.nil [0, 0, 1] _ rfl) (fun x K => by kernel_rfl)

def zad (N : Nat) (b : Int) (s : (List Int)) (x4 : (List Int)) (k0 : Option (List Int)) (k1 : Option (List Int)) : Option (List Int) :=
 zac N b s x4
 (fun x17 => cond x17
 (k0)
 (k1))

def z1kc (N : Nat) (x : z1a z198) (K : Ex -> List A -> Option (List Int)) : Option (List Int) :=
 zad N x.1 x.2.1 x.2.2.1 (K .ret (mkS [(4, .box (.arr 4 (.int .u64)))] 32 (x.2.1, ()))) (K .normal (mkS z198 32 (x.1, x.2.1, x.2.2.1, ())))

def z1h6 (N : Nat) : Hd (List Int) := fun st K => (unS z198 32 (restr [1, 2, 4] 0 st)).bind fun x => z1kc N x K

def t1_41 (N : Nat) : Tab (List Int) := [([0, 0, 1], z1g3 N)]

theorem z1dp {N : Nat} {c : Ctx} (hb : Base Tryd.prog (z1ao N) c) : zk Tryd.prog c (zf zj8 [0, 1]) (z1h6 N) :=
  zj (s := z198) (m := 32) (g := z1kc N) [1, 2, 4] (ze hb N (t1_41 N) z1lr zj8 (TabOk.cons (z1cm hb) TabOk.nil) [0, 1] _ rfl) (fun x K => by kernel_rfl)

def z3p (N : Nat) (b : Int) (s : (List Int)) (x4 : (List Int)) (bit : Int) (i : Int) (rec : Int -> Int -> Option (List Int)) (k0 : Int -> Option (List Int)) : Option (List Int) :=
 cond (decide (i < (Int.tmod b (64 : Int))))
 (rec (IntKind.wrap IntKind.u64 ((2 : Int) * bit)) (IntKind.wrap IntKind.i64 (i + (1 : Int))))
 (k0 bit)

def zdo (N : Nat) (b : Int) (s : (List Int)) (x4 : (List Int)) (bit : Int) (i : Int) (k0 : Int -> Option (List Int)) : Option (List Int) :=
 iter (fun (v : (Int × Int)) r => z3p N b s x4 v.1 v.2 (fun bit i => (r (bit, i))) k0) N (bit, i)

def z1il (N : Nat) (i : (Int × (List Int) × (List Int))) (v : (Int × Int)) (r : (Int × Int) -> Option (List Int)) (K : Ex -> List A -> Option (List Int)) : Option (List Int) :=
 z3p N i.1 i.2.1 i.2.2 v.1 v.2 (fun bit i => (r (bit, i))) (fun a3 => (K (.exit 0) (mkS [(1, .v (.int .i64)), (0, .box (.arr 4 (.int .u64))), (1, .box (.arr 4 (.int .u64))), (0, .v (.int .u64))] 31 (i.1, i.2.1, i.2.2, a3, ()))))

def z1ff (N : Nat) : Hd (List Int) := fun st K => (unS SQ55 30 (restr [6, 1, 5, 2, 4] 0 st)).bind fun x => iter (fun v r => z1il N ((fun x => (x.1, x.2.1, x.2.2.1)) x) v r K) N ((fun x => (x.2.2.2.1, x.2.2.2.2.1)) x)

def t3_41 (N : Nat) : Tab (List Int) := []

theorem z1by {N : Nat} {c : Ctx} (hb : Base Tryd.prog (z1ao N) c) : zk Tryd.prog c (zf zj8 [0, 1, 0, 1, 1, 1]) (z1ff N) :=
  z4k (s := SQ55) (m := 30) (z1il N) [6, 1, 5, 2, 4] N (fun x => (x.1, x.2.1, x.2.2.1)) (fun x => (x.2.2.2.1, x.2.2.2.2.1)) (fun i v => (i.1, i.2.1, i.2.2, v.1, v.2, ())) (fun _ => rfl) (ze hb N (t3_41 N) z1lr zj8 TabOk.nil z13j _ rfl) (fun i v r K => by kernel_rfl)

def z3k (N : Nat) (s : (List Int)) (b : Int) : Option (List Int) :=
 zad N b s ([(0 : Int), (0 : Int), (0 : Int), (0 : Int)] : List Int)
 (some s)
 (zdo N b s ([(0 : Int), (0 : Int), (0 : Int), (0 : Int)] : List Int) (1 : Int) (0 : Int)
 (fun bit => cond (inR (IntKind.wrap IntKind.i64 (Int.tdiv b (64 : Int))) 4)
 (cond (decide ((Int.toNat (IntKind.wrap IntKind.i64 (Int.tdiv b (64 : Int)))) < (List.length s)))
 (cond (inR (IntKind.wrap IntKind.i64 (Int.tdiv b (64 : Int))) 4)
 (cond (decide ((Int.toNat (IntKind.wrap IntKind.i64 (Int.tdiv b (64 : Int)))) < (List.length s)))
 (some (List.set s (Int.toNat (IntKind.wrap IntKind.i64 (Int.tdiv b (64 : Int)))) (IntKind.wrap IntKind.u64 ((List.getD s (Int.toNat (IntKind.wrap IntKind.i64 (Int.tdiv b (64 : Int)))) (0 : Int)) + bit))))
 (none))
 (none))
 (none))
 (none)))

def t_41 (N : Nat) : Tab (List Int) := [([0, 1], z1h6 N), ([0, 1, 0, 1, 1, 1], z1ff N)]

theorem z177 (N : Nat) (x : z1a z19z) : zas (z1ao N) N (t_41 N) z1lr Tryd.f61 (mkS z19z 0 x) (z6d (.v (.arr 4 (.int .u64))) 2) = z3k N x.1 x.2.1 := by kernel_rfl

def z4d (N : Nat) : List A -> Res := z1b z19z (fun x => z3k N x.1 x.2.1) (zb4 (.v (.arr 4 (.int .u64))) 2)

theorem z6w (N : Nat) : Contract Tryd.prog glob 61 (z4d N) :=
  Contract.of (E := z1ao N) (H := t_41 N) (L := z1lr) (N := N) (body := zj8) (K := (z6d (.v (.arr 4 (.int .u64))) 2)) (z1mu N) Tryd.func61 (by kernel_rfl) (by decide) (fun _ hb => (TabOk.cons (z1dp hb) (TabOk.cons (z1by hb) TabOk.nil))) (fun x y h => by rw [z177]; exact h) (z1p (s := (.v (.arr 4 (.int .u64)))) (m := 2))

def zut : Code := (Tryd.f48.body).getD .skip

def L_42 : List (List Nat × List Nat) := [([0], [0, 1, 4]), ([0, 1], [0, 1, 5, 4]), ([0, 0, 1, 1], [6, 1, 5, 4]), ([0, 1, 0, 1, 1], [6, 1, 5, 4]), (z1ad, [10, 5, 6, 1, 4]), (z1ac, [5, 6, 1, 4]), (z1ae, [5, 4]), ([0, 0, 1, 0, 0, 1, 0, 1, 1], [6, 1, 5, 4]), (zx3, [6, 1, 5, 4]), (z1ab, [6, 1, 5, 4]), ([1, 0, 1, 1], [5, 4]), ([0, 1, 1, 1], [4]), ([1, 1, 1, 1], [4])]

def E_42 (N : Nat) : Env := z27 tys glob [(61, z4d N)] [] [] [] false [] []

theorem z1mt (N : Nat) : EnvOk Tryd.prog (E_42 N) := zi mixed z16 (FnsOk.cons (z6w N) (FnsOk.nil)) (ItsOk.nil)

def z2e (N : Nat) (hi : Int) (x4 : (List Int)) (s : (List Int)) (b : Int) (rec : (List Int) -> Int -> Option (List Int)) (k0 : (List Int) -> Option (List Int)) : Option (List Int) :=
 cond (decide (b <= hi))
 ((z3k N s b).bind fun y =>
 rec y (IntKind.wrap IntKind.i64 (b + (1 : Int))))
 (k0 s)

def zbd (N : Nat) (hi : Int) (x4 : (List Int)) (s : (List Int)) (b : Int) (k0 : (List Int) -> Option (List Int)) : Option (List Int) :=
 iter (fun (v : ((List Int) × Int)) r => z2e N hi x4 v.1 v.2 (fun s b => (r (s, b))) k0) N (s, b)

def z1kb (N : Nat) (i : (Int × (List Int))) (v : ((List Int) × Int)) (r : ((List Int) × Int) -> Option (List Int)) (K : Ex -> List A -> Option (List Int)) : Option (List Int) :=
 z2e N i.1 i.2 v.1 v.2 (fun s b => (r (s, b))) (fun a1 => (K (.exit 0) (mkS [(4, .box (.arr 4 (.int .u64))), (0, .box (.arr 4 (.int .u64)))] 11 (i.2, a1, ()))))

def z1h5 (N : Nat) : Hd (List Int) := fun st K => (unS SQ74 10 (restr [6, 1, 5, 4] 0 st)).bind fun x => iter (fun v r => z1kb N ((fun x => (x.1, x.2.1)) x) v r K) N ((fun x => (x.2.2.1, x.2.2.2.1)) x)

def t1_42 (N : Nat) : Tab (List Int) := []

theorem z1do {N : Nat} {c : Ctx} (hb : Base Tryd.prog (E_42 N) c) : zk Tryd.prog c (zf zut [0, 1, 0, 1, 1]) (z1h5 N) :=
  z4k (s := SQ74) (m := 10) (z1kb N) [6, 1, 5, 4] N (fun x => (x.1, x.2.1)) (fun x => (x.2.2.1, x.2.2.2.1)) (fun i v => (i.1, i.2, v.1, v.2, ())) (fun _ => rfl) (ze hb N (t1_42 N) L_42 zut TabOk.nil [0, 0, 1, 0, 1, 1] _ rfl) (fun i v r K => by kernel_rfl)

def zq (N : Nat) (lo : Int) (hi : Int) : Option (List Int) :=
 zbd N hi ([(0 : Int), (0 : Int), (0 : Int), (0 : Int)] : List Int) ([(0 : Int), (0 : Int), (0 : Int), (0 : Int)] : List Int) lo
 (fun s => some s)

def t_42 (N : Nat) : Tab (List Int) := [([0, 1, 0, 1, 1], z1h5 N)]

theorem z176 (N : Nat) (x : z1a SQ7) : zas (E_42 N) N (t_42 N) L_42 Tryd.f48 (mkS SQ7 0 x) (z6d (.v (.arr 4 (.int .u64))) 2) = zq N x.1 x.2.1 := by kernel_rfl

def z1u (N : Nat) : List A -> Res := z1b SQ7 (fun x => zq N x.1 x.2.1) (zb4 (.v (.arr 4 (.int .u64))) 2)

theorem z2f (N : Nat) : Contract Tryd.prog glob 48 (z1u N) :=
  Contract.of (E := E_42 N) (H := t_42 N) (L := L_42) (N := N) (body := zut) (K := (z6d (.v (.arr 4 (.int .u64))) 2)) (z1mt N) Tryd.func48 (by kernel_rfl) (by decide) (fun _ hb => (TabOk.cons (z1do hb) TabOk.nil)) (fun x y h => by rw [z176]; exact h) (z1p (s := (.v (.arr 4 (.int .u64)))) (m := 2))

def z18n : Code := (Tryd.f65.body).getD .skip

def L_43 : List (List Nat × List Nat) := [([0], [0]), ([0, 1], [0]), ([1, 1], [0])]

def E_43 (N : Nat) : Env := z27 tys glob [(48, z1u N)] [] [] [] false [] []

theorem z1ms (N : Nat) : EnvOk Tryd.prog (E_43 N) := zi mixed z16 (FnsOk.cons (z2f N) (FnsOk.nil)) (ItsOk.nil)

def z5d (N : Nat) : Option (List Int) :=
 (zq N (48 : Int) (57 : Int)).bind fun y =>
 some y

def t_43 (N : Nat) : Tab (List Int) := []

theorem z175 (N : Nat) (x : z1a []) : zas (E_43 N) N (t_43 N) L_43 Tryd.f65 (mkS [] 0 x) (z6d (.v (.arr 4 (.int .u64))) 0) = z5d N := by kernel_rfl

def zbc (N : Nat) : List A -> Res := z1b [] (fun x => z5d N) (zb4 (.v (.arr 4 (.int .u64))) 0)

theorem zh0 (N : Nat) : Contract Tryd.prog glob 65 (zbc N) :=
  Contract.of (E := E_43 N) (H := t_43 N) (L := L_43) (N := N) (body := z18n) (K := (z6d (.v (.arr 4 (.int .u64))) 0)) (z1ms N) Tryd.func65 (by kernel_rfl) (by decide) (fun _ hb => TabOk.nil) (fun x y h => by rw [z175]; exact h) (z1p (s := (.v (.arr 4 (.int .u64)))) (m := 0))

def znw : Code := (Tryd.f63.body).getD .skip

def L_44 : List (List Nat × List Nat) := [([0], [3, 2, 4]), ([0, 0, 1], [5, 3, 2, 4]), ([0, 1, 0, 1], [5, 3, 2, 4]), ([0, 0, 0, 0, 1, 0, 1], [7, 3, 5, 2, 4]), ([1, 0, 0, 0, 1, 0, 1], [3, 5, 2, 4]), ([1, 1, 0, 0, 0, 1, 0, 1], [2, 4]), ([0, 0, 0, 1, 0, 0, 1, 0, 1], [12, 2, 5, 3, 4]), ([1, 0, 0, 1, 0, 0, 1, 0, 1], [5, 3, 2, 4]), ([0, 1, 0, 0, 1, 0, 0, 1, 0, 1], [5, 3, 2, 4]), (z14w, [5, 3, 2, 4]), ([1, 1, 0, 0, 1, 0, 1], [5, 3, 2, 4]), ([1, 0, 1], [2, 4]), ([0, 1, 1], [4]), ([1, 1, 1], [4])]

def z1ny (N : Nat) : Env := z27 tys glob [(61, z4d N), (71, z4x N)] [] [] [] false [] []

theorem z1mr (N : Nat) : EnvOk Tryd.prog (z1ny N) := zi mixed z16 (FnsOk.cons (z6w N) (FnsOk.cons (z7l N) (FnsOk.nil))) (ItsOk.nil)

def zbk (N : Nat) (s : (List Int)) (t : (List Int)) (x4 : (List Int)) (b : Int) (k0 : (List Int) -> Option (List Int)) : Option (List Int) :=
 (z3y N t b).bind fun y =>
 cond y
 ((z3k N s b).bind fun y1 =>
 k0 y1)
 (k0 s)

def z1j8 (N : Nat) (x : z1a z1a9) (K : Ex -> List A -> Option (List Int)) : Option (List Int) :=
 zbk N x.1 x.2.1 x.2.2.1 x.2.2.2.1 (fun a0 => (K .normal (mkS z1a9 11 (a0, x.2.1, x.2.2.1, x.2.2.2.1, ()))))

def z1g2 (N : Nat) : Hd (List Int) := fun st K => (unS z1a9 11 (restr [3, 5, 2, 4] 0 st)).bind fun x => z1j8 N x K

def t2_44 (N : Nat) : Tab (List Int) := []

theorem z1cl {N : Nat} {c : Ctx} (hb : Base Tryd.prog (z1ny N) c) : zk Tryd.prog c (zf znw z14w) (z1g2 N) :=
  zj (s := z1a9) (m := 11) (g := z1j8 N) [3, 5, 2, 4] (ze hb N (t2_44 N) L_44 znw TabOk.nil z14w _ rfl) (fun x K => by kernel_rfl)

def z4o (N : Nat) (t : (List Int)) (x4 : (List Int)) (s : (List Int)) (b : Int) (rec : (List Int) -> Int -> Option (List Int)) (k0 : (List Int) -> Option (List Int)) : Option (List Int) :=
 cond (decide (b < (256 : Int)))
 (zbk N s t x4 b
 (fun s1 => rec s1 (IntKind.wrap IntKind.i64 (b + (1 : Int)))))
 (k0 s)

def zf7 (N : Nat) (s : (List Int)) (t : (List Int)) (x4 : (List Int)) (b : Int) (k0 : (List Int) -> Option (List Int)) : Option (List Int) :=
 iter (fun (v : ((List Int) × Int)) r => z4o N t x4 v.1 v.2 (fun s b => (r (s, b))) k0) N (s, b)

def z1ka (N : Nat) (i : ((List Int) × (List Int))) (v : ((List Int) × Int)) (r : ((List Int) × Int) -> Option (List Int)) (K : Ex -> List A -> Option (List Int)) : Option (List Int) :=
 z4o N i.1 i.2 v.1 v.2 (fun s b => (r (s, b))) (fun a0 => (K (.exit 0) (mkS [(2, .box (.arr 4 (.int .u64))), (1, .box (.arr 4 (.int .u64)))] 12 (a0, i.2, ()))))

def z1h4 (N : Nat) : Hd (List Int) := fun st K => (unS z1a9 11 (restr [5, 3, 2, 4] 0 st)).bind fun x => iter (fun v r => z1ka N ((fun x => (x.2.1, x.2.2.1)) x) v r K) N ((fun x => (x.1, x.2.2.2.1)) x)

def t1_44 (N : Nat) : Tab (List Int) := [(z14w, z1g2 N)]

theorem z1dn {N : Nat} {c : Ctx} (hb : Base Tryd.prog (z1ny N) c) : zk Tryd.prog c (zf znw [0, 1, 0, 1]) (z1h4 N) :=
  z4k (s := z1a9) (m := 11) (z1ka N) [5, 3, 2, 4] N (fun x => (x.2.1, x.2.2.1)) (fun x => (x.1, x.2.2.2.1)) (fun i v => (v.1, i.1, i.2, v.2, ())) (fun _ => rfl) (ze hb N (t1_44 N) L_44 znw (TabOk.cons (z1cl hb) TabOk.nil) [0, 0, 1, 0, 1] _ rfl) (fun i v r K => by kernel_rfl)

def z5n (N : Nat) (s : (List Int)) (t : (List Int)) : Option (List Int) :=
 zf7 N s t ([(0 : Int), (0 : Int), (0 : Int), (0 : Int)] : List Int) (0 : Int)
 (fun s1 => some s1)

def t_44 (N : Nat) : Tab (List Int) := [([0, 1, 0, 1], z1h4 N)]

theorem z174 (N : Nat) (x : z1a z1a1) : zas (z1ny N) N (t_44 N) L_44 Tryd.f63 (mkS z1a1 0 x) (z6d (.v (.arr 4 (.int .u64))) 2) = z5n N x.1 x.2.1 := by kernel_rfl

def zb1 (N : Nat) : List A -> Res := z1b z1a1 (fun x => z5n N x.1 x.2.1) (zb4 (.v (.arr 4 (.int .u64))) 2)

theorem zf8 (N : Nat) : Contract Tryd.prog glob 63 (zb1 N) :=
  Contract.of (E := z1ny N) (H := t_44 N) (L := L_44) (N := N) (body := znw) (K := (z6d (.v (.arr 4 (.int .u64))) 2)) (z1mr N) Tryd.func63 (by kernel_rfl) (by decide) (fun _ hb => (TabOk.cons (z1dn hb) TabOk.nil)) (fun x y h => by rw [z174]; exact h) (z1p (s := (.v (.arr 4 (.int .u64)))) (m := 2))

def z18m : Code := (Tryd.f66.body).getD .skip

def L_45 : List (List Nat × List Nat) := [([0], [0]), ([0, 1], [0]), ([1, 1], [0])]

def E_45 (N : Nat) : Env := z27 tys glob [(63, zb1 N), (48, z1u N), (61, z4d N)] [] [] [] false [] []

theorem z1mq (N : Nat) : EnvOk Tryd.prog (E_45 N) := zi mixed z16 (FnsOk.cons (zf8 N) (FnsOk.cons (z2f N) (FnsOk.cons (z6w N) (FnsOk.nil)))) (ItsOk.nil)

def z66 (N : Nat) : Option (List Int) :=
 (zq N (48 : Int) (57 : Int)).bind fun y =>
 (zq N (65 : Int) (90 : Int)).bind fun y1 =>
 (z5n N y y1).bind fun y2 =>
 (zq N (97 : Int) (122 : Int)).bind fun y3 =>
 (z5n N y2 y3).bind fun y4 =>
 (z3k N y4 (95 : Int)).bind fun y5 =>
 some y5

def t_45 (N : Nat) : Tab (List Int) := []

theorem z173 (N : Nat) (x : z1a []) : zas (E_45 N) N (t_45 N) L_45 Tryd.f66 (mkS [] 0 x) (z6d (.v (.arr 4 (.int .u64))) 0) = z66 N := by kernel_rfl

def zc7 (N : Nat) : List A -> Res := z1b [] (fun x => z66 N) (zb4 (.v (.arr 4 (.int .u64))) 0)

theorem zi3 (N : Nat) : Contract Tryd.prog glob 66 (zc7 N) :=
  Contract.of (E := E_45 N) (H := t_45 N) (L := L_45) (N := N) (body := z18m) (K := (z6d (.v (.arr 4 (.int .u64))) 0)) (z1mq N) Tryd.func66 (by kernel_rfl) (by decide) (fun _ hb => TabOk.nil) (fun x y h => by rw [z173]; exact h) (z1p (s := (.v (.arr 4 (.int .u64)))) (m := 0))

def zj7 : Code := (Tryd.f67.body).getD .skip

def z1lq : List (List Nat × List Nat) := [([0], [0]), ([0, 0, 1], [8, 0]), ([1, 0, 1], [0]), ([0, 0, 1, 0, 1], [2]), ([1, 0, 1, 0, 1], [2]), ([0, 0, 1, 1], [17, 0]), ([1, 0, 1, 1], []), ([0, 0, 1, 0, 1, 1], [2]), ([1, 0, 1, 0, 1, 1], [2]), ([0, 1, 1, 1], [2]), ([1, 1, 1, 1], [2])]

def z1an (N : Nat) : Env := z27 tys glob [] [] [] [] false [] []

theorem z1mp (N : Nat) : EnvOk Tryd.prog (z1an N) := zi mixed z16 (FnsOk.nil) (ItsOk.nil)

def ze9 (N : Nat) (b : Int) (k0 : Bool -> Option Int) : Option Int :=
 cond (decide ((48 : Int) <= b))
 (k0 (decide (b <= (57 : Int))))
 (k0 false)

def z1j7 (N : Nat) (x : z1a [(0, .v (.int .u8))]) (K : Ex -> List A -> Option Int) : Option Int :=
 ze9 N x.1 (fun a1 => (K .normal (mkS [(0, .v (.int .u8)), (7, .v .bool)] 12 (x.1, a1, ()))))

def z1g1 (N : Nat) : Hd Int := fun st K => (unS [(0, .v (.int .u8))] 20 (restr [0] 0 st)).bind fun x => z1j7 N x K

def t2_46 (N : Nat) : Tab Int := []

theorem z1ck {N : Nat} {c : Ctx} (hb : Base Tryd.prog (z1an N) c) : zk Tryd.prog c (zf zj7 [0, 0, 1]) (z1g1 N) :=
  zj (s := [(0, .v (.int .u8))]) (m := 20) (g := z1j7 N) [0] (ze hb N (t2_46 N) z1lq zj7 TabOk.nil [0, 0, 1] _ rfl) (fun x K => by kernel_rfl)

def zea (N : Nat) (b : Int) (k0 : Int -> Option Int) (k1 : Option Int) : Option Int :=
 ze9 N b
 (fun x8 => cond x8
 (k0 (IntKind.wrap IntKind.i64 ((IntKind.wrap IntKind.i64 b) - (48 : Int))))
 (k1))

def z1k9 (N : Nat) (x : z1a [(0, .v (.int .u8))]) (K : Ex -> List A -> Option Int) : Option Int :=
 zea N x.1 (fun a0 => (K .ret (mkS [(2, .v (.int .i64))] 18 (a0, ())))) (K .normal (mkS [(0, .v (.int .u8))] 20 (x.1, ())))

def z1h3 (N : Nat) : Hd Int := fun st K => (unS [(0, .v (.int .u8))] 20 (restr [0] 0 st)).bind fun x => z1k9 N x K

def t1_46 (N : Nat) : Tab Int := [([0, 0, 1], z1g1 N)]

theorem z1dm {N : Nat} {c : Ctx} (hb : Base Tryd.prog (z1an N) c) : zk Tryd.prog c (zf zj7 [0, 1]) (z1h3 N) :=
  zj (s := [(0, .v (.int .u8))]) (m := 20) (g := z1k9 N) [0] (ze hb N (t1_46 N) z1lq zj7 (TabOk.cons (z1ck hb) TabOk.nil) [0, 1] _ rfl) (fun x K => by kernel_rfl)

def ze8 (N : Nat) (b : Int) (k0 : Bool -> Option Int) : Option Int :=
 cond (decide ((97 : Int) <= b))
 (k0 (decide (b <= (102 : Int))))
 (k0 false)

def z1ik (N : Nat) (x : z1a [(0, .v (.int .u8))]) (K : Ex -> List A -> Option Int) : Option Int :=
 ze8 N x.1 (fun a1 => (K .normal (mkS [(0, .v (.int .u8)), (16, .v .bool)] 3 (x.1, a1, ()))))

def z1fe (N : Nat) : Hd Int := fun st K => (unS [(0, .v (.int .u8))] 20 (restr [0] 0 st)).bind fun x => z1ik N x K

def t3_46 (N : Nat) : Tab Int := []

theorem z1bx {N : Nat} {c : Ctx} (hb : Base Tryd.prog (z1an N) c) : zk Tryd.prog c (zf zj7 [0, 0, 1, 1]) (z1fe N) :=
  zj (s := [(0, .v (.int .u8))]) (m := 20) (g := z1ik N) [0] (ze hb N (t3_46 N) z1lq zj7 TabOk.nil [0, 0, 1, 1] _ rfl) (fun x K => by kernel_rfl)

def z63 (N : Nat) (b : Int) : Option Int :=
 zea N b
 (fun x2 => some x2)
 (ze8 N b
 (fun x17 => cond x17
 (some (IntKind.wrap IntKind.i64 ((IntKind.wrap IntKind.i64 b) - (87 : Int))))
 (some (-(1 : Int)))))

def t_46 (N : Nat) : Tab Int := [([0, 1], z1h3 N), ([0, 0, 1, 1], z1fe N)]

theorem z172 (N : Nat) (x : z1a [(0, .v (.int .u8))]) : zas (z1an N) N (t_46 N) z1lq Tryd.f67 (mkS [(0, .v (.int .u8))] 0 x) (z6d (.v (.int .i64)) 1) = z63 N x.1 := by kernel_rfl

def zdi (N : Nat) : List A -> Res := z1b [(0, .v (.int .u8))] (fun x => z63 N x.1) (zb4 (.v (.int .i64)) 1)

theorem zjp (N : Nat) : Contract Tryd.prog glob 67 (zdi N) :=
  Contract.of (E := z1an N) (H := t_46 N) (L := z1lq) (N := N) (body := zj7) (K := (z6d (.v (.int .i64)) 1)) (z1mp N) Tryd.func67 (by kernel_rfl) (by decide) (fun _ hb => (TabOk.cons (z1dm hb) (TabOk.cons (z1bx hb) TabOk.nil))) (fun x y h => by rw [z172]; exact h) (z1p (s := (.v (.int .i64))) (m := 1))

def zus : Code := (Tryd.f50.body).getD .skip

def L_47 : List (List Nat × List Nat) := [([0], [1, 0, 4]), ([0, 0, 1], [12, 0, 4, 1]), ([1, 0, 1], [0, 1, 4]), ([0, 0, 1, 0, 1], [4]), ([1, 0, 1, 0, 1], [4]), ([0, 1, 1], [5, 1, 4, 0]), ([0, 0, 1, 1, 1], [21, 1, 4, 5, 0]), ([1, 0, 1, 1, 1], [5, 1, 4, 0]), (z13j, [4]), (z14x, [4]), ([0, 0, 1, 1, 1, 1], [27, 1, 4, 5, 0]), ([1, 0, 1, 1, 1, 1], [5, 1, 0, 4]), (z11x, [4]), (z14y, [4]), (zkf, [33, 1, 0, 4, 5]), (zyg, [5, 1, 4]), (z19c, [1, 0, 4, 6]), ([0, 0, 1, 0, 1, 0, 1, 1, 1, 1, 1], [7, 1, 0, 4, 6]), ([0, 1, 0, 1, 0, 1, 0, 1, 1, 1, 1, 1], [7, 1, 0, 4, 6]), ([0, 0, 0, 0, 1, 0, 1, 0, 1, 0, 1, 1, 1, 1, 1], [39, 7, 0, 4, 1, 6]), ([1, 0, 0, 0, 1, 0, 1, 0, 1, 0, 1, 1, 1, 1, 1], [7, 0, 4, 1, 6]), ([1, 1, 0, 0, 0, 1, 0, 1, 0, 1, 0, 1, 1, 1, 1, 1], [6, 1, 4]), ([0, 0, 0, 0, 1, 0, 0, 1, 0, 1, 0, 1, 0, 1, 1, 1, 1, 1], [45, 0, 4, 7, 1, 6]), ([1, 0, 0, 0, 1, 0, 0, 1, 0, 1, 0, 1, 0, 1, 1, 1, 1, 1], [0, 7, 1, 4, 6]), ([0, 0, 1, 0, 0, 0, 1, 0, 0, 1, 0, 1, 0, 1, 0, 1, 1, 1, 1, 1], [4]), ([1, 0, 1, 0, 0, 0, 1, 0, 0, 1, 0, 1, 0, 1, 0, 1, 1, 1, 1, 1], [4]), ([0, 0, 1, 0, 0, 1, 0, 0, 1, 0, 1, 0, 1, 0, 1, 1, 1, 1, 1], [53, 1, 4, 6, 0, 7]), ([1, 0, 1, 0, 0, 1, 0, 0, 1, 0, 1, 0, 1, 0, 1, 1, 1, 1, 1], [6, 0, 7, 1, 4]), ([0, 0, 1, 0, 1, 0, 0, 1, 0, 0, 1, 0, 1, 0, 1, 0, 1, 1, 1, 1, 1], [4]), ([1, 0, 1, 0, 1, 0, 0, 1, 0, 0, 1, 0, 1, 0, 1, 0, 1, 1, 1, 1, 1], [4]), ([1, 1, 0, 0, 1, 0, 0, 1, 0, 1, 0, 1, 0, 1, 1, 1, 1, 1], [7, 1, 0, 4, 6]), ([0, 1, 0, 0, 1, 0, 1, 0, 1, 0, 1, 1, 1, 1, 1], [7, 1, 0, 4, 6]), ([1, 1, 0, 0, 1, 0, 1, 0, 1, 0, 1, 1, 1, 1, 1], [7, 1, 0, 4, 6]), ([1, 0, 1, 0, 1, 0, 1, 1, 1, 1, 1], [6, 1, 4]), ([0, 1, 1, 0, 1, 0, 1, 1, 1, 1, 1], [4]), ([1, 1, 1, 0, 1, 0, 1, 1, 1, 1, 1], [4]), (zyh, [70, 5, 1, 4]), (z19b, [1, 4]), (z1li, [4]), (z1lh, [4]), (z11y, [4]), (z13l, [4])]

def E_47 (N : Nat) : Env := z27 tys glob [(67, zdi N), (66, zc7 N), (65, zbc N), (48, z1u N), (31, z2s N), (47, z5c N)] [] [] [] false [] []

theorem z1mo (N : Nat) : EnvOk Tryd.prog (E_47 N) := zi mixed z16 (FnsOk.cons (zjp N) (FnsOk.cons (zi3 N) (FnsOk.cons (zh0 N) (FnsOk.cons (z2f N) (FnsOk.cons (z49 N) (FnsOk.cons (z97 N) (FnsOk.nil))))))) (ItsOk.nil)

def z58 (N : Nat) (s : (List UInt8)) (at_ : Int) (x4 : DT3) (n : Int) (i : Int) (rec : Int -> Int -> Option DT3) (k0 : DT3 -> Option DT3) (k1 : Int -> Option DT3) : Option DT3 :=
 cond (decide (i < (IntKind.wrap IntKind.i64 (at_ + (4 : Int)))))
 (cond (decide ((((List.length s) : Nat) : Int) <= i))
 (k0 (((0 : Int), (([(0 : Int), (0 : Int), (0 : Int), (0 : Int)] : List Int), (([] : List Tree), ((0 : Int), ((0 : Int), ()))))), (([(0 : Int), (0 : Int), (0 : Int), (0 : Int)] : List Int), (false, ((0 : Int), (((1 : Int), ((((List.length s) : Nat) : Int), ())), ()))))))
 (cond (inR i (List.length s))
 ((z63 N (((UInt8.toNat (List.getD s (Int.toNat i) (0 : UInt8))) : Nat) : Int)).bind fun y =>
 cond (decide (y < (0 : Int)))
 (k0 (((0 : Int), (([(0 : Int), (0 : Int), (0 : Int), (0 : Int)] : List Int), (([] : List Tree), ((0 : Int), ((0 : Int), ()))))), (([(0 : Int), (0 : Int), (0 : Int), (0 : Int)] : List Int), (false, ((0 : Int), (((2 : Int), (at_, ())), ()))))))
 (cond (inR i (List.length s))
 ((z63 N (((UInt8.toNat (List.getD s (Int.toNat i) (0 : UInt8))) : Nat) : Int)).bind fun y1 =>
 rec (IntKind.wrap IntKind.i64 ((IntKind.wrap IntKind.i64 ((16 : Int) * n)) + y1)) (IntKind.wrap IntKind.i64 (i + (1 : Int))))
 (none)))
 (none)))
 (k1 n)

def zc4 (N : Nat) (s : (List UInt8)) (at_ : Int) (x4 : DT3) (n : Int) (i : Int) (k0 : DT3 -> Option DT3) (k1 : Int -> Option DT3) : Option DT3 :=
 iter (fun (v : (Int × Int)) r => z58 N s at_ x4 v.1 v.2 (fun n i => (r (n, i))) k0 k1) N (n, i)

def z1k8 (N : Nat) (i : ((List UInt8) × Int × DT3)) (v : (Int × Int)) (r : (Int × Int) -> Option DT3) (K : Ex -> List A -> Option DT3) : Option DT3 :=
 z58 N i.1 i.2.1 i.2.2 v.1 v.2 (fun n i => (r (n, i))) (fun a0 => (K .ret (mkS [(4, .box TT2)] 76 (a0, ())))) (fun a2 => (K (.exit 0) (mkS [(1, .v (.int .i64)), (2, .box TT2), (1, .v (.int .i64))] 74 (i.2.1, i.2.2, a2, ()))))

def z1h2 (N : Nat) : Hd DT3 := fun st K => (unS SQ83 73 (restr [7, 1, 0, 4, 6] 0 st)).bind fun x => iter (fun v r => z1k8 N ((fun x => (x.1, x.2.1, x.2.2.1)) x) v r K) N ((fun x => (x.2.2.2.1, x.2.2.2.2.1)) x)

def t1_47 (N : Nat) : Tab DT3 := []

theorem z1dl {N : Nat} {c : Ctx} (hb : Base Tryd.prog (E_47 N) c) : zk Tryd.prog c (zf zus [0, 1, 0, 1, 0, 1, 0, 1, 1, 1, 1, 1]) (z1h2 N) :=
  z4k (s := SQ83) (m := 73) (z1k8 N) [7, 1, 0, 4, 6] N (fun x => (x.1, x.2.1, x.2.2.1)) (fun x => (x.2.2.2.1, x.2.2.2.2.1)) (fun i v => (i.1, i.2.1, i.2.2, v.1, v.2, ())) (fun _ => rfl) (ze hb N (t1_47 N) L_47 zus TabOk.nil [0, 0, 1, 0, 1, 0, 1, 0, 1, 1, 1, 1, 1] _ rfl) (fun i v r K => by kernel_rfl)

def z48 (N : Nat) (s : (List UInt8)) (at_ : Int) : Option DT3 :=
 cond (decide ((((List.length s) : Nat) : Int) <= (IntKind.wrap IntKind.i64 (at_ + (1 : Int)))))
 (some (((0 : Int), (([(0 : Int), (0 : Int), (0 : Int), (0 : Int)] : List Int), (([] : List Tree), ((0 : Int), ((0 : Int), ()))))), (([(0 : Int), (0 : Int), (0 : Int), (0 : Int)] : List Int), (false, ((0 : Int), (((1 : Int), ((((List.length s) : Nat) : Int), ())), ()))))))
 (cond (inR (IntKind.wrap IntKind.i64 (at_ + (1 : Int))) (List.length s))
 (cond ((((UInt8.toNat (List.getD s (Int.toNat (IntKind.wrap IntKind.i64 (at_ + (1 : Int)))) (0 : UInt8))) : Nat) : Int) == (100 : Int))
 ((z5d N).bind fun y =>
 some (((0 : Int), (([(0 : Int), (0 : Int), (0 : Int), (0 : Int)] : List Int), (([] : List Tree), ((0 : Int), ((0 : Int), ()))))), (y, (true, ((IntKind.wrap IntKind.i64 (at_ + (2 : Int))), (((0 : Int), ((0 : Int), ())), ()))))))
 (cond ((((UInt8.toNat (List.getD s (Int.toNat (IntKind.wrap IntKind.i64 (at_ + (1 : Int)))) (0 : UInt8))) : Nat) : Int) == (119 : Int))
 ((z66 N).bind fun y1 =>
 some (((0 : Int), (([(0 : Int), (0 : Int), (0 : Int), (0 : Int)] : List Int), (([] : List Tree), ((0 : Int), ((0 : Int), ()))))), (y1, (true, ((IntKind.wrap IntKind.i64 (at_ + (2 : Int))), (((0 : Int), ((0 : Int), ())), ()))))))
 (cond ((((UInt8.toNat (List.getD s (Int.toNat (IntKind.wrap IntKind.i64 (at_ + (1 : Int)))) (0 : UInt8))) : Nat) : Int) == (120 : Int))
 (zc4 N s at_ (((0 : Int), (([(0 : Int), (0 : Int), (0 : Int), (0 : Int)] : List Int), (([] : List Tree), ((0 : Int), ((0 : Int), ()))))), (([(0 : Int), (0 : Int), (0 : Int), (0 : Int)] : List Int), (false, ((0 : Int), (((0 : Int), ((0 : Int), ())), ()))))) (0 : Int) (IntKind.wrap IntKind.i64 (at_ + (2 : Int)))
 (fun x4 => some x4)
 (fun n => (zq N n n).bind fun y2 =>
 some (((0 : Int), (([(0 : Int), (0 : Int), (0 : Int), (0 : Int)] : List Int), (([] : List Tree), ((0 : Int), ((0 : Int), ()))))), (y2, (false, ((IntKind.wrap IntKind.i64 (at_ + (4 : Int))), (((0 : Int), ((0 : Int), ())), ())))))))
 ((z1x N (((UInt8.toNat (List.getD s (Int.toNat (IntKind.wrap IntKind.i64 (at_ + (1 : Int)))) (0 : UInt8))) : Nat) : Int) ([(92 : UInt8), (46 : UInt8), (91 : UInt8), (93 : UInt8), (40 : UInt8), (41 : UInt8), (123 : UInt8), (125 : UInt8), (124 : UInt8), (42 : UInt8), (43 : UInt8), (63 : UInt8), (45 : UInt8), (94 : UInt8)] : List UInt8)).bind fun y3 =>
 cond y3
 ((zq N (IntKind.wrap IntKind.i64 (((UInt8.toNat (List.getD s (Int.toNat (IntKind.wrap IntKind.i64 (at_ + (1 : Int)))) (0 : UInt8))) : Nat) : Int)) (IntKind.wrap IntKind.i64 (((UInt8.toNat (List.getD s (Int.toNat (IntKind.wrap IntKind.i64 (at_ + (1 : Int)))) (0 : UInt8))) : Nat) : Int))).bind fun y4 =>
 some (((0 : Int), (([(0 : Int), (0 : Int), (0 : Int), (0 : Int)] : List Int), (([] : List Tree), ((0 : Int), ((0 : Int), ()))))), (y4, (false, ((IntKind.wrap IntKind.i64 (at_ + (2 : Int))), (((0 : Int), ((0 : Int), ())), ()))))))
 (some (((0 : Int), (([(0 : Int), (0 : Int), (0 : Int), (0 : Int)] : List Int), (([] : List Tree), ((0 : Int), ((0 : Int), ()))))), (([(0 : Int), (0 : Int), (0 : Int), (0 : Int)] : List Int), (false, ((0 : Int), (((2 : Int), (at_, ())), ()))))))))))
 (none))

def t_47 (N : Nat) : Tab DT3 := [([0, 1, 0, 1, 0, 1, 0, 1, 1, 1, 1, 1], z1h2 N)]

theorem z171 (N : Nat) (x : z1a zr6) : zas (E_47 N) N (t_47 N) L_47 Tryd.f50 (mkS zr6 0 x) (z6d (.v TT2) 2) = z48 N x.1 x.2.1 := by kernel_rfl

def z7c (N : Nat) : List A -> Res := z1b zr6 (fun x => z48 N x.1 x.2.1) (zb4 (.v TT2) 2)

theorem zc5 (N : Nat) : Contract Tryd.prog glob 50 (z7c N) :=
  Contract.of (E := E_47 N) (H := t_47 N) (L := L_47) (N := N) (body := zus) (K := (z6d (.v TT2) 2)) (z1mo N) Tryd.func50 (by kernel_rfl) (by decide) (fun _ hb => (TabOk.cons (z1dl hb) TabOk.nil)) (fun x y h => by rw [z171]; exact h) (z1p (s := (.v TT2)) (m := 2))

def znv : Code := (Tryd.f72.body).getD .skip

def L_48 : List (List Nat × List Nat) := [([0], [1, 0, 4]), ([0, 0, 1], [14, 0, 1, 4]), ([1, 0, 1], [0, 1, 4]), ([0, 0, 1, 0, 1], [4]), ([1, 0, 1, 0, 1], [4]), ([0, 0, 1, 1], [21, 0, 1, 4]), ([1, 0, 1, 1], [0, 1, 4]), ([0, 0, 1, 0, 1, 1], [4]), ([1, 0, 1, 0, 1, 1], [4]), ([0, 1, 1, 1], [4]), ([1, 1, 1, 1], [4])]

def z1nx (N : Nat) : Env := z27 tys glob [(50, z7c N), (48, z1u N), (22, z2z N), (47, z5c N)] [] [] [] false [] []

theorem z1mn (N : Nat) : EnvOk Tryd.prog (z1nx N) := zi mixed z16 (FnsOk.cons (zc5 N) (FnsOk.cons (z2f N) (FnsOk.cons (z4c N) (FnsOk.cons (z97 N) (FnsOk.nil))))) (ItsOk.nil)

def z9y (N : Nat) (s : (List UInt8)) (at_ : Int) (x4 : DT3) (k0 : Bool -> Option DT3) : Option DT3 :=
 cond (decide ((((List.length s) : Nat) : Int) <= at_))
 (k0 true)
 (cond (inR at_ (List.length s))
 ((z1x N (((UInt8.toNat (List.getD s (Int.toNat at_) (0 : UInt8))) : Nat) : Int) ([(91 : UInt8), (93 : UInt8), (45 : UInt8), (94 : UInt8)] : List UInt8)).bind fun y =>
 k0 y)
 (none))

def z1j6 (N : Nat) (x : z1a z195) (K : Ex -> List A -> Option DT3) : Option DT3 :=
 z9y N x.1 x.2.1 x.2.2.1 (fun a3 => (K .normal (mkS [(0, .v .str), (0, .v (.int .i64)), (2, .box TT2), (9, .v .bool)] 22 (x.1, x.2.1, x.2.2.1, a3, ()))))

def z1g0 (N : Nat) : Hd DT3 := fun st K => (unS z195 32 (restr [1, 0, 4] 0 st)).bind fun x => z1j6 N x K

def t2_48 (N : Nat) : Tab DT3 := []

theorem z1cj {N : Nat} {c : Ctx} (hb : Base Tryd.prog (z1nx N) c) : zk Tryd.prog c (zf znv [0, 0, 1]) (z1g0 N) :=
  zj (s := z195) (m := 32) (g := z1j6 N) [1, 0, 4] (ze hb N (t2_48 N) L_48 znv TabOk.nil [0, 0, 1] _ rfl) (fun x K => by kernel_rfl)

def z9z (N : Nat) (s : (List UInt8)) (at_ : Int) (x4 : DT3) (k0 : DT3 -> Option DT3) (k1 : Option DT3) : Option DT3 :=
 z9y N s at_ x4
 (fun x14 => cond x14
 ((z13 N s at_).bind fun y =>
 k0 y)
 (k1))

def z1k7 (N : Nat) (x : z1a z195) (K : Ex -> List A -> Option DT3) : Option DT3 :=
 z9z N x.1 x.2.1 x.2.2.1 (fun a0 => (K .ret (mkS [(4, .box TT2)] 32 (a0, ())))) (K .normal (mkS z195 32 (x.1, x.2.1, x.2.2.1, ())))

def z1h1 (N : Nat) : Hd DT3 := fun st K => (unS z195 32 (restr [1, 0, 4] 0 st)).bind fun x => z1k7 N x K

def t1_48 (N : Nat) : Tab DT3 := [([0, 0, 1], z1g0 N)]

theorem z1dk {N : Nat} {c : Ctx} (hb : Base Tryd.prog (z1nx N) c) : zk Tryd.prog c (zf znv [0, 1]) (z1h1 N) :=
  zj (s := z195) (m := 32) (g := z1k7 N) [1, 0, 4] (ze hb N (t1_48 N) L_48 znv (TabOk.cons (z1cj hb) TabOk.nil) [0, 1] _ rfl) (fun x K => by kernel_rfl)

def z55 (N : Nat) (s : (List UInt8)) (at_ : Int) : Option DT3 :=
 z9z N s at_ (((0 : Int), (([(0 : Int), (0 : Int), (0 : Int), (0 : Int)] : List Int), (([] : List Tree), ((0 : Int), ((0 : Int), ()))))), (([(0 : Int), (0 : Int), (0 : Int), (0 : Int)] : List Int), (false, ((0 : Int), (((0 : Int), ((0 : Int), ())), ())))))
 (fun x4 => some x4)
 (cond (inR at_ (List.length s))
 (cond ((((UInt8.toNat (List.getD s (Int.toNat at_) (0 : UInt8))) : Nat) : Int) == (92 : Int))
 ((z48 N s at_).bind fun y =>
 some y)
 (cond (inR at_ (List.length s))
 (cond (inR at_ (List.length s))
 ((zq N (IntKind.wrap IntKind.i64 (((UInt8.toNat (List.getD s (Int.toNat at_) (0 : UInt8))) : Nat) : Int)) (IntKind.wrap IntKind.i64 (((UInt8.toNat (List.getD s (Int.toNat at_) (0 : UInt8))) : Nat) : Int))).bind fun y1 =>
 some (((0 : Int), (([(0 : Int), (0 : Int), (0 : Int), (0 : Int)] : List Int), (([] : List Tree), ((0 : Int), ((0 : Int), ()))))), (y1, (false, ((IntKind.wrap IntKind.i64 (at_ + (1 : Int))), (((0 : Int), ((0 : Int), ())), ()))))))
 (none))
 (none)))
 (none))

def t_48 (N : Nat) : Tab DT3 := [([0, 1], z1h1 N)]

theorem z170 (N : Nat) (x : z1a zr6) : zas (z1nx N) N (t_48 N) L_48 Tryd.f72 (mkS zr6 0 x) (z6d (.v TT2) 2) = z55 N x.1 x.2.1 := by kernel_rfl

def zcm (N : Nat) : List A -> Res := z1b zr6 (fun x => z55 N x.1 x.2.1) (zb4 (.v TT2) 2)

theorem zin (N : Nat) : Contract Tryd.prog glob 72 (zcm N) :=
  Contract.of (E := z1nx N) (H := t_48 N) (L := L_48) (N := N) (body := znv) (K := (z6d (.v TT2) 2)) (z1mn N) Tryd.func72 (by kernel_rfl) (by decide) (fun _ hb => (TabOk.cons (z1dk hb) TabOk.nil)) (fun x y h => by rw [z170]; exact h) (z1p (s := (.v TT2)) (m := 2))

def zur : Code := (Tryd.f73.body).getD .skip

def L_49 : List (List Nat × List Nat) := [([0], [1]), ([0, 0, 1], [3, 1]), ([0, 1, 0, 1], [3, 1]), ([0, 0, 0, 0, 1, 0, 1], [5, 1, 3]), ([1, 0, 0, 0, 1, 0, 1], [1, 3]), ([1, 1, 0, 0, 0, 1, 0, 1], []), ([0, 0, 0, 1, 0, 0, 1, 0, 1], [10, 3, 1]), ([1, 0, 0, 1, 0, 0, 1, 0, 1], [3, 1]), ([0, 0, 1, 0, 0, 1, 0, 0, 1, 0, 1], [2]), ([1, 0, 1, 0, 0, 1, 0, 0, 1, 0, 1], [2]), (z14w, [3, 1]), ([1, 1, 0, 0, 1, 0, 1], [3, 1]), ([1, 0, 1], []), ([0, 1, 1], [2]), ([1, 1, 1], [2])]

def E_49 (N : Nat) : Env := z27 tys glob [(71, z4x N)] [] [] [] false [] []

theorem z1mm (N : Nat) : EnvOk Tryd.prog (E_49 N) := zi mixed z16 (FnsOk.cons (z7l N) (FnsOk.nil)) (ItsOk.nil)

def z3e (N : Nat) (s : (List Int)) (b : Int) (rec : Int -> Option Int) (k0 : Int -> Option Int) (k1 : Option Int) : Option Int :=
 cond (decide (b < (256 : Int)))
 ((z3y N s b).bind fun y =>
 cond y
 (k0 b)
 (rec (IntKind.wrap IntKind.i64 (b + (1 : Int)))))
 (k1)

def z9a (N : Nat) (s : (List Int)) (b : Int) (k0 : Int -> Option Int) (k1 : Option Int) : Option Int :=
 iter (fun (v : Int) r => z3e N s v (fun b => (r b)) k0 k1) N b

def z1k6 (N : Nat) (i : (List Int)) (v : Int) (r : Int -> Option Int) (K : Ex -> List A -> Option Int) : Option Int :=
 z3e N i v (fun b => (r b)) (fun a0 => (K .ret (mkS [(2, .v (.int .i64))] 9 (a0, ())))) (K (.exit 0) (mkS [] 12 ()))

def z1h0 (N : Nat) : Hd Int := fun st K => (unS z1lb 8 (restr [3, 1] 0 st)).bind fun x => iter (fun v r => z1k6 N ((fun x => x.1) x) v r K) N ((fun x => x.2.1) x)

def t1_49 (N : Nat) : Tab Int := []

theorem z1dj {N : Nat} {c : Ctx} (hb : Base Tryd.prog (E_49 N) c) : zk Tryd.prog c (zf zur [0, 1, 0, 1]) (z1h0 N) :=
  z4k (s := z1lb) (m := 8) (z1k6 N) [3, 1] N (fun x => x.1) (fun x => x.2.1) (fun i v => (i, v, ())) (fun _ => rfl) (ze hb N (t1_49 N) L_49 zur TabOk.nil [0, 0, 1, 0, 1] _ rfl) (fun i v r K => by kernel_rfl)

def z31 (N : Nat) (s : (List Int)) : Option Int :=
 z9a N s (0 : Int)
 (fun x2 => some x2)
 (some (-(1 : Int)))

def t_49 (N : Nat) : Tab Int := [([0, 1, 0, 1], z1h0 N)]

theorem z16z (N : Nat) (x : z1a zvd) : zas (E_49 N) N (t_49 N) L_49 Tryd.f73 (mkS zvd 0 x) (z6d (.v (.int .i64)) 1) = z31 N x.1 := by kernel_rfl

def zc9 (N : Nat) : List A -> Res := z1b zvd (fun x => z31 N x.1) (zb4 (.v (.int .i64)) 1)

theorem zi5 (N : Nat) : Contract Tryd.prog glob 73 (zc9 N) :=
  Contract.of (E := E_49 N) (H := t_49 N) (L := L_49) (N := N) (body := zur) (K := (z6d (.v (.int .i64)) 1)) (z1mm N) Tryd.func73 (by kernel_rfl) (by decide) (fun _ hb => (TabOk.cons (z1dj hb) TabOk.nil)) (fun x y h => by rw [z16z]; exact h) (z1p (s := (.v (.int .i64))) (m := 1))

def zg6 : Code := (Tryd.f62.body).getD .skip

def z1ai : List (List Nat × List Nat) := [([0], [0, 1, 4]), ([0, 1], [5, 0, 4]), ([0, 0, 1, 1], [26, 5, 4, 0]), ([1, 0, 1, 1], [0, 5, 4]), ([0, 0, 1, 0, 1, 1], [4]), ([1, 0, 1, 0, 1, 1], [4]), ([0, 1, 1, 1], [6, 4, 5]), ([0, 0, 1, 1, 1, 1], [36, 6, 4, 5]), ([1, 0, 1, 1, 1, 1], [5, 6, 4]), (z11x, [4]), (z14y, [4]), ([0, 1, 1, 1, 1, 1], [6, 8, 7, 5, 4]), (zyh, [50, 5, 4, 7, 8, 6]), (z19b, [7, 8, 6, 4]), (z1li, [4]), (z1lh, [4]), (z11y, [4]), (z13l, [4])]

def z19j (N : Nat) : Env := z27 tys glob [(73, zc9 N), (72, zcm N), (48, z1u N), (29, z47 N), (31, z2s N)] [] [] [] false [] []

theorem z1ml (N : Nat) : EnvOk Tryd.prog (z19j N) := zi mixed z16 (FnsOk.cons (zi5 N) (FnsOk.cons (zin N) (FnsOk.cons (z2f N) (FnsOk.cons (z62 N) (FnsOk.cons (z49 N) (FnsOk.nil)))))) (ItsOk.nil)

def za4 (N : Nat) (s : (List UInt8)) (x4 : DT3) (a : DT3) (k0 : Bool -> Option DT3) : Option DT3 :=
 cond (a.2.2.2.2.1.1 != (0 : Int))
 (k0 true)
 (cond a.2.2.1
 (k0 true)
 ((z1m N s a.2.2.2.1 (45 : Int)).bind fun y =>
 k0 (!y)))

def z1j5 (N : Nat) (x : z1a z194) (K : Ex -> List A -> Option DT3) : Option DT3 :=
 za4 N x.1 x.2.1 x.2.2.1 (fun a3 => (K .normal (mkS [(0, .v .str), (3, .box TT2), (0, .box TT2), (20, .v .bool)] 34 (x.1, x.2.1, x.2.2.1, a3, ()))))

def z1fz (N : Nat) : Hd DT3 := fun st K => (unS z194 55 (restr [5, 0, 4] 0 st)).bind fun x => z1j5 N x K

def t2_50 (N : Nat) : Tab DT3 := []

theorem z1ci {N : Nat} {c : Ctx} (hb : Base Tryd.prog (z19j N) c) : zk Tryd.prog c (zf zg6 [0, 0, 1, 1]) (z1fz N) :=
  zj (s := z194) (m := 55) (g := z1j5 N) [5, 0, 4] (ze hb N (t2_50 N) z1ai zg6 TabOk.nil [0, 0, 1, 1] _ rfl) (fun x K => by kernel_rfl)

def za5 (N : Nat) (s : (List UInt8)) (x4 : DT3) (a : DT3) (k0 : Option DT3) (k1 : Option DT3) : Option DT3 :=
 za4 N s x4 a
 (fun x26 => cond x26
 (k0)
 (k1))

def z1k5 (N : Nat) (x : z1a z194) (K : Ex -> List A -> Option DT3) : Option DT3 :=
 za5 N x.1 x.2.1 x.2.2.1 (K .ret (mkS [(4, .box TT2)] 56 (x.2.2.1, ()))) (K .normal (mkS z194 55 (x.1, x.2.1, x.2.2.1, ())))

def z1gz (N : Nat) : Hd DT3 := fun st K => (unS z194 55 (restr [5, 0, 4] 0 st)).bind fun x => z1k5 N x K

def t1_50 (N : Nat) : Tab DT3 := [([0, 0, 1, 1], z1fz N)]

theorem z1di {N : Nat} {c : Ctx} (hb : Base Tryd.prog (z19j N) c) : zk Tryd.prog c (zf zg6 [0, 1, 1]) (z1gz N) :=
  zj (s := z194) (m := 55) (g := z1k5 N) [5, 0, 4] (ze hb N (t1_50 N) z1ai zg6 (TabOk.cons (z1ci hb) TabOk.nil) [0, 1, 1] _ rfl) (fun x K => by kernel_rfl)

def za2 (N : Nat) (x4 : DT3) (a : DT3) (b : DT3) (lo : Int) (hi : Int) (k0 : Bool -> Option DT3) : Option DT3 :=
 cond b.2.2.1
 (k0 true)
 (k0 (decide (hi < lo)))

def z1i7 (N : Nat) (x : z1a z1a3) (K : Ex -> List A -> Option DT3) : Option DT3 :=
 za2 N x.1 x.2.1 x.2.2.1 x.2.2.2.1 x.2.2.2.2.1 (fun a5 => (K .normal (mkS [(4, .box TT2), (0, .box TT2), (0, .box TT2), (0, .v (.int .i64)), (0, .v (.int .i64)), (41, .v .bool)] 10 (x.1, x.2.1, x.2.2.1, x.2.2.2.1, x.2.2.2.2.1, a5, ()))))

def z1f1 (N : Nat) : Hd DT3 := fun st K => (unS z1a3 52 (restr [6, 8, 7, 5, 4] 0 st)).bind fun x => z1i7 N x K

def t4_50 (N : Nat) : Tab DT3 := []

theorem z1bk {N : Nat} {c : Ctx} (hb : Base Tryd.prog (z19j N) c) : zk Tryd.prog c (zf zg6 zyh) (z1f1 N) :=
  zj (s := z1a3) (m := 52) (g := z1i7 N) [6, 8, 7, 5, 4] (ze hb N (t4_50 N) z1ai zg6 TabOk.nil zyh _ rfl) (fun x K => by kernel_rfl)

def za3 (N : Nat) (x4 : DT3) (a : DT3) (b : DT3) (lo : Int) (hi : Int) (k0 : DT3 -> Option DT3) (k1 : Option DT3) : Option DT3 :=
 za2 N x4 a b lo hi
 (fun x50 => cond x50
 (k0 (((0 : Int), (([(0 : Int), (0 : Int), (0 : Int), (0 : Int)] : List Int), (([] : List Tree), ((0 : Int), ((0 : Int), ()))))), (([(0 : Int), (0 : Int), (0 : Int), (0 : Int)] : List Int), (false, ((0 : Int), (((2 : Int), ((IntKind.wrap IntKind.i64 (a.2.2.2.1 + (1 : Int))), ())), ()))))))
 (k1))

def z1ij (N : Nat) (x : z1a z1a3) (K : Ex -> List A -> Option DT3) : Option DT3 :=
 za3 N x.1 x.2.1 x.2.2.1 x.2.2.2.1 x.2.2.2.2.1 (fun a0 => (K .ret (mkS [(4, .box TT2)] 56 (a0, ())))) (K .normal (mkS [(4, .box TT2), (1, .box TT2), (0, .v (.int .i64)), (0, .v (.int .i64))] 52 (x.1, x.2.2.1, x.2.2.2.1, x.2.2.2.2.1, ())))

def z1fd (N : Nat) : Hd DT3 := fun st K => (unS z1a3 52 (restr [6, 8, 7, 5, 4] 0 st)).bind fun x => z1ij N x K

def t3_50 (N : Nat) : Tab DT3 := [(zyh, z1f1 N)]

theorem z1bw {N : Nat} {c : Ctx} (hb : Base Tryd.prog (z19j N) c) : zk Tryd.prog c (zf zg6 zr7) (z1fd N) :=
  zj (s := z1a3) (m := 52) (g := z1ij N) [6, 8, 7, 5, 4] (ze hb N (t3_50 N) z1ai zg6 (TabOk.cons (z1bk hb) TabOk.nil) zr7 _ rfl) (fun x K => by kernel_rfl)

def z4b (N : Nat) (s : (List UInt8)) (at_ : Int) : Option DT3 :=
 (z55 N s at_).bind fun y =>
 za5 N s (((0 : Int), (([(0 : Int), (0 : Int), (0 : Int), (0 : Int)] : List Int), (([] : List Tree), ((0 : Int), ((0 : Int), ()))))), (([(0 : Int), (0 : Int), (0 : Int), (0 : Int)] : List Int), (false, ((0 : Int), (((0 : Int), ((0 : Int), ())), ()))))) y
 (some y)
 ((z55 N s (IntKind.wrap IntKind.i64 (y.2.2.2.1 + (1 : Int)))).bind fun y1 =>
 cond (y1.2.2.2.2.1.1 != (0 : Int))
 (some y1)
 ((z31 N y.2.1).bind fun y2 =>
 (z31 N y1.2.1).bind fun y3 =>
 za3 N (((0 : Int), (([(0 : Int), (0 : Int), (0 : Int), (0 : Int)] : List Int), (([] : List Tree), ((0 : Int), ((0 : Int), ()))))), (([(0 : Int), (0 : Int), (0 : Int), (0 : Int)] : List Int), (false, ((0 : Int), (((0 : Int), ((0 : Int), ())), ()))))) y y1 y2 y3
 (fun x4 => some x4)
 ((zq N y2 y3).bind fun y4 =>
 some (((0 : Int), (([(0 : Int), (0 : Int), (0 : Int), (0 : Int)] : List Int), (([] : List Tree), ((0 : Int), ((0 : Int), ()))))), (y4, (false, (y1.2.2.2.1, (((0 : Int), ((0 : Int), ())), ()))))))))

def t_50 (N : Nat) : Tab DT3 := [([0, 1, 1], z1gz N), (zr7, z1fd N)]

theorem z16y (N : Nat) (x : z1a zr6) : zas (z19j N) N (t_50 N) z1ai Tryd.f62 (mkS zr6 0 x) (z6d (.v TT2) 2) = z4b N x.1 x.2.1 := by kernel_rfl

def zcn (N : Nat) : List A -> Res := z1b zr6 (fun x => z4b N x.1 x.2.1) (zb4 (.v TT2) 2)

end
end Go.Proofs.YtbfmhambfonpcaaDoorLg
