import Derived.Test.YtmeecjkimeiogaaDoorLgPrSm1
import Derived.Test.YtmeecjkimeiogaaDoorLgW
import Derived.Test.YtmeecjkimeiogaaDoorChecked
import Derived.Shelf.Strings.Search1
import Derived.KernelRfl
import Derived.Test.YtmeecjkimeiogaaDoorLgOr
set_option linter.all false
namespace Go.Proofs.YtmeecjkimeiogaaDoorLg
noncomputable section
open Go Go.Lift Go.Proofs Go.Shelf

def zqo : Go.Shelf.Ren := ⟨fun | 217 => 95 | 266 => 99 | n => n, fun | 9 => 9 | 5 => 5 | 3 => 3 | n => n, fun | n => n⟩
theorem z12i : Lays.n217 Tryd.prog zqo where
  mixed := by kernel_rfl
  f217 := Tryd.func95.trans (congrArg some (by kernel_rfl))
  f266 := Tryd.func99.trans (congrArg some (by kernel_rfl))
  t3 := Tryd.underlying3
  a3 := Tryd.isAgg3
  z3 := Tryd.sizeOf3
  v3 := Tryd.zeroValue3
  t5 := Tryd.underlying5
  a5 := Tryd.isAgg5
  z5 := Tryd.sizeOf5
  v5 := Tryd.zeroValue5
  t9 := Tryd.underlying9
  a9 := Tryd.isAgg9
  z9 := Tryd.sizeOf9
  v9 := Tryd.zeroValue9

def z186 (x : z17 [(0, .v .str), (0, .v (.int .u8))]) : Option Int := some (Lib.indexByte x.1 x.2.1.toNat.toUInt8)

def zw9 : List A -> Res := z13 [(0, .v .str), (0, .v (.int .u8))] z186 (zbr (.v (.int .i64)) 2)

theorem z185 (glob : Nat -> Option Dat) : Contract Tryd.prog glob 95 zw9 := by
  refine Contract.hand ⟨_, Tryd.func95, by kernel_rfl, by decide⟩ ?_
  intro w S vals ob x y har hS hg hy
  obtain ⟨s, c, u⟩ := x
  cases u
  unfold z186 at hy
  dsimp only at hy s c
  cases hy
  obtain ⟨⟨v0, hv0, hA0, ho0⟩, _⟩ := har.rel 0 _ rfl
  obtain ⟨⟨v1, hv1, hA1, ho1⟩, _⟩ := har.rel 1 _ rfl
  have hlen := har.len
  obtain ⟨u0, u1, rfl⟩ : ∃ u0 u1, vals = [u0, u1] := by
    have : vals.length = 2 := by simpa [mkS, zef] using hlen.symm
    match vals, this with
    | [a, b], _ => exact ⟨a, b, rfl⟩
  simp at hv0 hv1
  subst hv0; subst hv1
  have e0 := hA0.str_inv
  subst e0
  have e1 := hA1.int_inv
  subst e1
  have hnone : ∀ i, ob i = [] := by
    intro i
    match i with
    | 0 => exact ho0
    | 1 => exact ho1
    | i + 2 => exact har.out _ (by simp [mkS, zef])
  refine (Any.stringslite_IndexByte z12i ⟨⟨s⟩⟩ c w).mono ?_
  rintro e w' ⟨rfl, rfl⟩
  refine ⟨_, S, [], ob, rfl, WF.refl _ _, Lift.Sub.refl _, hS, fun k hk => .inl hk, ⟨⟨VR.int, rfl⟩, rfl⟩, (fun k hk => by cases hk), .nil, ?_, ?_, har.inj, har.nd, fun i hi => hi⟩
  . intro i z hz hbx
    match i with
    | 0 => simp [mkS, zef, AS.mk] at hz; subst hz; cases hbx
    | 1 => simp [mkS, zef, AS.mk] at hz; subst hz; cases hbx
    | i + 2 => simp [mkS, zef] at hz
  . intro i k hk
    rw [hnone i] at hk; cases hk

end
end Go.Proofs.YtmeecjkimeiogaaDoorLg

set_option linter.all false
set_option maxRecDepth 100000
namespace Go.Proofs.YtmeecjkimeiogaaDoorLg
noncomputable section
open Go Go.Lift

abbrev TT0 : T := (.pair (.int .i64) (.pair (.int .i64) .unit))

abbrev TT1 : T := (.pair (.int .i64) (.pair (.arr 4 (.int .u64)) (.pair (.sl .nod) TT0)))

abbrev DT2 : Type := ((List UInt8) × (Int × (Int × Unit)))

abbrev TT3 : T := (.pair (.sl (.arr 4 (.int .u64))) (.pair .bool (.pair (.sl (.int .i64)) (.pair (.sl (.int .i64)) (.pair (.sl (.sl (.int .i64))) .unit)))))

abbrev DT4 : Type := (Int × ((List Int) × ((List Tree) × (Int × (Int × Unit)))))

abbrev DT5 : Type := ((Bool × ((List Int) × ((List Int) × Unit))) × (((List (List Int)) × ((List (List Int)) × Unit)) × Unit))

abbrev TT6 : T := (.pair .bool (.pair (.sl (.int .i64)) (.pair (.sl (.int .i64)) .unit)))

abbrev DT7 : Type := ((List (List Int)) × (Bool × ((List Int) × ((List Int) × ((List (List Int)) × Unit)))))

abbrev TT8 : T := (.pair (.own (.arr 4 (.int .u64))) (.pair (.own (.sl (.int .i64))) .unit))

abbrev DT9 : Type := ((List (List Int)) × ((List (List Int)) × Unit))

abbrev z42 : Type := (Bool × ((List Int) × ((List Int) × Unit)))

abbrev zk9 : Type := (((List Int) × Bool × Unit) × (DT2 × Unit))

abbrev ze3 : Type := ((List Int) × (DT2 × Unit))

abbrev zt7 : Type := (Int × ((List Int) × ((List Tree) × (Int × (Int × Unit)))))

abbrev zue : List Nat := [1, 0, 1, 0, 1, 1, 1]

abbrev z137 : List Nat := [1, 1, 1, 1, 1, 1, 1]

abbrev z138 : List Nat := [16, 15, 14, 7, 3, 2]

abbrev z139 : List Nat := [52, 51, 50, 0, 6, 4]

abbrev z13a : List Nat := [70, 69, 68, 9, 0, 4]

abbrev z13b : List Nat := [0, 1, 0, 1, 1, 1, 1]

abbrev zzn : List Nat := [0, 1, 0, 0, 1, 0, 1]

abbrev zys : List Nat := [16, 15, 14, 2, 5, 6]

abbrev zxh : List Nat := [0, 0, 1, 0, 1, 1, 1]

abbrev zx1 : List Nat := [0, 1, 1, 1, 1, 1, 1]

abbrev zx2 : List Nat := [1, 0, 1, 1, 1, 1, 1]

abbrev zm0 : List Nat := [0, 0, 1, 1, 1, 1, 1]

abbrev zx4 : List Nat := [1, 0, 0, 0, 1, 1, 1, 1]

abbrev zx5 : List Nat := [1, 1, 0, 0, 0, 0, 1, 1]

abbrev zx6 : List Nat := [1, 0, 1, 1, 1, 1, 1, 1]

abbrev zx7 : List Nat := [0, 0, 1, 1, 1, 1, 1, 1]

abbrev z140 : List Nat := [0, 0, 0, 0, 1, 1, 1, 1]

abbrev z13c : List Nat := [79, 78, 77, 0, 9, 7, 4]

abbrev z13d : List Nat := [0, 1, 1, 0, 1, 0, 1, 1]

abbrev zzo : List Nat := [1, 1, 1, 1, 1, 1, 1, 1]

abbrev zx3 : List Nat := [0, 1, 1, 1, 1, 1, 1, 1]

abbrev zug : List Nat := [0, 1, 0, 1, 1, 1, 1, 1]

abbrev zuh : List Nat := [0, 1, 0, 0, 1, 0, 1, 1]

abbrev zx8 : List Nat := [0, 0, 0, 1, 0, 0, 1, 0, 1]

abbrev zx9 : List Nat := [1, 0, 0, 0, 0, 1, 1, 1, 1]

abbrev zxa : List Nat := [0, 0, 0, 0, 0, 1, 1, 1, 1]

abbrev zxb : List Nat := [0, 0, 1, 0, 1, 1, 1, 1, 1]

abbrev zxc : List Nat := [1, 1, 1, 0, 0, 1, 0, 1, 1]

abbrev zxd : List Nat := [0, 1, 1, 0, 0, 1, 0, 1, 1]

abbrev zxe : List Nat := [1, 0, 1, 0, 0, 1, 0, 1, 1]

abbrev zzp : List Nat := [0, 1, 0, 1, 1, 1, 1, 1, 1]

abbrev zyp : List (Nat × AS) := [(0, .v TT3), (0, .v .str)]

abbrev zwz : List (Nat × AS) := [(0, .box TT8), (0, .v TT1)]

abbrev SQ0 : List (Nat × AS) := [(0, .box (.pair .str TT0))]

abbrev zzh : List (Nat × AS) := [(1, .v .str), (0, .box TT3)]

abbrev zyt : List Nat := [1, 0, 1, 0, 0, 1, 0, 1, 1, 1]

abbrev z1e7 : List Nat := [0, 0, 0, 1, 0, 0, 1, 0, 1, 1]

abbrev z1e8 : List Nat := [1, 1, 0, 0, 0, 0, 1, 1, 1, 1]

abbrev zyq : List (Nat × AS) := [(0, .v (.arr 4 (.int .u64)))]

abbrev z1e9 : List Nat := [0, 0, 0, 1, 1, 0, 0, 1, 0, 1, 1]

abbrev zzq : List Nat := [29, 28, 27, 5, 6, 16, 15, 14, 2]

abbrev z1ea : List Nat := [0, 1, 0, 0, 1, 1, 0, 0, 1, 0, 1, 1]

abbrev z136 : List (Nat × AS) := [(1, .box TT3), (1, .v (.int .i64))]

abbrev zzi : List (Nat × AS) := [(1, .box TT1), (1, .v (.int .i64))]

abbrev PQ88 : List Nat := [0, 0, 1, 0, 0, 1, 1, 0, 0, 1, 0, 1, 1]

abbrev z141 : List Nat := [0, 1, 1, 1, 1, 1, 1, 1, 1, 0, 1, 1, 1]

abbrev z13e : List Nat := [0, 1, 0, 1, 0, 1, 1, 1, 1, 1, 0, 1, 0, 1]

abbrev zzr : List Nat := [0, 0, 0, 0, 0, 0, 0, 0, 1, 0, 1, 1, 1, 1]

abbrev zud : List (Nat × AS) := [(0, .v (.int .i64)), (0, .v (.int .i64))]

abbrev zzj : List (Nat × AS) := [(0, .box (.pair .str TT0)), (1, .box TT1)]

abbrev z13f : List Nat := [0, 1, 1, 1, 0, 0, 1, 1, 0, 0, 1, 0, 1, 1, 1]

abbrev PQ98 : List Nat := [0, 1, 0, 1, 0, 0, 1, 0, 0, 1, 0, 1, 1, 1, 1, 1]

abbrev z13q : List (Nat × AS) := [(0, .v (.sl (.int .i64))), (0, .v (.int .i64))]

abbrev SQ7 : List (Nat × AS) := [(0, .box (.pair .str TT0)), (0, .v (.int .u8))]

abbrev z13r : List (Nat × AS) := [(0, .box (.pair .str TT0)), (0, .v (.int .i64))]

abbrev zzk : List (Nat × AS) := [(0, .box (.pair .str TT0)), (2, .v (.int .i64))]

abbrev z13s : List (Nat × AS) := [(0, .v (.arr 4 (.int .u64))), (0, .v (.int .u8))]

abbrev PQ90 : List Nat := [0, 1, 1, 1, 1, 0, 0, 1, 0, 0, 1, 0, 1, 1, 1, 1, 1]

abbrev SQ89 : List (Nat × AS) := [(0, .v (.arr 4 (.int .u64))), (0, .v (.int .i64))]

abbrev SQ87 : List (Nat × AS) := [(1, .box (.arr 4 (.int .u64))), (1, .v (.int .i64))]

abbrev SQ86 : List (Nat × AS) := [(0, .v (.sl (.int .i64))), (0, .v (.sl (.int .i64)))]

abbrev PQ56 : List Nat := [0, 1, 0, 0, 1, 0, 1, 0, 0, 1, 0, 0, 1, 0, 1, 1, 1, 1, 1]

abbrev z13t : List (Nat × AS) := [(0, .box (.pair .str TT0)), (1, .box TT1), (1, .box TT1)]

abbrev SQ3 : List (Nat × AS) := [(0, .box (.pair .str TT0)), (1, .box TT1), (0, .row TT1)]

abbrev SQ79 : List (Nat × AS) := [(0, .v (.arr 4 (.int .u64))), (0, .v (.arr 4 (.int .u64)))]

abbrev SQ78 : List (Nat × AS) := [(0, .v TT3), (0, .v (.sl (.int .i64))), (0, .v (.int .u8))]

abbrev SQ77 : List (Nat × AS) := [(0, .box TT8), (2, .box TT1), (0, .box TT6), (1, .row TT6)]

abbrev SQ76 : List (Nat × AS) := [(0, .box TT8), (3, .box TT6), (0, .box TT6), (0, .box TT6)]

abbrev zzl : List (Nat × AS) := [(0, .box (.pair .str TT0)), (1, .box TT1), (0, .v (.int .u8))]

abbrev SQ67 : List (Nat × AS) := [(0, .box TT8), (0, .v (.sl (.int .i64))), (0, .v (.sl (.int .i64)))]

abbrev zx0 : List (Nat × AS) := [(0, .v (.sl (.int .i64))), (0, .v (.int .i64)), (3, .v (.int .i64))]

abbrev SQ9 : List (Nat × AS) := [(0, .box (.pair .str TT0)), (0, .v (.int .i64)), (3, .v (.int .u8))]

abbrev SQ40 : List (Nat × AS) := [(0, .box (.pair .str TT0)), (1, .v (.int .i64)), (0, .v (.int .i64))]

abbrev SQ1 : List (Nat × AS) := [(0, .box (.pair .str TT0)), (2, .v (.int .i64)), (0, .v (.int .i64))]

abbrev SQ58 : List (Nat × AS) := [(0, .v (.sl (.int .i64))), (0, .v (.sl (.int .i64))), (0, .v (.int .i64))]

abbrev SQ34 : List (Nat × AS) := [(0, .box (.pair .str TT0)), (1, .box (.arr 4 (.int .u64))), (0, .v .bool)]

abbrev z1e4 : List (Nat × AS) := [(0, .box TT8), (2, .box TT1), (0, .box TT6), (1, .row TT6), (0, .box TT6)]

abbrev z1e5 : List (Nat × AS) := [(0, .box TT8), (3, .box TT6), (0, .box TT6), (0, .box TT6), (0, .box TT6)]

abbrev SQ8 : List (Nat × AS) := [(0, .v (.sl (.int .i64))), (0, .v (.sl (.int .i64))), (3, .row (.int .i64))]

abbrev zzm : List (Nat × AS) := [(0, .box (.pair .str TT0)), (1, .box (.arr 4 (.int .u64))), (1, .v (.int .u8))]

abbrev SQ81 : List (Nat × AS) := [(0, .box (.pair .str TT0)), (2, .v (.int .i64)), (0, .v (.int .i64)), (70, .v .bool)]

abbrev SQ75 : List (Nat × AS) := [(5, .v (.sl .bool)), (33, .v (.sl (.int .i64))), (0, .v (.int .i64)), (0, .v (.int .i64))]

abbrev SQ5 : List (Nat × AS) := [(0, .box (.pair .str TT0)), (1, .v (.int .i64)), (0, .v (.int .i64)), (0, .v (.int .i64))]

abbrev SQ74 : List (Nat × AS) := [(0, .box (.pair .str TT0)), (1, .box (.arr 4 (.int .u64))), (0, .box (.arr 4 (.int .u64)))]

abbrev SQ73 : List (Nat × AS) := [(1, .v .str), (0, .box TT3), (2, .v (.sl .bool)), (18, .v (.int .i64)), (0, .v (.int .i64))]

abbrev z13u : List (Nat × AS) := [(0, .box (.pair .str TT0)), (1, .box TT1), (0, .box TT1), (0, .box TT1), (24, .v (.int .u8))]

abbrev SQ71 : List (Nat × AS) := [(0, .box (.pair .str TT0)), (1, .box (.arr 4 (.int .u64))), (1, .v (.int .u8)), (9, .v .bool)]

abbrev SQ69 : List (Nat × AS) := [(0, .box TT8), (2, .box TT1), (0, .box TT6), (1, .row TT6), (0, .box TT6), (0, .v (.int .i64))]

abbrev SQ68 : List (Nat × AS) := [(1, .box TT1), (1, .v (.int .i64)), (6, .v (.sl .nod)), (0, .v (.int .i64)), (0, .v (.int .i64))]

abbrev SQ21 : List (Nat × AS) := [(0, .v (.sl (.int .i64))), (0, .v (.sl (.int .i64))), (3, .row (.int .i64)), (0, .v (.int .i64))]

abbrev SQ33 : List (Nat × AS) := [(1, .v .str), (0, .box TT3), (2, .v (.sl (.int .i64))), (0, .row (.int .i64)), (0, .v (.int .i64))]

abbrev z13v : List (Nat × AS) := [(0, .box (.pair .str TT0)), (1, .box (.arr 4 (.int .u64))), (1, .v (.int .u8)), (2, .v (.int .u8))]

abbrev z13w : List (Nat × AS) := [(0, .box (.pair .str TT0)), (1, .box (.arr 4 (.int .u64))), (1, .v (.int .i64)), (0, .v (.int .u8))]

abbrev SQ65 : List (Nat × AS) := [(1, .v (.int .u8)), (2, .box (.arr 4 (.int .u64))), (0, .box (.arr 4 (.int .u64))), (0, .v (.int .i64))]

abbrev SQ64 : List (Nat × AS) := [(1, .box TT3), (2, .v (.int .i64)), (2, .v (.sl (.int .i64))), (0, .v (.int .i64)), (0, .v (.int .i64))]

abbrev z13x : List (Nat × AS) := [(0, .box (.pair .str TT0)), (1, .box (.arr 4 (.int .u64))), (0, .v .bool), (0, .box (.arr 4 (.int .u64)))]

abbrev SQ4 : List (Nat × AS) := [(0, .box (.pair .str TT0)), (1, .box (.arr 4 (.int .u64))), (0, .box (.arr 4 (.int .u64))), (0, .v .bool)]

abbrev SQ62 : List (Nat × AS) := [(0, .box (.pair .str TT0)), (1, .box (.arr 4 (.int .u64))), (0, .box (.arr 4 (.int .u64))), (13, .v .bool)]

abbrev SQ61 : List (Nat × AS) := [(0, .box TT8), (3, .box TT6), (4, .box TT6), (58, .v (.sl .nod)), (0, .v (.int .i64)), (0, .v (.int .i64))]

abbrev SQ60 : List (Nat × AS) := [(0, .box TT8), (3, .box TT6), (1, .box TT6), (43, .v (.sl .nod)), (0, .v (.int .i64)), (0, .v (.int .i64))]

abbrev SQ59 : List (Nat × AS) := [(0, .box TT8), (1, .v (.sl (.int .i64))), (5, .v (.sl (.int .i64))), (0, .v (.int .i64)), (0, .v (.int .i64))]

abbrev SQ57 : List (Nat × AS) := [(0, .v (.int .i64)), (3, .box TT1), (0, .row TT1), (2, .v (.sl .nod)), (0, .v (.int .i64)), (0, .v (.int .i64))]

abbrev SQ51 : List (Nat × AS) := [(2, .box (.arr 4 (.int .u64))), (0, .box (.arr 4 (.int .u64))), (0, .box (.arr 4 (.int .u64))), (1, .v (.int .i64))]

abbrev SQ26 : List (Nat × AS) := [(2, .box TT3), (2, .row .bool), (0, .row (.int .i64)), (7, .v (.sl .bool)), (0, .v (.int .i64)), (0, .v (.int .i64))]

abbrev SQ6 : List (Nat × AS) := [(0, .v (.sl (.int .i64))), (0, .v (.sl (.int .i64))), (0, .v (.int .i64)), (4, .row (.int .i64)), (0, .v (.int .i64))]

abbrev SQ50 : List (Nat × AS) := [(0, .v .str), (1, .box (.arr 4 (.int .u64))), (0, .box (.arr 4 (.int .u64))), (2, .v (.int .i64)), (0, .v (.int .i64))]

abbrev SQ49 : List (Nat × AS) := [(1, .v .str), (0, .box TT3), (2, .v (.sl (.int .i64))), (0, .row (.int .i64)), (0, .v (.int .i64)), (1, .v (.int .i64))]

abbrev SQ48 : List (Nat × AS) := [(2, .v (.int .u8)), (0, .box TT3), (3, .row .bool), (6, .v (.sl (.int .i64))), (0, .v (.int .i64)), (0, .v (.int .i64))]

abbrev z13y : List (Nat × AS) := [(1, .v .str), (0, .box TT3), (2, .v (.sl (.int .i64))), (0, .row (.int .i64)), (0, .v (.int .i64)), (0, .v (.int .i64))]

abbrev SQ46 : List (Nat × AS) := [(0, .box TT8), (3, .box TT6), (2, .box TT6), (1, .box TT6), (67, .v (.sl TT6)), (0, .v (.int .i64)), (0, .v (.int .i64))]

abbrev SQ45 : List (Nat × AS) := [(0, .box (.pair .str TT0)), (1, .box (.arr 4 (.int .u64))), (0, .box (.arr 4 (.int .u64))), (2, .box (.arr 4 (.int .u64)))]

abbrev z13z : List (Nat × AS) := [(1, .box TT3), (2, .v (.int .i64)), (1, .v (.int .i64)), (0, .v (.sl (.int .i64))), (0, .v (.int .i64)), (0, .v (.int .i64))]

abbrev SQ2 : List (Nat × AS) := [(0, .box (.pair .str TT0)), (1, .box (.arr 4 (.int .u64))), (0, .box (.arr 4 (.int .u64))), (0, .v .bool), (0, .v (.int .i64)), (0, .box (.arr 4 (.int .u64)))]

abbrev SQ30 : List (Nat × AS) := [(0, .box (.pair .str TT0)), (1, .box (.arr 4 (.int .u64))), (0, .box (.arr 4 (.int .u64))), (1, .v (.int .i64)), (0, .box (.arr 4 (.int .u64))), (28, .v .bool)]

abbrev SQ23 : List (Nat × AS) := [(2, .box TT3), (2, .row .bool), (0, .row (.int .i64)), (7, .v (.sl .bool)), (0, .v (.int .i64)), (0, .v (.int .i64)), (10, .v (.sl (.int .i64))), (0, .v (.int .i64)), (0, .v (.int .i64))]

def ty3 : TyI := ⟨(Go.TypeDesc.int IntKind.i64), 1, 8, (.int .i64), (0 : Int), false⟩

theorem z14i : TyOk Tryd.prog 3 ty3 := TyOk.of (by kernel_rfl) (by kernel_rfl) (by kernel_rfl) (by kernel_rfl)

def ty4 : TyI := ⟨Go.TypeDesc.bool, 1, 1, .bool, false, false⟩

theorem z14h : TyOk Tryd.prog 4 ty4 := TyOk.of (by kernel_rfl) (by kernel_rfl) (by kernel_rfl) (by kernel_rfl)

def ty5 : TyI := ⟨(Go.TypeDesc.int IntKind.u8), 1, 1, (.int .u8), (0 : Int), false⟩

theorem z14g : TyOk Tryd.prog 5 ty5 := TyOk.of (by kernel_rfl) (by kernel_rfl) (by kernel_rfl) (by kernel_rfl)

def ty9 : TyI := ⟨Go.TypeDesc.string, 1, 16, .str, ([] : List UInt8), false⟩

theorem z14f : TyOk Tryd.prog 9 ty9 := TyOk.of (by kernel_rfl) (by kernel_rfl) (by kernel_rfl) (by kernel_rfl)

def ty22 : TyI := ⟨(Go.TypeDesc.int IntKind.u64), 1, 8, (.int .u64), (0 : Int), false⟩

theorem z10h : TyOk Tryd.prog 22 ty22 := TyOk.of (by kernel_rfl) (by kernel_rfl) (by kernel_rfl) (by kernel_rfl)

def ty24 : TyI := ⟨(Go.TypeDesc.array 4 22), 4, 32, (.arr 4 (.int .u64)), ([(0 : Int), (0 : Int), (0 : Int), (0 : Int)] : List Int), true⟩

theorem z10g : TyOk Tryd.prog 24 ty24 := TyOk.of (by kernel_rfl) (by kernel_rfl) (by kernel_rfl) (by kernel_rfl)

def ty25 : TyI := ⟨(Go.TypeDesc.slice 27), 1, 24, (.sl .nod), ([] : List Tree), false⟩

theorem z10f : TyOk Tryd.prog 25 ty25 := TyOk.of (by kernel_rfl) (by kernel_rfl) (by kernel_rfl) (by kernel_rfl)

def ty27 : TyI := ⟨(Go.TypeDesc.struct (List.toArray ([(Go.Field.mk "Kind" 3 0 false "" "" 0), (Go.Field.mk "Set" 24 1 false "" "" 8), (Go.Field.mk "Kids" 25 5 false "" "" 40), (Go.Field.mk "Min" 3 6 false "" "" 64), (Go.Field.mk "Max" 3 7 false "" "" 72)] : List Go.Field))), 8, 80, TT1, ((0 : Int), ([(0 : Int), (0 : Int), (0 : Int), (0 : Int)] : List Int), ([] : List Tree), (0 : Int), (0 : Int), ()), true⟩

theorem z10e : TyOk Tryd.prog 27 ty27 := TyOk.of (by kernel_rfl) (by kernel_rfl) (by kernel_rfl) (by kernel_rfl)

def ty31 : TyI := ⟨(Go.TypeDesc.slice 24), 1, 24, (.sl (.arr 4 (.int .u64))), ([] : List (List Int)), false⟩

theorem z10d : TyOk Tryd.prog 31 ty31 := TyOk.of (by kernel_rfl) (by kernel_rfl) (by kernel_rfl) (by kernel_rfl)

def ty32 : TyI := ⟨(Go.TypeDesc.slice 3), 1, 24, (.sl (.int .i64)), ([] : List Int), false⟩

theorem z10c : TyOk Tryd.prog 32 ty32 := TyOk.of (by kernel_rfl) (by kernel_rfl) (by kernel_rfl) (by kernel_rfl)

def ty33 : TyI := ⟨(Go.TypeDesc.slice 32), 1, 24, (.sl (.sl (.int .i64))), ([] : List (List Int)), false⟩

theorem z10b : TyOk Tryd.prog 33 ty33 := TyOk.of (by kernel_rfl) (by kernel_rfl) (by kernel_rfl) (by kernel_rfl)

def ty35 : TyI := ⟨(Go.TypeDesc.struct (List.toArray ([(Go.Field.mk "Sets" 31 0 false "" "" 0), (Go.Field.mk "None" 4 1 false "" "" 24), (Go.Field.mk "First" 32 2 false "" "" 32), (Go.Field.mk "Last" 32 3 false "" "" 56), (Go.Field.mk "Next" 33 4 false "" "" 80)] : List Go.Field))), 5, 104, TT3, (([] : List (List Int)), false, ([] : List Int), ([] : List Int), ([] : List (List Int)), ()), true⟩

theorem z10a : TyOk Tryd.prog 35 ty35 := TyOk.of (by kernel_rfl) (by kernel_rfl) (by kernel_rfl) (by kernel_rfl)

def ty36 : TyI := ⟨(Go.TypeDesc.int IntKind.i64), 1, 8, (.int .i64), (0 : Int), false⟩

theorem z109 : TyOk Tryd.prog 36 ty36 := TyOk.of (by kernel_rfl) (by kernel_rfl) (by kernel_rfl) (by kernel_rfl)

def ty46 : TyI := ⟨(Go.TypeDesc.struct (List.toArray ([(Go.Field.mk "E" 36 0 false "" "" 0), (Go.Field.mk "At" 3 1 false "" "" 8)] : List Go.Field))), 2, 16, TT0, ((0 : Int), (0 : Int), ()), true⟩

theorem z108 : TyOk Tryd.prog 46 ty46 := TyOk.of (by kernel_rfl) (by kernel_rfl) (by kernel_rfl) (by kernel_rfl)

def ty49 : TyI := ⟨(Go.TypeDesc.pointer 51), 1, 8, .opq, (Go.Value.pointer none), false⟩

theorem z107 : TyOk Tryd.prog 49 ty49 := TyOk.of (by kernel_rfl) (by kernel_rfl) (by kernel_rfl) (by kernel_rfl)

def ty51 : TyI := ⟨(Go.TypeDesc.struct (List.toArray ([(Go.Field.mk "sets" 31 0 false "" "porter/spots" 0), (Go.Field.mk "next" 33 1 false "" "porter/spots" 24)] : List Go.Field))), 2, 48, (.pair (.sl (.arr 4 (.int .u64))) (.pair (.sl (.sl (.int .i64))) .unit)), (([] : List (List Int)), ([] : List (List Int)), ()), true⟩

theorem z106 : TyOk Tryd.prog 51 ty51 := TyOk.of (by kernel_rfl) (by kernel_rfl) (by kernel_rfl) (by kernel_rfl)

def ty53 : TyI := ⟨(Go.TypeDesc.struct (List.toArray ([(Go.Field.mk "none" 4 0 false "" "porter/spots" 0), (Go.Field.mk "first" 32 1 false "" "porter/spots" 8), (Go.Field.mk "last" 32 2 false "" "porter/spots" 32)] : List Go.Field))), 3, 56, TT6, (false, ([] : List Int), ([] : List Int), ()), true⟩

theorem z105 : TyOk Tryd.prog 53 ty53 := TyOk.of (by kernel_rfl) (by kernel_rfl) (by kernel_rfl) (by kernel_rfl)

def ty61 : TyI := ⟨(Go.TypeDesc.slice 4), 1, 24, (.sl .bool), ([] : List Bool), false⟩

theorem z104 : TyOk Tryd.prog 61 ty61 := TyOk.of (by kernel_rfl) (by kernel_rfl) (by kernel_rfl) (by kernel_rfl)

def ty72 : TyI := ⟨(Go.TypeDesc.pointer 74), 1, 8, .opq, (Go.Value.pointer none), false⟩

theorem z103 : TyOk Tryd.prog 72 ty72 := TyOk.of (by kernel_rfl) (by kernel_rfl) (by kernel_rfl) (by kernel_rfl)

def ty74 : TyI := ⟨(Go.TypeDesc.struct (List.toArray ([(Go.Field.mk "s" 9 0 false "" "porter/regex" 0), (Go.Field.mk "at" 3 1 false "" "porter/regex" 16), (Go.Field.mk "open" 3 2 false "" "porter/regex" 24)] : List Go.Field))), 3, 32, (.pair .str TT0), (([] : List UInt8), (0 : Int), (0 : Int), ()), true⟩

theorem z102 : TyOk Tryd.prog 74 ty74 := TyOk.of (by kernel_rfl) (by kernel_rfl) (by kernel_rfl) (by kernel_rfl)

def ty97 : TyI := ⟨(Go.TypeDesc.slice 53), 1, 24, (.sl TT6), ([] : List z42), false⟩

theorem z101 : TyOk Tryd.prog 97 ty97 := TyOk.of (by kernel_rfl) (by kernel_rfl) (by kernel_rfl) (by kernel_rfl)

def z14k : TyI := ⟨(Go.TypeDesc.int IntKind.u64), 1, 8, (.int .u64), (0 : Int), false⟩

theorem zxl : TyOk Tryd.prog 107 z14k := TyOk.of (by kernel_rfl) (by kernel_rfl) (by kernel_rfl) (by kernel_rfl)

def z14j : TyI := ⟨(Go.TypeDesc.array 64 5), 64, 64, (.arr 64 (.int .u8)), ((0 : Int) :: (0 : Int) :: (0 : Int) :: (0 : Int) :: (0 : Int) :: (0 : Int) :: (0 : Int) :: (0 : Int) :: (0 : Int) :: (0 : Int) :: (0 : Int) :: (0 : Int) :: (0 : Int) :: (0 : Int) :: (0 : Int) :: (0 : Int) :: (0 : Int) :: (0 : Int) :: (0 : Int) :: (0 : Int) :: (0 : Int) :: (0 : Int) :: (0 : Int) :: (0 : Int) :: (0 : Int) :: (0 : Int) :: (0 : Int) :: (0 : Int) :: (0 : Int) :: (0 : Int) :: (0 : Int) :: (0 : Int) :: (0 : Int) :: (0 : Int) :: (0 : Int) :: (0 : Int) :: (0 : Int) :: (0 : Int) :: (0 : Int) :: (0 : Int) :: (0 : Int) :: (0 : Int) :: (0 : Int) :: (0 : Int) :: (0 : Int) :: (0 : Int) :: (0 : Int) :: (0 : Int) :: (0 : Int) :: (0 : Int) :: (0 : Int) :: (0 : Int) :: (0 : Int) :: (0 : Int) :: (0 : Int) :: (0 : Int) :: (0 : Int) :: (0 : Int) :: (0 : Int) :: (0 : Int) :: (0 : Int) :: (0 : Int) :: (0 : Int) :: (0 : Int) :: ([] : List Int)), true⟩

theorem zxk : TyOk Tryd.prog 124 z14j := TyOk.of (by kernel_rfl) (by kernel_rfl) (by kernel_rfl) (by kernel_rfl)

def tys : List (Nat × TyI) := [(3, ty3), (4, ty4), (5, ty5), (9, ty9), (22, ty22), (24, ty24), (25, ty25), (27, ty27), (31, ty31), (32, ty32), (33, ty33), (35, ty35), (36, ty36), (46, ty46), (49, ty49), (51, ty51), (53, ty53), (61, ty61), (72, ty72), (74, ty74), (97, ty97), (107, z14k), (124, z14j)]

theorem zw : TysOk Tryd.prog tys := TysOk.cons z14i (TysOk.cons z14h (TysOk.cons z14g (TysOk.cons z14f (TysOk.cons z10h (TysOk.cons z10g (TysOk.cons z10f (TysOk.cons z10e (TysOk.cons z10d (TysOk.cons z10c (TysOk.cons z10b (TysOk.cons z10a (TysOk.cons z109 (TysOk.cons z108 (TysOk.cons z107 (TysOk.cons z106 (TysOk.cons z105 (TysOk.cons z104 (TysOk.cons z103 (TysOk.cons z102 (TysOk.cons z101 (TysOk.cons zxl (TysOk.cons zxk (TysOk.nil)))))))))))))))))))))))

theorem mixed : Tryd.prog.follows .mixedOrders = true := by kernel_rfl

def glob0 : List Int := [0, 1, 56, 2, 57, 49, 28, 3, 61, 58, 42, 50, 38, 29, 17, 4, 62, 47, 59, 36, 45, 43, 51, 22, 53, 39, 33, 30, 24, 18, 12, 5, 63, 55, 48, 27, 60, 41, 37, 16, 46, 35, 44, 21, 52, 32, 23, 11, 54, 26, 40, 15, 34, 20, 31, 10, 25, 14, 19, 9, 13, 8, 7, 6]

def glob : Nat -> Option Dat := lk [(0, ⟨(.arr 64 (.int .u8)), glob0⟩)]

def zwv : Code := (Tryd.f50.body).getD .skip

def L_0 : List (List Nat × List Nat) := [([0], [2, 1]), ([0, 0, 1], [10, 9, 8, 1]), ([0, 1, 0, 1], [10, 9, 8, 1]), ([0, 0, 0, 1, 0, 1], [11, 8, 10, 1, 9]), (zzn, [8, 10, 1, 9]), ([1, 0, 1, 0, 0, 1, 0, 1], []), ([0, 0, 0, 1, 1, 0, 0, 1, 0, 1], [6, 1, 10, 9, 8]), ([0, 1, 0, 0, 1, 1, 0, 0, 1, 0, 1], [17, 10, 9, 8, 1]), ([1, 1, 0, 0, 1, 1, 0, 0, 1, 0, 1], [10, 9, 8, 1]), ([0, 0, 1, 1, 0, 0, 1, 1, 0, 0, 1, 0, 1], [4]), ([1, 0, 1, 1, 0, 0, 1, 1, 0, 0, 1, 0, 1], [4]), ([0, 1, 1, 0, 0, 1, 0, 1], [10, 9, 8, 1]), ([1, 1, 1, 0, 0, 1, 0, 1], [10, 9, 8, 1]), ([1, 0, 1], []), ([0, 1, 1], [4]), ([1, 1, 1], [4])]

def E_0 (N : Nat) : Env := z1x tys glob [] [] [] [] false [] []

theorem Eok_0 (N : Nat) : EnvOk Tryd.prog (E_0 N) := zg mixed zw (FnsOk.nil) (ItsOk.nil)

def zet (N : Nat) (kind : Int) (x8 : (List Tree)) (x9 : Int) (x10 : Int) (rec : Int -> Option Bool) (k0 : Bool -> Option Bool) (k1 : Option Bool) : Option Bool :=
 cond (decide (x10 < x9))
 (cond (inR x10 (List.length x8))
 (cond ((unN (List.getD x8 (Int.toNat x10) (Tree.mk (0 : Int) ([] : List Int) ([] : List Tree) (0 : Int) (0 : Int)))).1 == kind)
 (k0 true)
 (rec (IntKind.wrap IntKind.i64 (x10 + (1 : Int)))))
 (none))
 (k1)

def zkv (N : Nat) (kind : Int) (x8 : (List Tree)) (x9 : Int) (x10 : Int) (k0 : Bool -> Option Bool) (k1 : Option Bool) : Option Bool :=
 iter (fun (v : Int) r => zet N kind x8 x9 v (fun x10 => (r x10)) k0 k1) N x10

def g1_0 (N : Nat) (i : (Int × (List Tree) × Int)) (v : Int) (r : Int -> Option Bool) (K : Ex -> List A -> Option Bool) : Option Bool :=
 zet N i.1 i.2.1 i.2.2 v (fun x10 => (r x10)) (fun a0 => (K .ret (mkS [(4, .v .bool)] 14 (a0, ())))) (K (.exit 0) (mkS [] 19 ()))

def h1_0 (N : Nat) : Hd Bool := fun st K => (unS [(1, .v (.int .i64)), (6, .v (.sl .nod)), (0, .v (.int .i64)), (0, .v (.int .i64))] 8 (restr [10, 9, 8, 1] 0 st)).bind fun x => iter (fun v r => g1_0 N ((fun x => (x.1, x.2.1, x.2.2.1)) x) v r K) N ((fun x => x.2.2.2.1) x)

def t1_0 (N : Nat) : Tab Bool := []

theorem ok1_0 {N : Nat} {c : Ctx} (hb : Base Tryd.prog (E_0 N) c) : zi Tryd.prog c (ze zwv [0, 1, 0, 1]) (h1_0 N) :=
  z1q (s := [(1, .v (.int .i64)), (6, .v (.sl .nod)), (0, .v (.int .i64)), (0, .v (.int .i64))]) (m := 8) (g1_0 N) [10, 9, 8, 1] N (fun x => (x.1, x.2.1, x.2.2.1)) (fun x => x.2.2.2.1) (fun i v => (i.1, i.2.1, i.2.2, v, ())) (fun _ => rfl) (zd hb N (t1_0 N) L_0 zwv TabOk.nil [0, 0, 1, 0, 1] _ rfl) (fun i v r K => by kernel_rfl)

def zc1 (N : Nat) (n : DT4) (kind : Int) : Option Bool :=
 zkv N kind n.2.2.1 (((List.length n.2.2.1) : Nat) : Int) (0 : Int)
 (fun x4 => some x4)
 (some false)

def t_0 (N : Nat) : Tab Bool := [([0, 1, 0, 1], h1_0 N)]

theorem z182 (N : Nat) (x : z17 [(0, .v TT1), (0, .v (.int .i64))]) : z7p (E_0 N) N (t_0 N) L_0 Tryd.f50 (mkS [(0, .v TT1), (0, .v (.int .i64))] 0 x) (z5a (.v .bool) 2) = zc1 N x.1 x.2.1 := by kernel_rfl

def ze7 (N : Nat) : List A -> Res := z13 [(0, .v TT1), (0, .v (.int .i64))] (fun x => zc1 N x.1 x.2.1) (zbr (.v .bool) 2)

theorem zkw (N : Nat) : Contract Tryd.prog glob 50 (ze7 N) :=
  Contract.of (E := E_0 N) (H := t_0 N) (L := L_0) (N := N) (body := zwv) (K := (z5a (.v .bool) 2)) (Eok_0 N) Tryd.func50 (by kernel_rfl) (by decide) (fun _ hb => (TabOk.cons (ok1_0 hb) TabOk.nil)) (fun x y h => by rw [z182]; exact h) (z1s (s := (.v .bool)) (m := 2))

def zpw : Code := (Tryd.f51.body).getD .skip

def L_1 : List (List Nat × List Nat) := [([0], [0, 1]), ([0, 0, 1], [10, 1, 0]), ([1, 0, 1], [1, 0]), ([0, 0, 1, 0, 1], [4]), ([1, 0, 1, 0, 1], [4]), ([0, 1, 1], [4]), ([1, 1, 1], [4])]

def E_1 (N : Nat) : Env := z1x tys glob [] [] [] [] false [] []

theorem Eok_1 (N : Nat) : EnvOk Tryd.prog (E_1 N) := zg mixed zw (FnsOk.nil) (ItsOk.nil)

def zgd (N : Nat) (low : Int) (high : Int) (k0 : Bool -> Option Bool) : Option Bool :=
 cond (decide (low < (0 : Int)))
 (k0 true)
 (k0 (decide ((16 : Int) < low)))

def g2_1 (N : Nat) (x : z17 zud) (K : Ex -> List A -> Option Bool) : Option Bool :=
 zgd N x.1 x.2.1 (fun a2 => (K .normal (mkS [(0, .v (.int .i64)), (0, .v (.int .i64)), (8, .v .bool)] 12 (x.1, x.2.1, a2, ()))))

def h2_1 (N : Nat) : Hd Bool := fun st K => (unS zud 21 (restr [0, 1] 0 st)).bind fun x => g2_1 N x K

def t2_1 (N : Nat) : Tab Bool := []

theorem ok2_1 {N : Nat} {c : Ctx} (hb : Base Tryd.prog (E_1 N) c) : zi Tryd.prog c (ze zpw [0, 0, 1]) (h2_1 N) :=
  zo (s := zud) (m := 21) (g := g2_1 N) [0, 1] (zd hb N (t2_1 N) L_1 zpw TabOk.nil [0, 0, 1] _ rfl) (fun x K => by kernel_rfl)

def zge (N : Nat) (low : Int) (high : Int) (k0 : Bool -> Option Bool) (k1 : Option Bool) : Option Bool :=
 zgd N low high
 (fun x10 => cond x10
 (k0 false)
 (k1))

def g1_1 (N : Nat) (x : z17 zud) (K : Ex -> List A -> Option Bool) : Option Bool :=
 zge N x.1 x.2.1 (fun a0 => (K .ret (mkS [(4, .v .bool)] 18 (a0, ())))) (K .normal (mkS zud 21 (x.1, x.2.1, ())))

def h1_1 (N : Nat) : Hd Bool := fun st K => (unS zud 21 (restr [0, 1] 0 st)).bind fun x => g1_1 N x K

def t1_1 (N : Nat) : Tab Bool := [([0, 0, 1], h2_1 N)]

theorem ok1_1 {N : Nat} {c : Ctx} (hb : Base Tryd.prog (E_1 N) c) : zi Tryd.prog c (ze zpw [0, 1]) (h1_1 N) :=
  zo (s := zud) (m := 21) (g := g1_1 N) [0, 1] (zd hb N (t1_1 N) L_1 zpw (TabOk.cons (ok2_1 hb) TabOk.nil) [0, 1] _ rfl) (fun x K => by kernel_rfl)

def zgs (N : Nat) (low : Int) (high : Int) : Option Bool :=
 zge N low high
 (fun x4 => some x4)
 (cond (high == (-(1 : Int)))
 (some true)
 (cond (decide ((if ((1 : Int) > low) then (1 : Int) else low) <= high))
 (some (decide (high <= (16 : Int))))
 (some false)))

def t_1 (N : Nat) : Tab Bool := [([0, 1], h1_1 N)]

theorem z181 (N : Nat) (x : z17 zud) : z7p (E_1 N) N (t_1 N) L_1 Tryd.f51 (mkS zud 0 x) (z5a (.v .bool) 2) = zgs N x.1 x.2.1 := by kernel_rfl

def zeu (N : Nat) : List A -> Res := z13 zud (fun x => zgs N x.1 x.2.1) (zbr (.v .bool) 2)

theorem zm4 (N : Nat) : Contract Tryd.prog glob 51 (zeu N) :=
  Contract.of (E := E_1 N) (H := t_1 N) (L := L_1) (N := N) (body := zpw) (K := (z5a (.v .bool) 2)) (Eok_1 N) Tryd.func51 (by kernel_rfl) (by decide) (fun _ hb => (TabOk.cons (ok1_1 hb) TabOk.nil)) (fun x y h => by rw [z181]; exact h) (z1s (s := (.v .bool)) (m := 2))

def zwu : Code := (Tryd.f34.body).getD .skip

def L_2 : List (List Nat × List Nat) := [([0], [1]), ([0, 1], [1, 4, 3]), ([0, 0, 1, 1], [18, 1, 4, 3]), ([0, 0, 1, 0, 1, 1], [19, 1, 4, 18, 3]), ([1, 0, 1, 0, 1, 1], []), (z13d, [28, 3, 4, 1, 18]), ([1, 1, 1, 0, 1, 0, 1, 1], []), ([0, 1, 1, 1, 1, 0, 1, 0, 1, 1], [45, 3, 4, 1, 18]), ([1, 1, 1, 1, 1, 0, 1, 0, 1, 1], []), ([0, 1, 1, 1, 1, 1, 1, 0, 1, 0, 1, 1], [62, 3, 1]), ([1, 1, 1, 1, 1, 1, 1, 0, 1, 0, 1, 1], []), ([0, 0, 1, 1, 1, 1, 1, 1, 1, 0, 1, 0, 1, 1], [2]), ([1, 0, 1, 1, 1, 1, 1, 1, 1, 0, 1, 0, 1, 1], [2]), ([0, 0, 1, 1, 1, 1, 1, 0, 1, 0, 1, 1], [2]), ([1, 0, 1, 1, 1, 1, 1, 0, 1, 0, 1, 1], [2]), ([0, 0, 1, 1, 1, 0, 1, 0, 1, 1], [2]), ([1, 0, 1, 1, 1, 0, 1, 0, 1, 1], [2]), ([0, 0, 1, 0, 1, 0, 1, 1], [2]), ([1, 0, 1, 0, 1, 0, 1, 1], [2]), ([1, 0, 1, 1], []), ([0, 1, 1, 1], [2]), ([1, 1, 1, 1], [2])]

def E_2 (N : Nat) : Env := z1x tys glob [(51, zeu N), (50, ze7 N)] [] [] [] false [] []

theorem Eok_2 (N : Nat) : EnvOk Tryd.prog (E_2 N) := zg mixed zw (FnsOk.cons (zm4 N) (FnsOk.cons (zkw N) (FnsOk.nil))) (ItsOk.nil)

def zev (N : Nat) (n : DT4) (k0 : Bool -> Bool -> Option Bool) : Option Bool :=
 cond (n.2.2.2.1 == (0 : Int))
 (k0 (eqD (T.arr 4 (T.int IntKind.u64)) n.2.1 ([(0 : Int), (0 : Int), (0 : Int), (0 : Int)] : List Int)) (n.2.2.2.2.1 == (0 : Int)))
 (k0 (eqD (T.arr 4 (T.int IntKind.u64)) n.2.1 ([(0 : Int), (0 : Int), (0 : Int), (0 : Int)] : List Int)) false)

def g1_2 (N : Nat) (x : z17 [(1, .box TT1)]) (K : Ex -> List A -> Option Bool) : Option Bool :=
 zev N x.1 (fun a1 a2 => (K .normal (mkS [(1, .box TT1), (1, .v .bool), (0, .v .bool)] 73 (x.1, a1, a2, ()))))

def h1_2 (N : Nat) : Hd Bool := fun st K => (unS [(1, .box TT1)] 76 (restr [1] 0 st)).bind fun x => g1_2 N x K

def t1_2 (N : Nat) : Tab Bool := []

theorem ok1_2 {N : Nat} {c : Ctx} (hb : Base Tryd.prog (E_2 N) c) : zi Tryd.prog c (ze zwu [0, 1]) (h1_2 N) :=
  zo (s := [(1, .box TT1)]) (m := 76) (g := g1_2 N) [1] (zd hb N (t1_2 N) L_2 zwu TabOk.nil [0, 1] _ rfl) (fun x K => by kernel_rfl)

def zew (N : Nat) (n : DT4) : Option Bool :=
 zev N n
 (fun empty once => cond (n.1 == (1 : Int))
 (cond ((((List.length n.2.2.1) : Nat) : Int) == (0 : Int))
 (some once)
 (some false))
 (cond (n.1 == (2 : Int))
 (cond empty
 (cond once
 (cond ((((List.length n.2.2.1) : Nat) : Int) != (1 : Int))
 ((zc1 N n (2 : Int)).bind fun y =>
 some (!y))
 (some false))
 (some false))
 (some false))
 (cond (n.1 == (3 : Int))
 (cond empty
 (cond once
 (cond (decide ((2 : Int) <= (((List.length n.2.2.1) : Nat) : Int)))
 ((zc1 N n (3 : Int)).bind fun y1 =>
 some (!y1))
 (some false))
 (some false))
 (some false))
 (cond (n.1 == (4 : Int))
 (cond empty
 (cond ((((List.length n.2.2.1) : Nat) : Int) == (1 : Int))
 ((zgs N n.2.2.2.1 n.2.2.2.2.1).bind fun y2 =>
 some y2)
 (some false))
 (some false))
 (some false)))))

def t_2 (N : Nat) : Tab Bool := [([0, 1], h1_2 N)]

theorem z180 (N : Nat) (x : z17 [(0, .v TT1)]) : z7p (E_2 N) N (t_2 N) L_2 Tryd.f34 (mkS [(0, .v TT1)] 0 x) (z5a (.v .bool) 1) = zew N x.1 := by kernel_rfl

def ze8 (N : Nat) : List A -> Res := z13 [(0, .v TT1)] (fun x => zew N x.1) (zbr (.v .bool) 1)

theorem zkx (N : Nat) : Contract Tryd.prog glob 34 (ze8 N) :=
  Contract.of (E := E_2 N) (H := t_2 N) (L := L_2) (N := N) (body := zwu) (K := (z5a (.v .bool) 1)) (Eok_2 N) Tryd.func34 (by kernel_rfl) (by decide) (fun _ hb => (TabOk.cons (ok1_2 hb) TabOk.nil)) (fun x y h => by rw [z180]; exact h) (z1s (s := (.v .bool)) (m := 1))

def zt3 : Code := (Tryd.f17.body).getD .skip

def L_3 : List (List Nat × List Nat) := [([0], [1]), ([0, 0, 1], [7, 1]), ([1, 0, 1], [1]), ([0, 0, 1, 0, 1], [2]), ([1, 0, 1, 0, 1], [2]), ([0, 0, 1, 1], [11, 10, 9]), ([0, 1, 0, 1, 1], [11, 10, 9]), ([0, 0, 0, 1, 0, 1, 1], [12, 9, 11, 10]), (zuh, [9, 11, 10]), (zxe, []), (z1e9, [4, 11, 10, 9]), (z1ea, [17, 11, 10, 9]), ([1, 1, 0, 0, 1, 1, 0, 0, 1, 0, 1, 1], [11, 10, 9]), ([0, 0, 1, 1, 0, 0, 1, 1, 0, 0, 1, 0, 1, 1], [2]), ([1, 0, 1, 1, 0, 0, 1, 1, 0, 0, 1, 0, 1, 1], [2]), (zxd, [11, 10, 9]), (zxc, [11, 10, 9]), ([1, 0, 1, 1], []), ([0, 1, 1, 1], [2]), ([1, 1, 1, 1], [2])]

def E_3 (N : Nat) (self : DT4 -> Option Bool) : Env := z1x tys glob [(34, ze8 N), (17, z13 [(0, .v TT1)] (fun x => self x.1) (zbr (.v .bool) 1))] [] [] [] false [] []

theorem Eok_3 (N : Nat) (self : DT4 -> Option Bool) (hself : Contract Tryd.prog glob 17 (z13 [(0, .v TT1)] (fun x => self x.1) (zbr (.v .bool) 1))) : EnvOk Tryd.prog (E_3 N self) := zg mixed zw (FnsOk.cons (zkx N) (FnsOk.cons (hself) (FnsOk.nil))) (ItsOk.nil)

def zgf (N : Nat) (self : DT4 -> Option Bool) (x9 : (List Tree)) (x10 : Int) (x11 : Int) (rec : Int -> Option Bool) (k0 : Bool -> Option Bool) (k1 : Option Bool) : Option Bool :=
 cond (decide (x11 < x10))
 (cond (inR x11 (List.length x9))
 ((self (unN (List.getD x9 (Int.toNat x11) (Tree.mk (0 : Int) ([] : List Int) ([] : List Tree) (0 : Int) (0 : Int))))).bind fun y =>
 cond (!y)
 (k0 false)
 (rec (IntKind.wrap IntKind.i64 (x11 + (1 : Int)))))
 (none))
 (k1)

def zm5 (N : Nat) (self : DT4 -> Option Bool) (x9 : (List Tree)) (x10 : Int) (x11 : Int) (k0 : Bool -> Option Bool) (k1 : Option Bool) : Option Bool :=
 iter (fun (v : Int) r => zgf N self x9 x10 v (fun x11 => (r x11)) k0 k1) N x11

def g1_3 (N : Nat) (self : DT4 -> Option Bool) (i : ((List Tree) × Int)) (v : Int) (r : Int -> Option Bool) (K : Ex -> List A -> Option Bool) : Option Bool :=
 zgf N self i.1 i.2 v (fun x11 => (r x11)) (fun a0 => (K .ret (mkS [(2, .v .bool)] 16 (a0, ())))) (K (.exit 0) (mkS [] 19 ()))

def h1_3 (N : Nat) (self : DT4 -> Option Bool) : Hd Bool := fun st K => (unS [(9, .v (.sl .nod)), (0, .v (.int .i64)), (0, .v (.int .i64))] 7 (restr [11, 10, 9] 0 st)).bind fun x => iter (fun v r => g1_3 N self ((fun x => (x.1, x.2.1)) x) v r K) N ((fun x => x.2.2.1) x)

def t1_3 (N : Nat) (self : DT4 -> Option Bool) : Tab Bool := []

theorem ok1_3 {N : Nat} {self : DT4 -> Option Bool} {c : Ctx} (hb : Base Tryd.prog (E_3 N self) c) : zi Tryd.prog c (ze zt3 [0, 1, 0, 1, 1]) (h1_3 N self) :=
  z1q (s := [(9, .v (.sl .nod)), (0, .v (.int .i64)), (0, .v (.int .i64))]) (m := 7) (g1_3 N self) [11, 10, 9] N (fun x => (x.1, x.2.1)) (fun x => x.2.2.1) (fun i v => (i.1, i.2, v, ())) (fun _ => rfl) (zd hb N (t1_3 N self) L_3 zt3 TabOk.nil [0, 0, 1, 0, 1, 1] _ rfl) (fun i v r K => by kernel_rfl)

def zhu (N : Nat) (self : DT4 -> Option Bool) (n : DT4) : Option Bool :=
 (zew N n).bind fun y =>
 cond (!y)
 (some false)
 (zm5 N self n.2.2.1 (((List.length n.2.2.1) : Nat) : Int) (0 : Int)
 (fun x2 => some x2)
 (some true))

def t_3 (N : Nat) (self : DT4 -> Option Bool) : Tab Bool := [([0, 1, 0, 1, 1], h1_3 N self)]

theorem z17z (N : Nat) (self : DT4 -> Option Bool) (x : z17 [(0, .v TT1)]) : z7p (E_3 N self) N (t_3 N self) L_3 Tryd.f17 (mkS [(0, .v TT1)] 0 x) (z5a (.v .bool) 1) = zhu N self x.1 := by kernel_rfl

def z8s : Nat -> DT4 -> Option Bool
  | 0 => fun _ => none
  | N + 1 => zhu (N + 1) (z8s N)

def zex (N : Nat) : List A -> Res := z13 [(0, .v TT1)] (fun x => z8s N x.1) (zbr (.v .bool) 1)

theorem zgg : ∀ N : Nat, Contract Tryd.prog glob 17 (zex N)
  | 0 => Contract.zero Tryd.func17 (body := zt3) (by kernel_rfl) (by decide) (fun _ => rfl)
  | N + 1 => Contract.of (E := E_3 (N + 1) (z8s N)) (H := t_3 (N + 1) (z8s N)) (L := L_3) (N := (N + 1)) (body := zt3) (K := (z5a (.v .bool) 1)) (Eok_3 (N + 1) (z8s N) (zgg N)) Tryd.func17 (by kernel_rfl) (by decide) (fun _ hb => (TabOk.cons (ok1_3 hb) TabOk.nil)) (fun x y h => by rw [z17z]; exact h) (z1s (s := (.v .bool)) (m := 1))

def z1e2 : Code := (Tryd.f37.body).getD .skip

def L_4 : List (List Nat × List Nat) := [([0], [1]), ([0, 0, 1], [5, 1]), ([1, 0, 1], [1]), ([0, 0, 1, 0, 1], [2]), ([1, 0, 1, 0, 1], [2]), ([0, 1, 1], [2]), ([1, 1, 1], [2])]

def E_4 (N : Nat) : Env := z1x tys glob [] [] [] [] false [] []

theorem Eok_4 (N : Nat) : EnvOk Tryd.prog (E_4 N) := zg mixed zw (FnsOk.nil) (ItsOk.nil)

def zbz (N : Nat) (n : DT4) : Option Int :=
 cond (n.2.2.2.2.1 == (-(1 : Int)))
 (some (IntKind.wrap IntKind.i64 (n.2.2.2.1 + (1 : Int))))
 (some n.2.2.2.2.1)

def t_4 (N : Nat) : Tab Int := []

theorem z17y (N : Nat) (x : z17 [(0, .v TT1)]) : z7p (E_4 N) N (t_4 N) L_4 Tryd.f37 (mkS [(0, .v TT1)] 0 x) (z5a (.v (.int .i64)) 1) = zbz N x.1 := by kernel_rfl

def z9m (N : Nat) : List A -> Res := z13 [(0, .v TT1)] (fun x => zbz N x.1) (zbr (.v (.int .i64)) 1)

theorem zel (N : Nat) : Contract Tryd.prog glob 37 (z9m N) :=
  Contract.of (E := E_4 N) (H := t_4 N) (L := L_4) (N := N) (body := z1e2) (K := (z5a (.v (.int .i64)) 1)) (Eok_4 N) Tryd.func37 (by kernel_rfl) (by decide) (fun _ hb => TabOk.nil) (fun x y h => by rw [z17y]; exact h) (z1s (s := (.v (.int .i64))) (m := 1))

def zjq : Code := (Tryd.f20.body).getD .skip

def L_5 : List (List Nat × List Nat) := [([0], [1]), ([0, 1], [1, 3]), ([0, 0, 1, 1], [8, 1, 3]), ([1, 0, 1, 1], [1, 3]), ([0, 1, 0, 1, 1], [1, 3]), ([0, 0, 1, 1, 1], [12, 11, 10, 3, 1]), ([0, 1, 0, 1, 1, 1], [12, 11, 10, 3, 1]), ([0, 0, 0, 1, 0, 1, 1, 1], [13, 10, 12, 3, 11, 1]), ([0, 1, 0, 0, 1, 0, 1, 1, 1], [10, 12, 3, 11, 1]), (zyt, [1, 3]), ([0, 0, 0, 1, 1, 0, 0, 1, 0, 1, 1, 1], [3, 5, 12, 11, 10, 1]), ([1, 0, 0, 1, 1, 0, 0, 1, 0, 1, 1, 1], [12, 11, 10, 3, 1]), ([0, 1, 1, 0, 0, 1, 0, 1, 1, 1], [12, 11, 10, 3, 1]), ([1, 1, 1, 0, 0, 1, 0, 1, 1, 1], [12, 11, 10, 3, 1]), ([1, 0, 1, 1, 1], [1, 3]), ([0, 0, 1, 1, 1, 1], [24, 3, 1]), ([1, 0, 1, 1, 1, 1], [3]), (z13b, [3]), ([0, 1, 1, 1, 1, 1], [2]), ([1, 1, 1, 1, 1, 1], [2])]

def E_5 (N : Nat) (self : DT4 -> Option Int) : Env := z1x tys glob [(37, z9m N), (20, z13 [(0, .v TT1)] (fun x => self x.1) (zbr (.v (.int .i64)) 1))] [] [] [] false [] []

theorem Eok_5 (N : Nat) (self : DT4 -> Option Int) (hself : Contract Tryd.prog glob 20 (z13 [(0, .v TT1)] (fun x => self x.1) (zbr (.v (.int .i64)) 1))) : EnvOk Tryd.prog (E_5 N self) := zg mixed zw (FnsOk.cons (zel N) (FnsOk.cons (hself) (FnsOk.nil))) (ItsOk.nil)

def zg4 (N : Nat) (self : DT4 -> Option Int) (n : DT4) (total : Int) (k0 : Int -> Option Int) : Option Int :=
 cond (n.1 == (1 : Int))
 (k0 (1 : Int))
 (k0 total)

def g1_5 (N : Nat) (self : DT4 -> Option Int) (x : z17 zzi) (K : Ex -> List A -> Option Int) : Option Int :=
 zg4 N self x.1 x.2.1 (fun a1 => (K .normal (mkS zzi 27 (x.1, a1, ()))))

def h1_5 (N : Nat) (self : DT4 -> Option Int) : Hd Int := fun st K => (unS zzi 27 (restr [1, 3] 0 st)).bind fun x => g1_5 N self x K

def t1_5 (N : Nat) (self : DT4 -> Option Int) : Tab Int := []

theorem ok1_5 {N : Nat} {self : DT4 -> Option Int} {c : Ctx} (hb : Base Tryd.prog (E_5 N self) c) : zi Tryd.prog c (ze zjq [0, 1, 1]) (h1_5 N self) :=
  zo (s := zzi) (m := 27) (g := g1_5 N self) [1, 3] (zd hb N (t1_5 N self) L_5 zjq TabOk.nil [0, 1, 1] _ rfl) (fun x K => by kernel_rfl)

def zg2 (N : Nat) (self : DT4 -> Option Int) (n : DT4) (x10 : (List Tree)) (x11 : Int) (total : Int) (x12 : Int) (rec : Int -> Int -> Option Int) (k0 : Int -> Option Int) : Option Int :=
 cond (decide (x12 < x11))
 (cond (inR x12 (List.length x10))
 ((self (unN (List.getD x10 (Int.toNat x12) (Tree.mk (0 : Int) ([] : List Int) ([] : List Tree) (0 : Int) (0 : Int))))).bind fun y =>
 rec (if ((513 : Int) < (IntKind.wrap IntKind.i64 (total + y))) then (513 : Int) else (IntKind.wrap IntKind.i64 (total + y))) (IntKind.wrap IntKind.i64 (x12 + (1 : Int))))
 (none))
 (k0 total)

def zm1 (N : Nat) (self : DT4 -> Option Int) (n : DT4) (total : Int) (x10 : (List Tree)) (x11 : Int) (x12 : Int) (k0 : Int -> Option Int) : Option Int :=
 iter (fun (v : (Int × Int)) r => zg2 N self n x10 x11 v.1 v.2 (fun total x12 => (r (total, x12))) k0) N (total, x12)

def g2_5 (N : Nat) (self : DT4 -> Option Int) (i : (DT4 × (List Tree) × Int)) (v : (Int × Int)) (r : (Int × Int) -> Option Int) (K : Ex -> List A -> Option Int) : Option Int :=
 zg2 N self i.1 i.2.1 i.2.2 v.1 v.2 (fun total x12 => (r (total, x12))) (fun a1 => (K (.exit 0) (mkS zzi 27 (i.1, a1, ()))))

def h2_5 (N : Nat) (self : DT4 -> Option Int) : Hd Int := fun st K => (unS SQ68 18 (restr [12, 11, 10, 3, 1] 0 st)).bind fun x => iter (fun v r => g2_5 N self ((fun x => (x.1, x.2.2.1, x.2.2.2.1)) x) v r K) N ((fun x => (x.2.1, x.2.2.2.2.1)) x)

def t2_5 (N : Nat) (self : DT4 -> Option Int) : Tab Int := []

theorem ok2_5 {N : Nat} {self : DT4 -> Option Int} {c : Ctx} (hb : Base Tryd.prog (E_5 N self) c) : zi Tryd.prog c (ze zjq [0, 1, 0, 1, 1, 1]) (h2_5 N self) :=
  z1q (s := SQ68) (m := 18) (g2_5 N self) [12, 11, 10, 3, 1] N (fun x => (x.1, x.2.2.1, x.2.2.2.1)) (fun x => (x.2.1, x.2.2.2.2.1)) (fun i v => (i.1, v.1, i.2.1, i.2.2, v.2, ())) (fun _ => rfl) (zd hb N (t2_5 N self) L_5 zjq TabOk.nil zxh _ rfl) (fun i v r K => by kernel_rfl)

def zg3 (N : Nat) (self : DT4 -> Option Int) (n : DT4) (total : Int) (k0 : Int -> Option Int) : Option Int :=
 cond (n.1 == (4 : Int))
 ((zbz N n).bind fun y =>
 k0 (IntKind.wrap IntKind.i64 (total * y)))
 (k0 total)

def g3_5 (N : Nat) (self : DT4 -> Option Int) (x : z17 zzi) (K : Ex -> List A -> Option Int) : Option Int :=
 zg3 N self x.1 x.2.1 (fun a0 => (K .normal (mkS [(3, .v (.int .i64))] 27 (a0, ()))))

def h3_5 (N : Nat) (self : DT4 -> Option Int) : Hd Int := fun st K => (unS zzi 27 (restr [1, 3] 0 st)).bind fun x => g3_5 N self x K

def t3_5 (N : Nat) (self : DT4 -> Option Int) : Tab Int := []

theorem ok3_5 {N : Nat} {self : DT4 -> Option Int} {c : Ctx} (hb : Base Tryd.prog (E_5 N self) c) : zi Tryd.prog c (ze zjq [0, 1, 1, 1, 1]) (h3_5 N self) :=
  zo (s := zzi) (m := 27) (g := g3_5 N self) [1, 3] (zd hb N (t3_5 N self) L_5 zjq TabOk.nil [0, 1, 1, 1, 1] _ rfl) (fun x K => by kernel_rfl)

def zhl (N : Nat) (self : DT4 -> Option Int) (n : DT4) : Option Int :=
 zg4 N self n (0 : Int)
 (fun total => zm1 N self n total n.2.2.1 (((List.length n.2.2.1) : Nat) : Int) (0 : Int)
 (fun total1 => zg3 N self n total1
 (fun total2 => some (if ((513 : Int) < total2) then (513 : Int) else total2))))

def t_5 (N : Nat) (self : DT4 -> Option Int) : Tab Int := [([0, 1, 1], h1_5 N self), ([0, 1, 0, 1, 1, 1], h2_5 N self), ([0, 1, 1, 1, 1], h3_5 N self)]

theorem z17x (N : Nat) (self : DT4 -> Option Int) (x : z17 [(0, .v TT1)]) : z7p (E_5 N self) N (t_5 N self) L_5 Tryd.f20 (mkS [(0, .v TT1)] 0 x) (z5a (.v (.int .i64)) 1) = zhl N self x.1 := by kernel_rfl

def z8m : Nat -> DT4 -> Option Int
  | 0 => fun _ => none
  | N + 1 => zhl (N + 1) (z8m N)

def zek (N : Nat) : List A -> Res := z13 [(0, .v TT1)] (fun x => z8m N x.1) (zbr (.v (.int .i64)) 1)

theorem zg5 : ∀ N : Nat, Contract Tryd.prog glob 20 (zek N)
  | 0 => Contract.zero Tryd.func20 (body := zjq) (by kernel_rfl) (by decide) (fun _ => rfl)
  | N + 1 => Contract.of (E := E_5 (N + 1) (z8m N)) (H := t_5 (N + 1) (z8m N)) (L := L_5) (N := (N + 1)) (body := zjq) (K := (z5a (.v (.int .i64)) 1)) (Eok_5 (N + 1) (z8m N) (zg5 N)) Tryd.func20 (by kernel_rfl) (by decide) (fun _ hb => (TabOk.cons (ok1_5 hb) (TabOk.cons (ok2_5 hb) (TabOk.cons (ok3_5 hb) TabOk.nil)))) (fun x y h => by rw [z17x]; exact h) (z1s (s := (.v (.int .i64))) (m := 1))

def z1e1 : Code := (Tryd.f42.body).getD .skip

def L_6 : List (List Nat × List Nat) := [([0], [0]), ([0, 1], [0]), ([1, 1], [0])]

def E_6 (N : Nat) : Env := z1x tys glob [] [] [] [] false [] []

theorem Eok_6 (N : Nat) : EnvOk Tryd.prog (E_6 N) := zg mixed zw (FnsOk.nil) (ItsOk.nil)

def zhj (N : Nat) : Option z42 :=
 some (true, (([] : List Int), (([] : List Int), ())))

def t_6 (N : Nat) : Tab z42 := []

theorem z17w (N : Nat) (x : z17 []) : z7p (E_6 N) N (t_6 N) L_6 Tryd.f42 (mkS [] 0 x) (z5a (.v TT6) 0) = zhj N := by kernel_rfl

def z8l (N : Nat) : List A -> Res := z13 [] (fun x => zhj N) (zbr (.v TT6) 0)

theorem ze4 (N : Nat) : Contract Tryd.prog glob 42 (z8l N) :=
  Contract.of (E := E_6 N) (H := t_6 N) (L := L_6) (N := N) (body := z1e1) (K := (z5a (.v TT6) 0)) (Eok_6 N) Tryd.func42 (by kernel_rfl) (by decide) (fun _ hb => TabOk.nil) (fun x y h => by rw [z17w]; exact h) (z1s (s := (.v TT6)) (m := 0))

def z1e0 : Code := (Tryd.f73.body).getD .skip

def L_7 : List (List Nat × List Nat) := [([0], [0]), ([0, 1], [2]), ([1, 1], [2])]

def E_7 (N : Nat) : Env := z1x tys glob [] [] [] [] false [] []

theorem Eok_7 (N : Nat) : EnvOk Tryd.prog (E_7 N) := zg mixed zw (FnsOk.nil) (ItsOk.nil)

def zi9 (N : Nat) (x0 : Int) : Option Bool :=
 some (x0 != x0)

def t_7 (N : Nat) : Tab Bool := []

theorem z17v (N : Nat) (x : z17 [(0, .v (.int .i64))]) : z7p (E_7 N) N (t_7 N) L_7 Tryd.f73 (mkS [(0, .v (.int .i64))] 0 x) (z5a (.v .bool) 1) = zi9 N x.1 := by kernel_rfl

def zd8 (N : Nat) : List A -> Res := z13 [(0, .v (.int .i64))] (fun x => zi9 N x.1) (zbr (.v .bool) 1)

theorem zjv (N : Nat) : Contract Tryd.prog glob 73 (zd8 N) :=
  Contract.of (E := E_7 N) (H := t_7 N) (L := L_7) (N := N) (body := z1e0) (K := (z5a (.v .bool) 1)) (Eok_7 N) Tryd.func73 (by kernel_rfl) (by decide) (fun _ hb => TabOk.nil) (fun x y h => by rw [z17v]; exact h) (z1s (s := (.v .bool)) (m := 1))

def z1dz : Code := (Tryd.f67.body).getD .skip

def L_8 : List (List Nat × List Nat) := [([0], [0, 1]), ([0, 1], [1, 5, 0]), ([0, 1, 1], [5, 6, 0, 1]), ([0, 0, 1, 1, 1], [11, 6, 0, 1]), ([1, 0, 1, 1, 1], [6, 0, 1]), ([0, 0, 0, 1, 0, 1, 1, 1], [12]), ([1, 0, 0, 1, 0, 1, 1, 1], []), ([0, 0, 1, 0, 0, 1, 0, 1, 1, 1], [4]), (zyt, [4]), ([0, 1, 0, 1, 0, 1, 1, 1], [4]), ([1, 1, 0, 1, 0, 1, 1, 1], [4]), ([0, 0, 1, 1, 1, 1], [13, 0, 1]), ([1, 0, 1, 1, 1, 1], [0, 1]), ([0, 0, 1, 0, 1, 1, 1, 1], [4]), ([1, 0, 1, 0, 1, 1, 1, 1], [4]), (zm0, [16, 0, 1]), (zx2, [0, 1]), (zxb, [4]), ([1, 0, 1, 0, 1, 1, 1, 1, 1], [4]), (zx7, [19]), (zx6, []), ([0, 0, 1, 0, 1, 1, 1, 1, 1, 1], [4]), ([1, 0, 1, 0, 1, 1, 1, 1, 1, 1], [4]), (zx3, [4]), (zzo, [4])]

def E_8 (N : Nat) : Env := z1x tys glob [(73, zd8 N)] [] [] [] false [] []

theorem Eok_8 (N : Nat) : EnvOk Tryd.prog (E_8 N) := zg mixed zw (FnsOk.cons (zjv N) (FnsOk.nil)) (ItsOk.nil)

def zbn (N : Nat) (x0 : Int) (y : Int) : Option Int :=
 cond (x0 != x0)
 (cond (y != y)
 (some (0 : Int))
 (some (-(1 : Int))))
 (cond (y != y)
 (some (1 : Int))
 (cond (decide (x0 < y))
 (some (-(1 : Int)))
 (cond (decide (y < x0))
 (some (1 : Int))
 (some (0 : Int)))))

def t_8 (N : Nat) : Tab Int := []

theorem z17u (N : Nat) (x : z17 zud) : z7p (E_8 N) N (t_8 N) L_8 Tryd.f67 (mkS zud 0 x) (z5a (.v (.int .i64)) 2) = zbn N x.1 x.2.1 := by kernel_rfl

def zbm (N : Nat) : List A -> Res := z13 zud (fun x => zbn N x.1 x.2.1) (zbr (.v (.int .i64)) 2)

theorem zia (N : Nat) : Contract Tryd.prog glob 67 (zbm N) :=
  Contract.of (E := E_8 N) (H := t_8 N) (L := L_8) (N := N) (body := z1dz) (K := (z5a (.v (.int .i64)) 2)) (Eok_8 N) Tryd.func67 (by kernel_rfl) (by decide) (fun _ hb => TabOk.nil) (fun x y h => by rw [z17u]; exact h) (z1s (s := (.v (.int .i64))) (m := 2))

def zig : Code := (Tryd.f60.body).getD .skip

def L_9 : List (List Nat × List Nat) := [([0], [0, 1]), ([0, 1], [0, 1, 5]), ([0, 0, 1, 1], [0, 1, 5]), ([0, 0, 0, 0, 0, 1, 1], [20, 0, 1, 5]), ([1, 0, 0, 0, 0, 1, 1], [0, 1, 5]), (zx5, [5, 0, 1]), ([0, 0, 1, 0, 0, 0, 1, 1], [6, 5, 0, 1]), ([0, 0, 1, 0, 1, 0, 0, 0, 1, 1], [29, 5, 0, 6, 1]), ([1, 0, 1, 0, 1, 0, 0, 0, 1, 1], [6, 1, 0, 5]), ([1, 1, 0, 1, 0, 1, 0, 0, 0, 1, 1], [6, 1, 0, 5]), ([0, 0, 1, 0, 1, 0, 1, 0, 0, 0, 1, 1], [0, 6, 1, 5]), ([1, 0, 1, 0, 1, 0, 1, 0, 0, 0, 1, 1], [6, 1, 0, 5]), ([0, 1, 1, 0, 1, 0, 0, 0, 1, 1], [45, 1, 0, 5]), ([1, 1, 1, 0, 1, 0, 0, 0, 1, 1], [0, 1, 5]), ([0, 1, 1, 1, 0, 1, 0, 0, 0, 1, 1], [0, 1, 5]), ([1, 0, 0, 0, 1, 1], [0, 1, 5]), ([0, 1, 1], [5, 0, 1]), ([0, 1, 1, 1], [5, 1]), ([0, 1, 1, 1, 1], [4]), ([1, 1, 1, 1, 1], [4])]

def E_9 (N : Nat) : Env := z1x tys glob [(67, zbm N)] [(0, (.int .i64)), (1, (.int .i64)), (5, (.int .i64)), (4, (.int .i64))] [] [] false [] []

theorem Eok_9 (N : Nat) : EnvOk Tryd.prog (E_9 N) := zg mixed zw (FnsOk.cons (zia N) (FnsOk.nil)) (ItsOk.nil)

def zbx (N : Nat) (a : (List Int)) (b : (List Int)) (l : (List Int)) (k0 : Option (List Int)) (k1 : Option (List Int)) : Option (List Int) :=
 cond (decide ((0 : Int) < (((List.length a) : Nat) : Int)))
 (cond (decide ((0 : Int) < (((List.length b) : Nat) : Int)))
 (k0)
 (k1))
 (k1)

def g3_9 (N : Nat) (x : z17 SQ8) (K : Ex -> List A -> Option (List Int)) : Option (List Int) :=
 zbx N x.1 x.2.1 x.2.2.1 (K .normal (mkS SQ8 48 (x.1, x.2.1, x.2.2.1, ()))) (K (.exit 0) (mkS SQ8 48 (x.1, x.2.1, x.2.2.1, ())))

def h3_9 (N : Nat) : Hd (List Int) := fun st K => (unS SQ8 48 (restr [0, 1, 5] 0 st)).bind fun x => g3_9 N x K

def t3_9 (N : Nat) : Tab (List Int) := []

theorem ok3_9 {N : Nat} {c : Ctx} (hb : Base Tryd.prog (E_9 N) c) : zi Tryd.prog c (ze zig [0, 0, 0, 0, 1, 1]) (h3_9 N) :=
  zo (s := SQ8) (m := 48) (g := g3_9 N) [0, 1, 5] (zd hb N (t3_9 N) L_9 zig TabOk.nil [0, 0, 0, 0, 1, 1] _ rfl) (fun x K => by kernel_rfl)

def zbw (N : Nat) (a : (List Int)) (b : (List Int)) (l : (List Int)) (order : Int) (k0 : (List Int) -> (List Int) -> Option (List Int)) : Option (List Int) :=
 cond (decide (order <= (0 : Int)))
 (cond (inR (0 : Int) (List.length a))
 (cond (decide ((((List.length l) + 1) * 8) <= 70368744177664))
 (cond (decide (((0 : Int) <= (1 : Int)) /\ ((1 : Int) <= (((List.length a) : Nat) : Int))))
 (k0 (cut a 1 (List.length a)) (l ++ ([(List.getD a 0 (0 : Int))] : List Int)))
 (none))
 (none))
 (none))
 (cond (inR (0 : Int) (List.length b))
 (cond (decide ((((List.length l) + 1) * 8) <= 70368744177664))
 (k0 a (l ++ ([(List.getD b 0 (0 : Int))] : List Int)))
 (none))
 (none))

def g4_9 (N : Nat) (x : z17 SQ21) (K : Ex -> List A -> Option (List Int)) : Option (List Int) :=
 zbw N x.1 x.2.1 x.2.2.1 x.2.2.2.1 (fun a0 a2 => (K .normal (mkS SQ21 47 (a0, x.2.1, a2, x.2.2.2.1, ()))))

def h4_9 (N : Nat) : Hd (List Int) := fun st K => (unS SQ21 47 (restr [6, 5, 0, 1] 0 st)).bind fun x => g4_9 N x K

def t4_9 (N : Nat) : Tab (List Int) := []

theorem ok4_9 {N : Nat} {c : Ctx} (hb : Base Tryd.prog (E_9 N) c) : zi Tryd.prog c (ze zig [0, 1, 0, 1, 0, 0, 0, 1, 1]) (h4_9 N) :=
  zo (s := SQ21) (m := 47) (g := g4_9 N) [6, 5, 0, 1] (zd hb N (t4_9 N) L_9 zig TabOk.nil [0, 1, 0, 1, 0, 0, 0, 1, 1] _ rfl) (fun x K => by kernel_rfl)

def zbv (N : Nat) (a : (List Int)) (b : (List Int)) (l : (List Int)) (rec : (List Int) -> (List Int) -> (List Int) -> Option (List Int)) (k0 : (List Int) -> (List Int) -> (List Int) -> Option (List Int)) : Option (List Int) :=
 zbx N a b l
 (cond (inR (0 : Int) (List.length a))
 (cond (inR (0 : Int) (List.length b))
 ((zbn N (List.getD a 0 (0 : Int)) (List.getD b 0 (0 : Int))).bind fun y =>
 zbw N a b l y
 (fun a1 l1 => cond (decide ((0 : Int) <= y))
 (cond (decide (((0 : Int) <= (1 : Int)) /\ ((1 : Int) <= (((List.length b) : Nat) : Int))))
 (rec a1 (cut b 1 (List.length b)) l1)
 (none))
 (rec a1 b l1)))
 (none))
 (none))
 (k0 a b l)

def zhk (N : Nat) (a : (List Int)) (b : (List Int)) (l : (List Int)) (k0 : (List Int) -> (List Int) -> (List Int) -> Option (List Int)) : Option (List Int) :=
 iter (fun (v : ((List Int) × (List Int) × (List Int))) r => zbv N v.1 v.2.1 v.2.2 (fun a b l => (r (a, b, l))) k0) N (a, b, l)

def g2_9 (N : Nat) (i : Unit) (v : ((List Int) × (List Int) × (List Int))) (r : ((List Int) × (List Int) × (List Int)) -> Option (List Int)) (K : Ex -> List A -> Option (List Int)) : Option (List Int) :=
 zbv N v.1 v.2.1 v.2.2 (fun a b l => (r (a, b, l))) (fun a0 a1 a2 => (K (.exit 0) (mkS SQ8 48 (a0, a1, a2, ()))))

def h2_9 (N : Nat) : Hd (List Int) := fun st K => (unS SQ8 48 (restr [0, 1, 5] 0 st)).bind fun x => iter (fun v r => g2_9 N ((fun x => ()) x) v r K) N ((fun x => (x.1, x.2.1, x.2.2.1)) x)

def t2_9 (N : Nat) : Tab (List Int) := [([0, 0, 0, 0, 1, 1], h3_9 N), ([0, 1, 0, 1, 0, 0, 0, 1, 1], h4_9 N)]

theorem ok2_9 {N : Nat} {c : Ctx} (hb : Base Tryd.prog (E_9 N) c) : zi Tryd.prog c (ze zig [0, 0, 1, 1]) (h2_9 N) :=
  z1q (s := SQ8) (m := 48) (g2_9 N) [0, 1, 5] N (fun x => ()) (fun x => (x.1, x.2.1, x.2.2.1)) (fun i v => (v.1, v.2.1, v.2.2, ())) (fun _ => rfl) (zd hb N (t2_9 N) L_9 zig (TabOk.cons (ok3_9 hb) (TabOk.cons (ok4_9 hb) TabOk.nil)) [0, 0, 0, 1, 1] _ rfl) (fun i v r K => by kernel_rfl)

def zby (N : Nat) (a : (List Int)) (b : (List Int)) (l : (List Int)) (k0 : (List Int) -> (List Int) -> (List Int) -> Option (List Int)) : Option (List Int) :=
 zhk N a b l
 (fun a1 b1 l1 => k0 a1 b1 l1)

def g1_9 (N : Nat) (x : z17 SQ8) (K : Ex -> List A -> Option (List Int)) : Option (List Int) :=
 zby N x.1 x.2.1 x.2.2.1 (fun a0 a1 a2 => (K .normal (mkS SQ8 48 (a0, a1, a2, ()))))

def h1_9 (N : Nat) : Hd (List Int) := fun st K => (unS SQ8 48 (restr [0, 1, 5] 0 st)).bind fun x => g1_9 N x K

def t1_9 (N : Nat) : Tab (List Int) := [([0, 0, 1, 1], h2_9 N)]

theorem ok1_9 {N : Nat} {c : Ctx} (hb : Base Tryd.prog (E_9 N) c) : zi Tryd.prog c (ze zig [0, 1, 1]) (h1_9 N) :=
  zo (s := SQ8) (m := 48) (g := g1_9 N) [0, 1, 5] (zd hb N (t1_9 N) L_9 zig (TabOk.cons (ok2_9 hb) TabOk.nil) [0, 1, 1] _ rfl) (fun x K => by kernel_rfl)

def z2b (N : Nat) (a : (List Int)) (b : (List Int)) : Option (List Int) :=
 cond (decide (((0 : Int) <= (0 : Int)) /\ (((0 : Int) <= (IntKind.wrap IntKind.i64 ((((List.length a) : Nat) : Int) + (((List.length b) : Nat) : Int)))) /\ ((((IntKind.wrap IntKind.i64 ((((List.length a) : Nat) : Int) + (((List.length b) : Nat) : Int))) * (8 : Int)) <= (281474976710656 : Int)) /\ ((IntKind.wrap IntKind.i64 ((((List.length a) : Nat) : Int) + (((List.length b) : Nat) : Int))) <= (9223372036854775807 : Int))))))
 (zby N a b ([] : List Int)
 (fun a1 b1 l => cond (decide ((((List.length l) + (List.length a1)) * 8) <= 70368744177664))
 (cond (decide ((((List.length (l ++ a1)) + (List.length b1)) * 8) <= 70368744177664))
 (some ((l ++ a1) ++ b1))
 (none))
 (none)))
 (none)

def t_9 (N : Nat) : Tab (List Int) := [([0, 1, 1], h1_9 N)]

theorem z17t (N : Nat) (x : z17 SQ86) : z7p (E_9 N) N (t_9 N) L_9 Tryd.f60 (mkS SQ86 0 x) (z5a (.v (.sl (.int .i64))) 2) = z2b N x.1 x.2.1 := by kernel_rfl

def z4h (N : Nat) : List A -> Res := z13 SQ86 (fun x => z2b N x.1 x.2.1) (zbr (.v (.sl (.int .i64))) 2)

theorem z7r (N : Nat) : Contract Tryd.prog glob 60 (z4h N) :=
  Contract.of (E := E_9 N) (H := t_9 N) (L := L_9) (N := N) (body := zig) (K := (z5a (.v (.sl (.int .i64))) 2)) (Eok_9 N) Tryd.func60 (by kernel_rfl) (by decide) (fun _ hb => (TabOk.cons (ok1_9 hb) TabOk.nil)) (fun x y h => by rw [z17t]; exact h) (z1s (s := (.v (.sl (.int .i64)))) (m := 2))

def zrs : Code := (Tryd.f59.body).getD .skip

def L_10 : List (List Nat × List Nat) := [([0], [10, 9, 8, 0, 2]), ([0, 1], [10, 9, 8, 0, 2]), ([0, 0, 0, 1], [11, 8, 10, 0, 2, 9]), ([0, 1, 0, 0, 1], [8, 10, 0, 2, 9]), ([1, 0, 1, 0, 0, 1], [0]), ([0, 0, 0, 1, 1, 0, 0, 1], [0, 7, 2, 10, 9, 8]), ([1, 0, 0, 1, 1, 0, 0, 1], [10, 9, 8, 0, 2]), ([0, 1, 1, 0, 0, 1], [10, 9, 8, 0, 2]), ([1, 1, 1, 0, 0, 1], [10, 9, 8, 0, 2]), ([1], [0])]

def E_10 (N : Nat) : Env := z1x tys glob [(60, z4h N)] [] [] [0] false [] []

theorem z1g7 (N : Nat) : EnvOk Tryd.prog (E_10 N) := zg mixed zw (FnsOk.cons (z7r N) (FnsOk.nil)) (ItsOk.nil)

def z98 (N : Nat) (first : (List Int)) (x8 : (List Int)) (x9 : Int) (b : DT9) (x10 : Int) (rec : DT9 -> Int -> Option ((Unit) × (DT9 × Unit))) (k0 : DT9 -> Option ((Unit) × (DT9 × Unit))) : Option ((Unit) × (DT9 × Unit)) :=
 cond (decide (x10 < x9))
 (cond (inR x10 (List.length x8))
 (cond (inR (List.getD x8 (Int.toNat x10) (0 : Int)) (List.length b.2.1))
 (cond (decide ((Int.toNat (List.getD x8 (Int.toNat x10) (0 : Int))) < (List.length b.2.1)))
 ((z2b N (List.getD b.2.1 (Int.toNat (List.getD x8 (Int.toNat x10) (0 : Int))) ([] : List Int)) first).bind fun y =>
 cond (inR (List.getD x8 (Int.toNat x10) (0 : Int)) (List.length b.2.1))
 (cond (decide ((Int.toNat (List.getD x8 (Int.toNat x10) (0 : Int))) < (List.length b.2.1)))
 (rec (b.1, ((List.set b.2.1 (Int.toNat (List.getD x8 (Int.toNat x10) (0 : Int))) y), b.2.2)) (IntKind.wrap IntKind.i64 (x10 + (1 : Int))))
 (none))
 (none))
 (none))
 (none))
 (none))
 (k0 b)

def zem (N : Nat) (b : DT9) (first : (List Int)) (x8 : (List Int)) (x9 : Int) (x10 : Int) (k0 : DT9 -> Option ((Unit) × (DT9 × Unit))) : Option ((Unit) × (DT9 × Unit)) :=
 iter (fun (v : (DT9 × Int)) r => z98 N first x8 x9 v.1 v.2 (fun b x10 => (r (b, x10))) k0) N (b, x10)

def z1du (N : Nat) (i : ((List Int) × (List Int) × Int)) (v : (DT9 × Int)) (r : (DT9 × Int) -> Option ((Unit) × (DT9 × Unit))) (K : Ex -> List A -> Option ((Unit) × (DT9 × Unit))) : Option ((Unit) × (DT9 × Unit)) :=
 z98 N i.1 i.2.1 i.2.2 v.1 v.2 (fun b x10 => (r (b, x10))) (fun a0 => (K (.exit 0) (mkS [(0, .box TT8)] 29 (a0, ()))))

def z1b0 (N : Nat) : Hd ((Unit) × (DT9 × Unit)) := fun st K => (unS SQ59 19 (restr [10, 9, 8, 0, 2] 0 st)).bind fun x => iter (fun v r => z1du N ((fun x => (x.2.1, x.2.2.1, x.2.2.2.1)) x) v r K) N ((fun x => (x.1, x.2.2.2.2.1)) x)

def t1_10 (N : Nat) : Tab ((Unit) × (DT9 × Unit)) := []

theorem z17m {N : Nat} {c : Ctx} (hb : Base Tryd.prog (E_10 N) c) : zi Tryd.prog c (ze zrs [0, 1]) (z1b0 N) :=
  z1q (s := SQ59) (m := 19) (z1du N) [10, 9, 8, 0, 2] N (fun x => (x.2.1, x.2.2.1, x.2.2.2.1)) (fun x => (x.1, x.2.2.2.2.1)) (fun i v => (v.1, i.1, i.2.1, i.2.2, v.2, ())) (fun _ => rfl) (zd hb N (t1_10 N) L_10 zrs TabOk.nil [0, 0, 1] _ rfl) (fun i v r K => by kernel_rfl)

def z55 (N : Nat) (b : DT9) (last : (List Int)) (first : (List Int)) : Option ((Unit) × (DT9 × Unit)) :=
 zem N b first last (((List.length last) : Nat) : Int) (0 : Int)
 (fun b1 => some ((), (b1, ())))

def t_10 (N : Nat) : Tab ((Unit) × (DT9 × Unit)) := [([0, 1], z1b0 N)]

theorem z12g (N : Nat) (x : z17 SQ67) : z7p (E_10 N) N (t_10 N) L_10 Tryd.f59 (mkS SQ67 0 x) (z43 (.tup []) [(0, .box TT8)] 2) = z55 N x.1 x.2.1 x.2.2.1 := by kernel_rfl

def z4z (N : Nat) : List A -> Res := z13 SQ67 (fun x => z55 N x.1 x.2.1 x.2.2.1) (z4d (.tup []) [(0, .box TT8)] 2)

theorem z99 (N : Nat) : Contract Tryd.prog glob 59 (z4z N) :=
  Contract.of (E := E_10 N) (H := t_10 N) (L := L_10) (N := N) (body := zrs) (K := (z43 (.tup []) [(0, .box TT8)] 2)) (z1g7 N) Tryd.func59 (by kernel_rfl) (by decide) (fun _ hb => (TabOk.cons (z17m hb) TabOk.nil)) (fun x y h => by rw [z12g]; exact h) (z31 (s := (.tup [])) (os := [(0, .box TT8)]) (m := 2))

def zlw : Code := (Tryd.f43.body).getD .skip

def L_11 : List (List Nat × List Nat) := [([0], [0, 4, 5, 6]), ([0, 1], [4, 5, 6, 0]), ([0, 1, 1], [4, 5, 7, 6, 0]), ([0, 0, 1, 1, 1], [26, 4, 5, 7, 6, 0]), ([1, 0, 1, 1, 1], [5, 4, 7, 6, 0]), ([0, 1, 0, 1, 1, 1], [5, 4, 7, 6, 0]), ([0, 0, 1, 1, 1, 1], [34, 4, 5, 7, 6, 0]), ([1, 0, 1, 1, 1, 1], [7, 6, 0]), (z13b, [7, 6, 0]), ([0, 1, 1, 1, 1, 1], [6, 0]), ([1, 1, 1, 1, 1, 1], [6, 0])]

def z1gi (N : Nat) : Env := z1x tys glob [(59, z4z N), (60, z4h N)] [] [] [0] false [] []

theorem z1g6 (N : Nat) : EnvOk Tryd.prog (z1gi N) := zg mixed zw (FnsOk.cons (z99 N) (FnsOk.cons (z7r N) (FnsOk.nil))) (ItsOk.nil)

def z95 (N : Nat) (b : DT9) (x4 : z42) (y : z42) (x6 : z42) (k0 : z42 -> Option DT5) : Option DT5 :=
 cond x4.1
 (k0 (y.1, (x4.2.1, (y.2.2.1, ()))))
 (k0 (false, (x4.2.1, (y.2.2.1, ()))))

def z1dt (N : Nat) (x : z17 SQ76) (K : Ex -> List A -> Option DT5) : Option DT5 :=
 z95 N x.1 x.2.1 x.2.2.1 x.2.2.2.1 (fun a4 => (K .normal (mkS z1e5 34 (x.1, x.2.1, x.2.2.1, x.2.2.2.1, a4, ()))))

def z1az (N : Nat) : Hd DT5 := fun st K => (unS SQ76 35 (restr [4, 5, 6, 0] 0 st)).bind fun x => z1dt N x K

def t1_11 (N : Nat) : Tab DT5 := []

theorem z17l {N : Nat} {c : Ctx} (hb : Base Tryd.prog (z1gi N) c) : zi Tryd.prog c (ze zlw [0, 1, 1]) (z1az N) :=
  zo (s := SQ76) (m := 35) (g := z1dt N) [4, 5, 6, 0] (zd hb N (t1_11 N) L_11 zlw TabOk.nil [0, 1, 1] _ rfl) (fun x K => by kernel_rfl)

def z94 (N : Nat) (b : DT9) (x4 : z42) (y : z42) (x6 : z42) (whole : z42) (k0 : z42 -> Option DT5) : Option DT5 :=
 cond x4.1
 ((z2b N x4.2.1 y.2.1).bind fun y1 =>
 k0 (whole.1, (y1, whole.2.2)))
 (k0 whole)

def z1cf (N : Nat) (x : z17 z1e5) (K : Ex -> List A -> Option DT5) : Option DT5 :=
 z94 N x.1 x.2.1 x.2.2.1 x.2.2.2.1 x.2.2.2.2.1 (fun a4 => (K .normal (mkS z1e5 34 (x.1, x.2.1, x.2.2.1, x.2.2.2.1, a4, ()))))

def z19l (N : Nat) : Hd DT5 := fun st K => (unS z1e5 34 (restr [4, 5, 7, 6, 0] 0 st)).bind fun x => z1cf N x K

def t2_11 (N : Nat) : Tab DT5 := []

theorem z167 {N : Nat} {c : Ctx} (hb : Base Tryd.prog (z1gi N) c) : zi Tryd.prog c (ze zlw [0, 1, 1, 1]) (z19l N) :=
  zo (s := z1e5) (m := 34) (g := z1cf N) [4, 5, 7, 6, 0] (zd hb N (t2_11 N) L_11 zlw TabOk.nil [0, 1, 1, 1] _ rfl) (fun x K => by kernel_rfl)

def z2v (N : Nat) (b : DT9) (x1 : z42) (y : z42) : Option DT5 :=
 (z55 N b x1.2.2.1 y.2.1).bind fun y1 =>
 z95 N y1.2.1 x1 y (false, (([] : List Int), (([] : List Int), ())))
 (fun whole => z94 N y1.2.1 x1 y (false, (([] : List Int), (([] : List Int), ()))) whole
 (fun whole1 => cond y.1
 ((z2b N x1.2.2.1 y.2.2.1).bind fun y2 =>
 some ((whole1.1, (whole1.2.1, (y2, whole1.2.2.2))), (y1.2.1, ())))
 (some (whole1, (y1.2.1, ())))))

def t_11 (N : Nat) : Tab DT5 := [([0, 1, 1], z1az N), ([0, 1, 1, 1], z19l N)]

theorem z12f (N : Nat) (x : z17 [(0, .box TT8), (0, .v TT6), (0, .v TT6)]) : z7p (z1gi N) N (t_11 N) L_11 Tryd.f43 (mkS [(0, .box TT8), (0, .v TT6), (0, .v TT6)] 0 x) (z43 (.v TT6) [(0, .box TT8)] 2) = z2v N x.1 x.2.1 x.2.2.1 := by kernel_rfl

def z4y (N : Nat) : List A -> Res := z13 [(0, .box TT8), (0, .v TT6), (0, .v TT6)] (fun x => z2v N x.1 x.2.1 x.2.2.1) (z4d (.v TT6) [(0, .box TT8)] 2)

theorem z96 (N : Nat) : Contract Tryd.prog glob 43 (z4y N) :=
  Contract.of (E := z1gi N) (H := t_11 N) (L := L_11) (N := N) (body := zlw) (K := (z43 (.v TT6) [(0, .box TT8)] 2)) (z1g6 N) Tryd.func43 (by kernel_rfl) (by decide) (fun _ hb => (TabOk.cons (z17l hb) (TabOk.cons (z167 hb) TabOk.nil))) (fun x y h => by rw [z12f]; exact h) (z31 (s := (.v TT6)) (os := [(0, .box TT8)]) (m := 2))

def z133 : Code := (Tryd.f44.body).getD .skip

def L_12 : List (List Nat × List Nat) := [([0], [2, 3, 4]), ([0, 1], [4]), ([1, 1], [4])]

def E_12 (N : Nat) : Env := z1x tys glob [(60, z4h N)] [] [] [] false [] []

theorem z1g5 (N : Nat) : EnvOk Tryd.prog (E_12 N) := zg mixed zw (FnsOk.cons (z7r N) (FnsOk.nil)) (ItsOk.nil)

def zej (N : Nat) (x0 : z42) (y : z42) : Option z42 :=
 cond x0.1
 ((z2b N x0.2.1 y.2.1).bind fun y1 =>
 (z2b N x0.2.2.1 y.2.2.1).bind fun y2 =>
 some (true, (y1, (y2, ()))))
 ((z2b N x0.2.1 y.2.1).bind fun y3 =>
 (z2b N x0.2.2.1 y.2.2.1).bind fun y4 =>
 some (y.1, (y3, (y4, ()))))

def t_12 (N : Nat) : Tab z42 := []

theorem z12e (N : Nat) (x : z17 [(0, .v TT6), (0, .v TT6)]) : z7p (E_12 N) N (t_12 N) L_12 Tryd.f44 (mkS [(0, .v TT6), (0, .v TT6)] 0 x) (z5a (.v TT6) 2) = zej N x.1 x.2.1 := by kernel_rfl

def ze5 (N : Nat) : List A -> Res := z13 [(0, .v TT6), (0, .v TT6)] (fun x => zej N x.1 x.2.1) (zbr (.v TT6) 2)

theorem zke (N : Nat) : Contract Tryd.prog glob 44 (ze5 N) :=
  Contract.of (E := E_12 N) (H := t_12 N) (L := L_12) (N := N) (body := z133) (K := (z5a (.v TT6) 2)) (z1g5 N) Tryd.func44 (by kernel_rfl) (by decide) (fun _ hb => TabOk.nil) (fun x y h => by rw [z12e]; exact h) (z1s (s := (.v TT6)) (m := 2))

abbrev zb : Type := DT9 -> DT4 -> Option DT5

def ze2 : Code := (Tryd.f45.body).getD .skip

def z144 : List (List Nat × List Nat) := [([0], [0, 3, 4]), ([0, 1], [0, 3, 5, 4]), ([0, 1, 1], [0, 5, 4, 6, 3]), ([0, 0, 1, 1, 1], [30, 4, 0, 6, 3]), ([1, 0, 1, 1, 1], [6, 3, 0, 4]), (zxh, [4, 0]), (zue, [4, 0]), ([0, 0, 1, 1, 1, 1], [6, 3, 0, 4]), (zxa, [36, 6, 0, 3, 4]), (zx9, [6, 0, 3, 4]), (z1e8, [6, 3, 0, 4]), ([0, 1, 0, 0, 0, 1, 1, 1, 1], [6, 3, 0, 4]), (zx4, [6, 3, 0, 4]), ([0, 1, 1, 1, 1], [6, 3, 0, 4]), ([0, 1, 1, 1, 1, 1], [6, 3, 0, 7, 4]), (zx7, [8, 3, 0, 6, 7, 4]), (zzp, [8, 3, 0, 6, 7, 4]), ([0, 0, 0, 0, 1, 0, 1, 1, 1, 1, 1, 1], [53, 0, 6, 8, 7, 3, 4]), ([1, 0, 0, 0, 1, 0, 1, 1, 1, 1, 1, 1], [0, 6, 8, 7, 3, 4]), ([1, 1, 0, 0, 0, 1, 0, 1, 1, 1, 1, 1, 1], [3, 0, 7, 6, 4]), ([0, 0, 0, 1, 0, 0, 1, 0, 1, 1, 1, 1, 1, 1], [7, 8, 3, 0, 6, 4]), ([1, 0, 0, 1, 0, 0, 1, 0, 1, 1, 1, 1, 1, 1], [8, 3, 0, 6, 7, 4]), ([0, 1, 0, 0, 1, 0, 1, 1, 1, 1, 1, 1], [8, 3, 0, 6, 7, 4]), ([1, 1, 0, 0, 1, 0, 1, 1, 1, 1, 1, 1], [8, 3, 0, 6, 7, 4]), (zx6, [3, 0, 7, 6, 4]), ([0, 0, 1, 1, 1, 1, 1, 1, 1], [66, 0, 7, 6, 3, 4]), ([1, 0, 1, 1, 1, 1, 1, 1, 1], [6, 3, 0, 7, 4]), ([0, 1, 0, 1, 1, 1, 1, 1, 1, 1], [6, 3, 0, 7, 4]), ([0, 1, 1, 1, 1, 1, 1, 1, 1], [6, 3, 0, 9, 7, 4]), ([0, 0, 1, 1, 1, 1, 1, 1, 1, 1, 1], z13c), ([0, 1, 0, 1, 1, 1, 1, 1, 1, 1, 1, 1], z13c), ([0, 0, 0, 1, 0, 1, 1, 1, 1, 1, 1, 1, 1, 1], [80, 77, 79, 0, 9, 78, 7, 4]), ([0, 1, 0, 0, 1, 0, 1, 1, 1, 1, 1, 1, 1, 1, 1], [77, 79, 0, 9, 78, 7, 4]), ([1, 0, 1, 0, 0, 1, 0, 1, 1, 1, 1, 1, 1, 1, 1, 1], [0, 9, 7, 4]), ([0, 0, 0, 1, 1, 0, 0, 1, 0, 1, 1, 1, 1, 1, 1, 1, 1, 1], [0, 9, 11, 79, 78, 77, 7, 4]), ([1, 0, 0, 1, 1, 0, 0, 1, 0, 1, 1, 1, 1, 1, 1, 1, 1, 1], z13c), ([0, 1, 1, 0, 0, 1, 0, 1, 1, 1, 1, 1, 1, 1, 1, 1], z13c), ([1, 1, 1, 0, 0, 1, 0, 1, 1, 1, 1, 1, 1, 1, 1, 1], z13c), ([1, 0, 1, 1, 1, 1, 1, 1, 1, 1, 1], [0, 9, 7, 4]), ([0, 1, 1, 1, 1, 1, 1, 1, 1, 1, 1], [4, 0]), ([1, 1, 1, 1, 1, 1, 1, 1, 1, 1, 1], [4, 0])]

def z13k (N : Nat) (self : zb) : Env := z1x tys glob [(43, z4y N), (59, z4z N), (42, z8l N), (37, z9m N), (24, z13 zwz (fun x => self x.1 x.2.1) (z4d (.v TT6) [(0, .box TT8)] 1))] [(6, TT6)] [] [0] false [] []

theorem z1g4 (N : Nat) (self : zb) (hself : Contract Tryd.prog glob 24 (z13 zwz (fun x => self x.1 x.2.1) (z4d (.v TT6) [(0, .box TT8)] 1))) : EnvOk Tryd.prog (z13k N self) := zg mixed zw (FnsOk.cons (z96 N) (FnsOk.cons (z99 N) (FnsOk.cons (ze4 N) (FnsOk.cons (zel N) (FnsOk.cons (hself) (FnsOk.nil)))))) (ItsOk.nil)

def z9u (N : Nat) (self : zb) (n : DT4) (x4 : z42) (b : DT9) (parts : (List z42)) (rec : DT9 -> (List z42) -> Option DT5) (k0 : DT9 -> (List z42) -> Option DT5) : Option DT5 :=
 (zbz N n).bind fun y =>
 cond (decide ((((List.length parts) : Nat) : Int) < y))
 (cond (inR (0 : Int) (List.length n.2.2.1))
 ((self b (unN (List.getD n.2.2.1 0 (Tree.mk (0 : Int) ([] : List Int) ([] : List Tree) (0 : Int) (0 : Int))))).bind fun y1 =>
 cond (decide ((((List.length parts) + 1) * 56) <= 70368744177664))
 (rec y1.2.1 (parts ++ ([y1.1] : List z42)))
 (none))
 (none))
 (k0 b parts)

def zfx (N : Nat) (self : zb) (b : DT9) (n : DT4) (x4 : z42) (parts : (List z42)) (k0 : DT9 -> (List z42) -> Option DT5) : Option DT5 :=
 iter (fun (v : (DT9 × (List z42))) r => z9u N self n x4 v.1 v.2 (fun b parts => (r (b, parts))) k0) N (b, parts)

def z1ds (N : Nat) (self : zb) (i : (DT4 × z42)) (v : (DT9 × (List z42))) (r : (DT9 × (List z42)) -> Option DT5) (K : Ex -> List A -> Option DT5) : Option DT5 :=
 z9u N self i.1 i.2 v.1 v.2 (fun b parts => (r (b, parts))) (fun a0 a3 => (K (.exit 0) (mkS SQ77 85 (a0, i.1, i.2, a3, ()))))

def z1ay (N : Nat) (self : zb) : Hd DT5 := fun st K => (unS SQ77 85 (restr [6, 3, 0, 4] 0 st)).bind fun x => iter (fun v r => z1ds N self ((fun x => (x.2.1, x.2.2.1)) x) v r K) N ((fun x => (x.1, x.2.2.2.1)) x)

def t1_13 (N : Nat) (self : zb) : Tab DT5 := []

theorem z17k {N : Nat} {self : zb} {c : Ctx} (hb : Base Tryd.prog (z13k N self) c) : zi Tryd.prog c (ze ze2 [0, 0, 1, 1, 1, 1]) (z1ay N self) :=
  z1q (s := SQ77) (m := 85) (z1ds N self) [6, 3, 0, 4] N (fun x => (x.2.1, x.2.2.1)) (fun x => (x.1, x.2.2.2.1)) (fun i v => (v.1, i.1, i.2, v.2, ())) (fun _ => rfl) (zd hb N (t1_13 N self) z144 ze2 TabOk.nil [0, 0, 0, 1, 1, 1, 1] _ rfl) (fun i v r K => by kernel_rfl)

def z9t (N : Nat) (self : zb) (n : DT4) (x4 : z42) (parts : (List z42)) (b : DT9) (tail : z42) (i : Int) (rec : DT9 -> z42 -> Int -> Option DT5) (k0 : DT9 -> z42 -> Option DT5) : Option DT5 :=
 cond (decide (n.2.2.2.1 <= i))
 (cond (inR i (List.length parts))
 (cond (decide ((Int.toNat i) < (List.length parts)))
 ((z2v N b (List.getD parts (Int.toNat i) (false, (([] : List Int), (([] : List Int), ())))) tail).bind fun y =>
 rec y.2.1 (true, y.1.2) (IntKind.wrap IntKind.i64 (i - (1 : Int))))
 (none))
 (none))
 (k0 b tail)

def zfw (N : Nat) (self : zb) (b : DT9) (n : DT4) (x4 : z42) (parts : (List z42)) (tail : z42) (i : Int) (k0 : DT9 -> z42 -> Option DT5) : Option DT5 :=
 iter (fun (v : (DT9 × z42 × Int)) r => z9t N self n x4 parts v.1 v.2.1 v.2.2 (fun b tail i => (r (b, tail, i))) k0) N (b, tail, i)

def z1ce (N : Nat) (self : zb) (i : (DT4 × z42 × (List z42))) (v : (DT9 × z42 × Int)) (r : (DT9 × z42 × Int) -> Option DT5) (K : Ex -> List A -> Option DT5) : Option DT5 :=
 z9t N self i.1 i.2.1 i.2.2 v.1 v.2.1 v.2.2 (fun b tail i => (r (b, tail, i))) (fun a0 a4 => (K (.exit 2) (mkS z1e4 84 (a0, i.1, i.2.1, i.2.2, a4, ()))))

def z19k (N : Nat) (self : zb) : Hd DT5 := fun st K => (unS SQ69 83 (restr [8, 3, 0, 6, 7, 4] 0 st)).bind fun x => iter (fun v r => z1ce N self ((fun x => (x.2.1, x.2.2.1, x.2.2.2.1)) x) v r K) N ((fun x => (x.1, x.2.2.2.2.1, x.2.2.2.2.2.1)) x)

def t2_13 (N : Nat) (self : zb) : Tab DT5 := []

theorem z166 {N : Nat} {self : zb} {c : Ctx} (hb : Base Tryd.prog (z13k N self) c) : zi Tryd.prog c (ze ze2 zzp) (z19k N self) :=
  z1q (s := SQ69) (m := 83) (z1ce N self) [8, 3, 0, 6, 7, 4] N (fun x => (x.2.1, x.2.2.1, x.2.2.2.1)) (fun x => (x.1, x.2.2.2.2.1, x.2.2.2.2.2.1)) (fun i v => (v.1, i.1, i.2.1, i.2.2, v.2.1, v.2.2, ())) (fun _ => rfl) (zd hb N (t2_13 N self) z144 ze2 TabOk.nil [0, 0, 1, 0, 1, 1, 1, 1, 1, 1] _ rfl) (fun i v r K => by kernel_rfl)

def z9v (N : Nat) (self : zb) (b : DT9) (n : DT4) (x4 : z42) (parts : (List z42)) (tail : z42) (k0 : DT9 -> Option DT5) : Option DT5 :=
 cond (n.2.2.2.2.1 == (-(1 : Int)))
 ((z55 N b tail.2.2.1 tail.2.1).bind fun y =>
 k0 y.2.1)
 (k0 b)

def z1bq (N : Nat) (self : zb) (x : z17 z1e4) (K : Ex -> List A -> Option DT5) : Option DT5 :=
 z9v N self x.1 x.2.1 x.2.2.1 x.2.2.2.1 x.2.2.2.2.1 (fun a0 => (K .normal (mkS z1e4 84 (a0, x.2.1, x.2.2.1, x.2.2.2.1, x.2.2.2.2.1, ()))))

def z18w (N : Nat) (self : zb) : Hd DT5 := fun st K => (unS z1e4 84 (restr [3, 0, 7, 6, 4] 0 st)).bind fun x => z1bq N self x K

def t3_13 (N : Nat) (self : zb) : Tab DT5 := []

theorem z15i {N : Nat} {self : zb} {c : Ctx} (hb : Base Tryd.prog (z13k N self) c) : zi Tryd.prog c (ze ze2 zx3) (z18w N self) :=
  zo (s := z1e4) (m := 84) (g := z1bq N self) [3, 0, 7, 6, 4] (zd hb N (t3_13 N self) z144 ze2 TabOk.nil zx3 _ rfl) (fun x K => by kernel_rfl)

def z9s (N : Nat) (self : zb) (x4 : z42) (tail : z42) (x77 : (List z42)) (x78 : Int) (b : DT9) (whole : z42) (x79 : Int) (rec : DT9 -> z42 -> Int -> Option DT5) (k0 : DT9 -> z42 -> Option DT5) : Option DT5 :=
 cond (decide (x79 < x78))
 (cond (inR x79 (List.length x77))
 ((z2v N b whole (List.getD x77 (Int.toNat x79) (false, (([] : List Int), (([] : List Int), ()))))).bind fun y =>
 rec y.2.1 y.1 (IntKind.wrap IntKind.i64 (x79 + (1 : Int))))
 (none))
 (k0 b whole)

def zfv (N : Nat) (self : zb) (b : DT9) (x4 : z42) (tail : z42) (whole : z42) (x77 : (List z42)) (x78 : Int) (x79 : Int) (k0 : DT9 -> z42 -> Option DT5) : Option DT5 :=
 iter (fun (v : (DT9 × z42 × Int)) r => z9s N self x4 tail x77 x78 v.1 v.2.1 v.2.2 (fun b whole x79 => (r (b, whole, x79))) k0) N (b, whole, x79)

def z1bc (N : Nat) (self : zb) (i : (z42 × z42 × (List z42) × Int)) (v : (DT9 × z42 × Int)) (r : (DT9 × z42 × Int) -> Option DT5) (K : Ex -> List A -> Option DT5) : Option DT5 :=
 z9s N self i.1 i.2.1 i.2.2.1 i.2.2.2 v.1 v.2.1 v.2.2 (fun b whole x79 => (r (b, whole, x79))) (fun a0 a3 => (K (.exit 4) (mkS [(0, .box TT8), (3, .box TT6), (2, .box TT6), (1, .box TT6)] 82 (a0, i.1, i.2.1, a3, ()))))

def z18i (N : Nat) (self : zb) : Hd DT5 := fun st K => (unS SQ46 12 (restr z13c 0 st)).bind fun x => iter (fun v r => z1bc N self ((fun x => (x.2.1, x.2.2.1, x.2.2.2.2.1, x.2.2.2.2.2.1)) x) v r K) N ((fun x => (x.1, x.2.2.2.1, x.2.2.2.2.2.2.1)) x)

def t4_13 (N : Nat) (self : zb) : Tab DT5 := []

theorem z154 {N : Nat} {self : zb} {c : Ctx} (hb : Base Tryd.prog (z13k N self) c) : zi Tryd.prog c (ze ze2 [0, 1, 0, 1, 1, 1, 1, 1, 1, 1, 1, 1]) (z18i N self) :=
  z1q (s := SQ46) (m := 12) (z1bc N self) z13c N (fun x => (x.2.1, x.2.2.1, x.2.2.2.2.1, x.2.2.2.2.2.1)) (fun x => (x.1, x.2.2.2.1, x.2.2.2.2.2.2.1)) (fun i v => (v.1, i.1, i.2.1, v.2.1, i.2.2.1, i.2.2.2, v.2.2, ())) (fun _ => rfl) (zd hb N (t4_13 N self) z144 ze2 TabOk.nil [0, 0, 1, 0, 1, 1, 1, 1, 1, 1, 1, 1, 1] _ rfl) (fun i v r K => by kernel_rfl)

def z8n (N : Nat) (self : zb) (b : DT9) (n : DT4) : Option DT5 :=
 cond (inR (0 : Int) (List.length n.2.2.1))
 ((self b (unN (List.getD n.2.2.1 0 (Tree.mk (0 : Int) ([] : List Int) ([] : List Tree) (0 : Int) (0 : Int))))).bind fun y =>
 cond ((((List.length y.2.1.1) : Nat) : Int) == (((List.length b.1) : Nat) : Int))
 (some ((true, (([] : List Int), (([] : List Int), ()))), (y.2.1, ())))
 (zfx N self y.2.1 n (false, (([] : List Int), (([] : List Int), ()))) ([y.1] : List z42)
 (fun b1 parts => zfw N self b1 n (false, (([] : List Int), (([] : List Int), ()))) parts (true, (([] : List Int), (([] : List Int), ()))) (IntKind.wrap IntKind.i64 ((((List.length parts) : Nat) : Int) - (1 : Int)))
 (fun b2 tail => z9v N self b2 n (false, (([] : List Int), (([] : List Int), ()))) parts tail
 (fun b3 => cond (decide (((0 : Int) <= n.2.2.2.1) /\ (n.2.2.2.1 <= (((List.length parts) : Nat) : Int))))
 (zfv N self b3 (false, (([] : List Int), (([] : List Int), ()))) tail (true, (([] : List Int), (([] : List Int), ()))) (cut parts 0 (Int.toNat n.2.2.2.1)) (((List.length (cut parts 0 (Int.toNat n.2.2.2.1))) : Nat) : Int) (0 : Int)
 (fun b4 whole => (z2v N b4 whole tail).bind fun y1 =>
 some (y1.1, (y1.2.1, ()))))
 (none))))))
 (none)

def t_13 (N : Nat) (self : zb) : Tab DT5 := [([0, 0, 1, 1, 1, 1], z1ay N self), (zzp, z19k N self), (zx3, z18w N self), ([0, 1, 0, 1, 1, 1, 1, 1, 1, 1, 1, 1], z18i N self)]

theorem z12d (N : Nat) (self : zb) (x : z17 zwz) : z7p (z13k N self) N (t_13 N self) z144 Tryd.f45 (mkS zwz 0 x) (z43 (.v TT6) [(0, .box TT8)] 1) = z8n N self x.1 x.2.1 := by kernel_rfl

def z97 (N : Nat) (self : zb) : List A -> Res := z13 zwz (fun x => z8n N self x.1 x.2.1) (z4d (.v TT6) [(0, .box TT8)] 1)

theorem zfy (N : Nat) (self : zb) (hself : Contract Tryd.prog glob 24 (z13 zwz (fun x => self x.1 x.2.1) (z4d (.v TT6) [(0, .box TT8)] 1))) : Contract Tryd.prog glob 45 (z97 N self) :=
  Contract.of (E := z13k N self) (H := t_13 N self) (L := z144) (N := N) (body := ze2) (K := (z43 (.v TT6) [(0, .box TT8)] 1)) (z1g4 N self hself) Tryd.func45 (by kernel_rfl) (by decide) (fun _ hb => (TabOk.cons (z17k hb) (TabOk.cons (z166 hb) (TabOk.cons (z15i hb) (TabOk.cons (z154 hb) TabOk.nil))))) (fun x y h => by rw [z12d]; exact h) (z31 (s := (.v TT6)) (os := [(0, .box TT8)]) (m := 1))

def zj7 : Code := (Tryd.f24.body).getD .skip

def L_14 : List (List Nat × List Nat) := [([0], [3, 0, 4]), ([0, 0, 1], [13, 0, 3, 4]), ([0, 0, 1, 0, 1], [14, 0, 3, 4, 13]), ([1, 0, 1, 0, 1], [0, 3, 4]), ([0, 1, 1, 0, 1, 0, 1], [46, 3, 0, 4, 13]), ([1, 1, 1, 0, 1, 0, 1], [0, 3, 4]), ([0, 1, 1, 1, 1, 0, 1, 0, 1], [64, 3, 0, 4]), ([1, 1, 1, 1, 1, 0, 1, 0, 1], [0, 3, 4]), ([0, 0, 1, 1, 1, 1, 1, 0, 1, 0, 1], [3, 9, 0, 4]), ([0, 0, 1, 0, 1, 1, 1, 1, 1, 0, 1, 0, 1], z13a), (z13e, z13a), ([0, 0, 0, 1, 0, 1, 0, 1, 1, 1, 1, 1, 0, 1, 0, 1], [71, 68, 70, 9, 0, 69, 4]), ([0, 1, 0, 0, 1, 0, 1, 0, 1, 1, 1, 1, 1, 0, 1, 0, 1], [68, 70, 9, 0, 69, 4]), ([1, 0, 1, 0, 0, 1, 0, 1, 0, 1, 1, 1, 1, 1, 0, 1, 0, 1], [9, 4, 0]), ([0, 0, 0, 1, 1, 0, 0, 1, 0, 1, 0, 1, 1, 1, 1, 1, 0, 1, 0, 1], [9, 0, 11, 70, 69, 68, 4]), ([1, 0, 0, 1, 1, 0, 0, 1, 0, 1, 0, 1, 1, 1, 1, 1, 0, 1, 0, 1], z13a), ([0, 1, 1, 0, 0, 1, 0, 1, 0, 1, 1, 1, 1, 1, 0, 1, 0, 1], z13a), ([1, 1, 1, 0, 0, 1, 0, 1, 0, 1, 1, 1, 1, 1, 0, 1, 0, 1], z13a), ([1, 0, 1, 0, 1, 1, 1, 1, 1, 0, 1, 0, 1], [9, 4, 0]), ([0, 1, 1, 0, 1, 1, 1, 1, 1, 0, 1, 0, 1], [4, 0]), ([1, 1, 1, 0, 1, 1, 1, 1, 1, 0, 1, 0, 1], [4, 0]), ([0, 0, 1, 1, 1, 0, 1, 0, 1], [3, 0, 6, 4]), ([0, 0, 1, 0, 1, 1, 1, 0, 1, 0, 1], z139), ([0, 1, 0, 1, 0, 1, 1, 1, 0, 1, 0, 1], z139), ([0, 0, 0, 1, 0, 1, 0, 1, 1, 1, 0, 1, 0, 1], [53, 50, 52, 0, 6, 51, 4]), ([0, 1, 0, 0, 1, 0, 1, 0, 1, 1, 1, 0, 1, 0, 1], [50, 52, 0, 6, 51, 4]), ([1, 0, 1, 0, 0, 1, 0, 1, 0, 1, 1, 1, 0, 1, 0, 1], [6, 4, 0]), ([0, 0, 0, 1, 1, 0, 0, 1, 0, 1, 0, 1, 1, 1, 0, 1, 0, 1], [0, 6, 8, 52, 51, 50, 4]), ([1, 0, 0, 1, 1, 0, 0, 1, 0, 1, 0, 1, 1, 1, 0, 1, 0, 1], z139), ([0, 1, 1, 0, 0, 1, 0, 1, 0, 1, 1, 1, 0, 1, 0, 1], z139), ([1, 1, 1, 0, 0, 1, 0, 1, 0, 1, 1, 1, 0, 1, 0, 1], z139), ([1, 0, 1, 0, 1, 1, 1, 0, 1, 0, 1], [6, 4, 0]), ([0, 1, 1, 0, 1, 1, 1, 0, 1, 0, 1], [4, 0]), ([1, 1, 1, 0, 1, 1, 1, 0, 1, 0, 1], [4, 0]), ([0, 0, 1, 0, 1, 0, 1], [0, 3, 5, 4]), ([0, 1, 0, 1, 0, 1, 0, 1], [0, 5, 4]), ([0, 1, 1, 0, 1, 0, 1, 0, 1], [5, 4, 0]), ([0, 1, 1, 1, 0, 1, 0, 1, 0, 1], [4, 0]), ([1, 1, 1, 1, 0, 1, 0, 1, 0, 1], [4, 0]), ([1, 0, 1], [0, 3, 4]), ([0, 1, 1], [4, 0]), ([1, 1, 1], [4, 0])]

def z1gh (N : Nat) (self : DT9 -> DT4 -> Option DT5) : Env := z1x tys glob [(45, z97 N self), (44, ze5 N), (43, z4y N), (42, z8l N), (24, z13 zwz (fun x => self x.1 x.2.1) (z4d (.v TT6) [(0, .box TT8)] 1))] [] [] [0] false [] []

theorem z1g3 (N : Nat) (self : DT9 -> DT4 -> Option DT5) (hself : Contract Tryd.prog glob 24 (z13 zwz (fun x => self x.1 x.2.1) (z4d (.v TT6) [(0, .box TT8)] 1))) : EnvOk Tryd.prog (z1gh N self) := zg mixed zw (FnsOk.cons (zfy N self hself) (FnsOk.cons (zke N) (FnsOk.cons (z96 N) (FnsOk.cons (ze4 N) (FnsOk.cons (hself) (FnsOk.nil)))))) (ItsOk.nil)

def z7t (N : Nat) (self : DT9 -> DT4 -> Option DT5) (x4 : z42) (x50 : (List Tree)) (x51 : Int) (b : DT9) (whole : z42) (x52 : Int) (rec : DT9 -> z42 -> Int -> Option DT5) (k0 : DT9 -> z42 -> Option DT5) : Option DT5 :=
 cond (decide (x52 < x51))
 (cond (inR x52 (List.length x50))
 ((self b (unN (List.getD x50 (Int.toNat x52) (Tree.mk (0 : Int) ([] : List Int) ([] : List Tree) (0 : Int) (0 : Int))))).bind fun y =>
 (z2v N y.2.1 whole y.1).bind fun y1 =>
 rec y1.2.1 y1.1 (IntKind.wrap IntKind.i64 (x52 + (1 : Int))))
 (none))
 (k0 b whole)

def zdc (N : Nat) (self : DT9 -> DT4 -> Option DT5) (b : DT9) (x4 : z42) (whole : z42) (x50 : (List Tree)) (x51 : Int) (x52 : Int) (k0 : DT9 -> z42 -> Option DT5) : Option DT5 :=
 iter (fun (v : (DT9 × z42 × Int)) r => z7t N self x4 x50 x51 v.1 v.2.1 v.2.2 (fun b whole x52 => (r (b, whole, x52))) k0) N (b, whole, x52)

def z1dr (N : Nat) (self : DT9 -> DT4 -> Option DT5) (i : (z42 × (List Tree) × Int)) (v : (DT9 × z42 × Int)) (r : (DT9 × z42 × Int) -> Option DT5) (K : Ex -> List A -> Option DT5) : Option DT5 :=
 z7t N self i.1 i.2.1 i.2.2 v.1 v.2.1 v.2.2 (fun b whole x52 => (r (b, whole, x52))) (fun a0 a2 => (K (.exit 1) (mkS [(0, .box TT8), (3, .box TT6), (1, .box TT6)] 77 (a0, i.1, a2, ()))))

def z1ax (N : Nat) (self : DT9 -> DT4 -> Option DT5) : Hd DT5 := fun st K => (unS SQ60 31 (restr z139 0 st)).bind fun x => iter (fun v r => z1dr N self ((fun x => (x.2.1, x.2.2.2.1, x.2.2.2.2.1)) x) v r K) N ((fun x => (x.1, x.2.2.1, x.2.2.2.2.2.1)) x)

def t1_14 (N : Nat) (self : DT9 -> DT4 -> Option DT5) : Tab DT5 := []

theorem z17j {N : Nat} {self : DT9 -> DT4 -> Option DT5} {c : Ctx} (hb : Base Tryd.prog (z1gh N self) c) : zi Tryd.prog c (ze zj7 [0, 1, 0, 1, 0, 1, 1, 1, 0, 1, 0, 1]) (z1ax N self) :=
  z1q (s := SQ60) (m := 31) (z1dr N self) z139 N (fun x => (x.2.1, x.2.2.2.1, x.2.2.2.2.1)) (fun x => (x.1, x.2.2.1, x.2.2.2.2.2.1)) (fun i v => (v.1, i.1, v.2.1, i.2.1, i.2.2, v.2.2, ())) (fun _ => rfl) (zd hb N (t1_14 N self) L_14 zj7 TabOk.nil [0, 0, 1, 0, 1, 0, 1, 1, 1, 0, 1, 0, 1] _ rfl) (fun i v r K => by kernel_rfl)

def z7s (N : Nat) (self : DT9 -> DT4 -> Option DT5) (x4 : z42) (x68 : (List Tree)) (x69 : Int) (b : DT9) (whole : z42) (x70 : Int) (rec : DT9 -> z42 -> Int -> Option DT5) (k0 : DT9 -> z42 -> Option DT5) : Option DT5 :=
 cond (decide (x70 < x69))
 (cond (inR x70 (List.length x68))
 ((self b (unN (List.getD x68 (Int.toNat x70) (Tree.mk (0 : Int) ([] : List Int) ([] : List Tree) (0 : Int) (0 : Int))))).bind fun y =>
 (zej N whole y.1).bind fun y1 =>
 rec y.2.1 y1 (IntKind.wrap IntKind.i64 (x70 + (1 : Int))))
 (none))
 (k0 b whole)

def zdb (N : Nat) (self : DT9 -> DT4 -> Option DT5) (b : DT9) (x4 : z42) (whole : z42) (x68 : (List Tree)) (x69 : Int) (x70 : Int) (k0 : DT9 -> z42 -> Option DT5) : Option DT5 :=
 iter (fun (v : (DT9 × z42 × Int)) r => z7s N self x4 x68 x69 v.1 v.2.1 v.2.2 (fun b whole x70 => (r (b, whole, x70))) k0) N (b, whole, x70)

def z1cd (N : Nat) (self : DT9 -> DT4 -> Option DT5) (i : (z42 × (List Tree) × Int)) (v : (DT9 × z42 × Int)) (r : (DT9 × z42 × Int) -> Option DT5) (K : Ex -> List A -> Option DT5) : Option DT5 :=
 z7s N self i.1 i.2.1 i.2.2 v.1 v.2.1 v.2.2 (fun b whole x70 => (r (b, whole, x70))) (fun a0 a2 => (K (.exit 3) (mkS [(0, .box TT8), (3, .box TT6), (4, .box TT6)] 74 (a0, i.1, a2, ()))))

def z19j (N : Nat) (self : DT9 -> DT4 -> Option DT5) : Hd DT5 := fun st K => (unS SQ61 13 (restr z13a 0 st)).bind fun x => iter (fun v r => z1cd N self ((fun x => (x.2.1, x.2.2.2.1, x.2.2.2.2.1)) x) v r K) N ((fun x => (x.1, x.2.2.1, x.2.2.2.2.2.1)) x)

def t2_14 (N : Nat) (self : DT9 -> DT4 -> Option DT5) : Tab DT5 := []

theorem z165 {N : Nat} {self : DT9 -> DT4 -> Option DT5} {c : Ctx} (hb : Base Tryd.prog (z1gh N self) c) : zi Tryd.prog c (ze zj7 z13e) (z19j N self) :=
  z1q (s := SQ61) (m := 13) (z1cd N self) z13a N (fun x => (x.2.1, x.2.2.2.1, x.2.2.2.2.1)) (fun x => (x.1, x.2.2.1, x.2.2.2.2.2.1)) (fun i v => (v.1, i.1, v.2.1, i.2.1, i.2.2, v.2.2, ())) (fun _ => rfl) (zd hb N (t2_14 N self) L_14 zj7 TabOk.nil [0, 0, 1, 0, 1, 0, 1, 1, 1, 1, 1, 0, 1, 0, 1] _ rfl) (fun i v r K => by kernel_rfl)

def z8e (N : Nat) (self : DT9 -> DT4 -> Option DT5) (b : DT9) (n : DT4) : Option DT5 :=
 cond (n.1 == (1 : Int))
 (cond (decide ((((List.length b.1) + 1) * 32) <= 70368744177664))
 (cond (decide ((((List.length b.2.1) + 1) * 24) <= 70368744177664))
 (some ((false, (([(((List.length b.1) : Nat) : Int)] : List Int), (([(((List.length b.1) : Nat) : Int)] : List Int), ()))), (((b.1 ++ ([n.2.1] : List (List Int))), ((b.2.1 ++ ([([] : List Int)] : List (List Int))), b.2.2)), ())))
 (none))
 (none))
 (cond (n.1 == (2 : Int))
 (zdc N self b (false, (([] : List Int), (([] : List Int), ()))) (true, (([] : List Int), (([] : List Int), ()))) n.2.2.1 (((List.length n.2.2.1) : Nat) : Int) (0 : Int)
 (fun b1 whole => some (whole, (b1, ()))))
 (cond (n.1 == (3 : Int))
 (zdb N self b (false, (([] : List Int), (([] : List Int), ()))) (false, (([] : List Int), (([] : List Int), ()))) n.2.2.1 (((List.length n.2.2.1) : Nat) : Int) (0 : Int)
 (fun b2 whole1 => some (whole1, (b2, ()))))
 ((z8n N self b n).bind fun y =>
 some (y.1, (y.2.1, ())))))

def t_14 (N : Nat) (self : DT9 -> DT4 -> Option DT5) : Tab DT5 := [([0, 1, 0, 1, 0, 1, 1, 1, 0, 1, 0, 1], z1ax N self), (z13e, z19j N self)]

theorem z12c (N : Nat) (self : DT9 -> DT4 -> Option DT5) (x : z17 zwz) : z7p (z1gh N self) N (t_14 N self) L_14 Tryd.f24 (mkS zwz 0 x) (z43 (.v TT6) [(0, .box TT8)] 1) = z8e N self x.1 x.2.1 := by kernel_rfl

def z2h : Nat -> DT9 -> DT4 -> Option DT5
  | 0 => fun _ _ => none
  | N + 1 => z8e (N + 1) (z2h N)

def z75 (N : Nat) : List A -> Res := z13 zwz (fun x => z2h N x.1 x.2.1) (z4d (.v TT6) [(0, .box TT8)] 1)

theorem z7u : ∀ N : Nat, Contract Tryd.prog glob 24 (z75 N)
  | 0 => Contract.zero Tryd.func24 (body := zj7) (by kernel_rfl) (by decide) (fun _ => rfl)
  | N + 1 => Contract.of (E := z1gh (N + 1) (z2h N)) (H := t_14 (N + 1) (z2h N)) (L := L_14) (N := (N + 1)) (body := zj7) (K := (z43 (.v TT6) [(0, .box TT8)] 1)) (z1g3 (N + 1) (z2h N) (z7u N)) Tryd.func24 (by kernel_rfl) (by decide) (fun _ hb => (TabOk.cons (z17j hb) (TabOk.cons (z165 hb) TabOk.nil))) (fun x y h => by rw [z12c]; exact h) (z31 (s := (.v TT6)) (os := [(0, .box TT8)]) (m := 1))

def z132 : Code := (Tryd.f10.body).getD .skip

def L_15 : List (List Nat × List Nat) := [([0], [1, 2]), ([0, 0, 1], [8, 2, 1]), ([1, 0, 1], [1, 2]), ([0, 0, 1, 0, 1], [2, 3]), ([1, 0, 1, 0, 1], [2, 3]), ([0, 0, 1, 1], [12, 2, 1]), ([1, 0, 1, 1], [1, 2]), ([0, 0, 1, 0, 1, 1], [2, 3]), ([1, 0, 1, 0, 1, 1], [2, 3]), ([0, 1, 1, 1], [4, 1, 2]), ([0, 1, 1, 1, 1], [4, 5, 2]), ([0, 1, 1, 1, 1, 1], [2, 3]), ([1, 1, 1, 1, 1, 1], [2, 3])]

def E_15 (N : Nat) : Env := z1x tys glob [(24, z75 N), (20, zek N), (17, zex N)] [] [] [] false [(14, TT8), (15, TT8)] []

theorem z1g2 (N : Nat) : EnvOk Tryd.prog (E_15 N) := zg mixed zw (FnsOk.cons (z7u N) (FnsOk.cons (zg5 N) (FnsOk.cons (zgg N) (FnsOk.nil)))) (ItsOk.nil)

def zne (N : Nat) (n : DT4) : Option (DT7 × Int × Unit) :=
 (z8s N n).bind fun y =>
 cond (!y)
 (some ((([] : List (List Int)), (false, (([] : List Int), (([] : List Int), (([] : List (List Int)), ()))))), ((7 : Int), ())))
 ((z8m N n).bind fun y1 =>
 cond (decide ((512 : Int) < y1))
 (some ((([] : List (List Int)), (false, (([] : List Int), (([] : List Int), (([] : List (List Int)), ()))))), ((16 : Int), ())))
 ((z2h N (([] : List (List Int)), (([] : List (List Int)), ())) n).bind fun y2 =>
 some ((y2.2.1.1, (y2.1.1, (y2.1.2.1, (y2.1.2.2.1, (y2.2.1.2.1, ()))))), ((0 : Int), ()))))

def t_15 (N : Nat) : Tab (DT7 × Int × Unit) := []

theorem z12b (N : Nat) (x : z17 [(0, .v TT1)]) : z7p (E_15 N) N (t_15 N) L_15 Tryd.f10 (mkS [(0, .v TT1)] 0 x) (z5a (.tup [TT3, (.int .i64)]) 1) = zne N x.1 := by kernel_rfl

def zj9 (N : Nat) : List A -> Res := z13 [(0, .v TT1)] (fun x => zne N x.1) (zbr (.tup [TT3, (.int .i64)]) 1)

theorem zq3 (N : Nat) : Contract Tryd.prog glob 10 (zj9 N) :=
  Contract.of (E := E_15 N) (H := t_15 N) (L := L_15) (N := N) (body := z132) (K := (z5a (.tup [TT3, (.int .i64)]) 1)) (z1g2 N) Tryd.func10 (by kernel_rfl) (by decide) (fun _ hb => TabOk.nil) (fun x y h => by rw [z12b]; exact h) (z1s (s := (.tup [TT3, (.int .i64)])) (m := 1))

def zhd : Code := (Tryd.f27.body).getD .skip

def z1ei : List (List Nat × List Nat) := [([0], [0, 1]), ([0, 1], [0, 4, 1]), ([0, 0, 1, 1], [9, 8, 7, 4, 1]), ([0, 1, 0, 1, 1], [9, 8, 7, 4, 1]), ([0, 0, 0, 1, 0, 1, 1], [10, 7, 9, 4, 1, 8]), (zuh, [7, 9, 4, 1, 8]), (zxe, [1]), (z1e9, [6, 4, 1, 9, 8, 7]), (PQ88, [22, 1, 6, 9, 8, 7]), ([1, 0, 1, 0, 0, 1, 1, 0, 0, 1, 0, 1, 1], [6, 9, 8, 7, 1]), ([0, 0, 1, 0, 1, 0, 0, 1, 1, 0, 0, 1, 0, 1, 1], [3, 1]), ([1, 0, 1, 0, 1, 0, 0, 1, 1, 0, 0, 1, 0, 1, 1], [3, 1]), ([1, 1, 0, 0, 1, 1, 0, 0, 1, 0, 1, 1], [9, 8, 7, 4, 1]), (zxd, [9, 8, 7, 4, 1]), (zxc, [9, 8, 7, 4, 1]), ([1, 0, 1, 1], [1]), ([0, 1, 1, 1], [3, 1]), ([1, 1, 1, 1], [3, 1])]

def z14c (N : Nat) : Env := z1x tys glob [] [] [] [1] false [] []

theorem z1g1 (N : Nat) : EnvOk Tryd.prog (z14c N) := zg mixed zw (FnsOk.nil) (ItsOk.nil)

def z9n (N : Nat) (x1 : DT7) (low : Int) (i : Int) (x7 : (List Int)) (x8 : Int) (x9 : Int) (k0 : Bool -> Option (Bool × (DT7 × Unit))) : Option (Bool × (DT7 × Unit)) :=
 cond (decide (i < low))
 (k0 true)
 (k0 (decide ((((List.length x1.1) : Nat) : Int) <= i)))

def z1bp (N : Nat) (x : z17 z13z) (K : Ex -> List A -> Option (Bool × (DT7 × Unit))) : Option (Bool × (DT7 × Unit)) :=
 z9n N x.1 x.2.1 x.2.2.1 x.2.2.2.1 x.2.2.2.2.1 x.2.2.2.2.2.1 (fun a5 => (K .normal (mkS [(1, .box TT3), (4, .v (.int .i64)), (0, .v (.sl (.int .i64))), (0, .v (.int .i64)), (0, .v (.int .i64)), (12, .v .bool)] 3 (x.1, x.2.2.1, x.2.2.2.1, x.2.2.2.2.1, x.2.2.2.2.2.1, a5, ()))))

def z18v (N : Nat) : Hd (Bool × (DT7 × Unit)) := fun st K => (unS z13z 16 (restr [6, 4, 1, 9, 8, 7] 0 st)).bind fun x => z1bp N x K

def t3_16 (N : Nat) : Tab (Bool × (DT7 × Unit)) := []

theorem z15h {N : Nat} {c : Ctx} (hb : Base Tryd.prog (z14c N) c) : zi Tryd.prog c (ze zhd PQ88) (z18v N) :=
  zo (s := z13z) (m := 16) (g := z1bp N) [6, 4, 1, 9, 8, 7] (zd hb N (t3_16 N) z1ei zhd TabOk.nil PQ88 _ rfl) (fun x K => by kernel_rfl)

def z9o (N : Nat) (x1 : DT7) (low : Int) (i : Int) (x7 : (List Int)) (x8 : Int) (x9 : Int) (k0 : Bool -> Option (Bool × (DT7 × Unit))) (k1 : Option (Bool × (DT7 × Unit))) : Option (Bool × (DT7 × Unit)) :=
 z9n N x1 low i x7 x8 x9
 (fun x22 => cond x22
 (k0 false)
 (k1))

def z1cc (N : Nat) (x : z17 z13z) (K : Ex -> List A -> Option (Bool × (DT7 × Unit))) : Option (Bool × (DT7 × Unit)) :=
 z9o N x.1 x.2.1 x.2.2.1 x.2.2.2.1 x.2.2.2.2.1 x.2.2.2.2.2.1 (fun a1 => (K .ret (mkS [(1, .box TT3), (1, .v .bool)] 22 (x.1, a1, ())))) (K .normal (mkS [(1, .box TT3), (4, .v (.int .i64)), (0, .v (.sl (.int .i64))), (0, .v (.int .i64)), (0, .v (.int .i64))] 16 (x.1, x.2.2.1, x.2.2.2.1, x.2.2.2.2.1, x.2.2.2.2.2.1, ())))

def z19i (N : Nat) : Hd (Bool × (DT7 × Unit)) := fun st K => (unS z13z 16 (restr [6, 4, 1, 9, 8, 7] 0 st)).bind fun x => z1cc N x K

def t2_16 (N : Nat) : Tab (Bool × (DT7 × Unit)) := [(PQ88, z18v N)]

theorem z164 {N : Nat} {c : Ctx} (hb : Base Tryd.prog (z14c N) c) : zi Tryd.prog c (ze zhd z1ea) (z19i N) :=
  zo (s := z13z) (m := 16) (g := z1cc N) [6, 4, 1, 9, 8, 7] (zd hb N (t2_16 N) z1ei zhd (TabOk.cons (z15h hb) TabOk.nil) z1ea _ rfl) (fun x K => by kernel_rfl)

def z4p (N : Nat) (x1 : DT7) (x7 : (List Int)) (x8 : Int) (low : Int) (x9 : Int) (rec : Int -> Int -> Option (Bool × (DT7 × Unit))) (k0 : Bool -> Option (Bool × (DT7 × Unit))) (k1 : Option (Bool × (DT7 × Unit))) : Option (Bool × (DT7 × Unit)) :=
 cond (decide (x9 < x8))
 (cond (inR x9 (List.length x7))
 (z9o N x1 low (List.getD x7 (Int.toNat x9) (0 : Int)) x7 x8 x9
 (fun x3 => k0 x3)
 (rec (IntKind.wrap IntKind.i64 ((List.getD x7 (Int.toNat x9) (0 : Int)) + (1 : Int))) (IntKind.wrap IntKind.i64 (x9 + (1 : Int)))))
 (none))
 (k1)

def ze6 (N : Nat) (x1 : DT7) (low : Int) (x7 : (List Int)) (x8 : Int) (x9 : Int) (k0 : Bool -> Option (Bool × (DT7 × Unit))) (k1 : Option (Bool × (DT7 × Unit))) : Option (Bool × (DT7 × Unit)) :=
 iter (fun (v : (Int × Int)) r => z4p N x1 x7 x8 v.1 v.2 (fun low x9 => (r (low, x9))) k0 k1) N (low, x9)

def z1dq (N : Nat) (i : (DT7 × (List Int) × Int)) (v : (Int × Int)) (r : (Int × Int) -> Option (Bool × (DT7 × Unit))) (K : Ex -> List A -> Option (Bool × (DT7 × Unit))) : Option (Bool × (DT7 × Unit)) :=
 z4p N i.1 i.2.1 i.2.2 v.1 v.2 (fun low x9 => (r (low, x9))) (fun a1 => (K .ret (mkS [(1, .box TT3), (1, .v .bool)] 22 (i.1, a1, ())))) (K (.exit 0) (mkS [(1, .box TT3)] 24 (i.1, ())))

def z1aw (N : Nat) : Hd (Bool × (DT7 × Unit)) := fun st K => (unS SQ64 16 (restr [9, 8, 7, 4, 1] 0 st)).bind fun x => iter (fun v r => z1dq N ((fun x => (x.1, x.2.2.1, x.2.2.2.1)) x) v r K) N ((fun x => (x.2.1, x.2.2.2.2.1)) x)

def t1_16 (N : Nat) : Tab (Bool × (DT7 × Unit)) := [(z1ea, z19i N)]

theorem z17i {N : Nat} {c : Ctx} (hb : Base Tryd.prog (z14c N) c) : zi Tryd.prog c (ze zhd [0, 1, 0, 1, 1]) (z1aw N) :=
  z1q (s := SQ64) (m := 16) (z1dq N) [9, 8, 7, 4, 1] N (fun x => (x.1, x.2.2.1, x.2.2.2.1)) (fun x => (x.2.1, x.2.2.2.2.1)) (fun i v => (i.1, v.1, i.2.1, i.2.2, v.2, ())) (fun _ => rfl) (zd hb N (t1_16 N) z1ei zhd (TabOk.cons (z164 hb) TabOk.nil) [0, 0, 1, 0, 1, 1] _ rfl) (fun i v r K => by kernel_rfl)

def z34 (N : Nat) (l : (List Int)) (x1 : DT7) : Option (Bool × (DT7 × Unit)) :=
 ze6 N x1 (0 : Int) l (((List.length l) : Nat) : Int) (0 : Int)
 (fun x3 => some (x3, (x1, ())))
 (some (true, (x1, ())))

def t_16 (N : Nat) : Tab (Bool × (DT7 × Unit)) := [([0, 1, 0, 1, 1], z1aw N)]

theorem z12a (N : Nat) (x : z17 [(0, .v (.sl (.int .i64))), (0, .box TT3)]) : z7p (z14c N) N (t_16 N) z1ei Tryd.f27 (mkS [(0, .v (.sl (.int .i64))), (0, .box TT3)] 0 x) (z43 (.v .bool) [(1, .box TT3)] 0) = z34 N x.1 x.2.1 := by kernel_rfl

def zcp (N : Nat) : List A -> Res := z13 [(0, .v (.sl (.int .i64))), (0, .box TT3)] (fun x => z34 N x.1 x.2.1) (z4d (.v .bool) [(1, .box TT3)] 0)

theorem zjs (N : Nat) : Contract Tryd.prog glob 27 (zcp N) :=
  Contract.of (E := z14c N) (H := t_16 N) (L := z1ei) (N := N) (body := zhd) (K := (z43 (.v .bool) [(1, .box TT3)] 0)) (z1g1 N) Tryd.func27 (by kernel_rfl) (by decide) (fun _ hb => (TabOk.cons (z17i hb) TabOk.nil)) (fun x y h => by rw [z12a]; exact h) (z31 (s := (.v .bool)) (os := [(1, .box TT3)]) (m := 0))

def zhc : Code := (Tryd.f13.body).getD .skip

def z1eh : List (List Nat × List Nat) := [([0], [1]), ([0, 0, 1], [18, 1]), ([1, 0, 1], [1]), ([0, 0, 1, 0, 1], [2]), ([1, 0, 1, 0, 1], [2]), ([0, 1, 1], [1, 3]), ([0, 0, 1, 1, 1], [23, 22, 21, 3, 1]), ([0, 1, 0, 1, 1, 1], [23, 22, 21, 3, 1]), ([0, 0, 0, 1, 0, 1, 1, 1], [24, 21, 23, 3, 22, 1]), ([0, 1, 0, 0, 1, 0, 1, 1, 1], [21, 23, 3, 22, 1]), (zyt, [3, 1]), ([0, 0, 0, 1, 1, 0, 0, 1, 0, 1, 1, 1], [3, 5, 23, 22, 21, 1]), ([0, 1, 0, 0, 1, 1, 0, 0, 1, 0, 1, 1, 1], [30, 23, 22, 21, 3, 1]), ([1, 1, 0, 0, 1, 1, 0, 0, 1, 0, 1, 1, 1], [23, 22, 21, 3, 1]), ([0, 0, 1, 1, 0, 0, 1, 1, 0, 0, 1, 0, 1, 1, 1], [2]), ([1, 0, 1, 1, 0, 0, 1, 1, 0, 0, 1, 0, 1, 1, 1], [2]), ([0, 1, 1, 0, 0, 1, 0, 1, 1, 1], [23, 22, 21, 3, 1]), ([1, 1, 1, 0, 0, 1, 0, 1, 1, 1], [23, 22, 21, 3, 1]), ([1, 0, 1, 1, 1], [3, 1]), ([0, 1, 1, 1, 1], [2]), ([1, 1, 1, 1, 1], [2])]

def z14b (N : Nat) : Env := z1x tys glob [(27, zcp N)] [(3, .unit)] [] [] false [] []

theorem z1g0 (N : Nat) : EnvOk Tryd.prog (z14b N) := zg mixed zw (FnsOk.cons (zjs N) (FnsOk.nil)) (ItsOk.nil)

def zcc (N : Nat) (p : DT7) (k0 : Bool -> Option Bool) : Option Bool :=
 cond ((((List.length p.2.2.2.2.1) : Nat) : Int) != (((List.length p.1) : Nat) : Int))
 (k0 true)
 (k0 (decide ((512 : Int) < (((List.length p.1) : Nat) : Int))))

def z1cb (N : Nat) (x : z17 [(1, .box TT3)]) (K : Ex -> List A -> Option Bool) : Option Bool :=
 zcc N x.1 (fun a1 => (K .normal (mkS [(1, .box TT3), (16, .v .bool)] 23 (x.1, a1, ()))))

def z19h (N : Nat) : Hd Bool := fun st K => (unS [(1, .box TT3)] 40 (restr [1] 0 st)).bind fun x => z1cb N x K

def t2_17 (N : Nat) : Tab Bool := []

theorem z163 {N : Nat} {c : Ctx} (hb : Base Tryd.prog (z14b N) c) : zi Tryd.prog c (ze zhc [0, 0, 1]) (z19h N) :=
  zo (s := [(1, .box TT3)]) (m := 40) (g := z1cb N) [1] (zd hb N (t2_17 N) z1eh zhc TabOk.nil [0, 0, 1] _ rfl) (fun x K => by kernel_rfl)

def zcd (N : Nat) (p : DT7) (k0 : Bool -> Option Bool) (k1 : Option Bool) : Option Bool :=
 zcc N p
 (fun x18 => cond x18
 (k0 false)
 (k1))

def z1dp (N : Nat) (x : z17 [(1, .box TT3)]) (K : Ex -> List A -> Option Bool) : Option Bool :=
 zcd N x.1 (fun a0 => (K .ret (mkS [(2, .v .bool)] 39 (a0, ())))) (K .normal (mkS [(1, .box TT3)] 40 (x.1, ())))

def z1av (N : Nat) : Hd Bool := fun st K => (unS [(1, .box TT3)] 40 (restr [1] 0 st)).bind fun x => z1dp N x K

def t1_17 (N : Nat) : Tab Bool := [([0, 0, 1], z19h N)]

theorem z17h {N : Nat} {c : Ctx} (hb : Base Tryd.prog (z14b N) c) : zi Tryd.prog c (ze zhc [0, 1]) (z1av N) :=
  zo (s := [(1, .box TT3)]) (m := 40) (g := z1dp N) [1] (zd hb N (t1_17 N) z1eh zhc (TabOk.cons (z163 hb) TabOk.nil) [0, 1] _ rfl) (fun x K => by kernel_rfl)

def z4x (N : Nat) (x21 : (List (List Int))) (x22 : Int) (p : DT7) (x23 : Int) (rec : DT7 -> Int -> Option Bool) (k0 : Bool -> Option Bool) (k1 : DT7 -> Option Bool) : Option Bool :=
 cond (decide (x23 < x22))
 (cond (inR x23 (List.length x21))
 ((z34 N (List.getD x21 (Int.toNat x23) ([] : List Int)) p).bind fun y =>
 cond (!y.1)
 (k0 false)
 (rec y.2.1 (IntKind.wrap IntKind.i64 (x23 + (1 : Int)))))
 (none))
 (k1 p)

def zg7 (N : Nat) (p : DT7) (x21 : (List (List Int))) (x22 : Int) (x23 : Int) (k0 : Bool -> Option Bool) (k1 : DT7 -> Option Bool) : Option Bool :=
 iter (fun (v : (DT7 × Int)) r => z4x N x21 x22 v.1 v.2 (fun p x23 => (r (p, x23))) k0 k1) N (p, x23)

def z1bo (N : Nat) (i : ((List (List Int)) × Int)) (v : (DT7 × Int)) (r : (DT7 × Int) -> Option Bool) (K : Ex -> List A -> Option Bool) : Option Bool :=
 z4x N i.1 i.2 v.1 v.2 (fun p x23 => (r (p, x23))) (fun a0 => (K .ret (mkS [(2, .v .bool)] 39 (a0, ())))) (fun a0 => (K (.exit 0) (mkS [(1, .box TT3), (1, .clo 27 [1])] 38 (a0, (), ()))))

def z18u (N : Nat) : Hd Bool := fun st K => (unS [(1, .box TT3), (1, .clo 27 [1]), (17, .v (.sl (.sl (.int .i64)))), (0, .v (.int .i64)), (0, .v (.int .i64))] 18 (restr [23, 22, 21, 3, 1] 0 st)).bind fun x => iter (fun v r => z1bo N ((fun x => (x.2.2.1, x.2.2.2.1)) x) v r K) N ((fun x => (x.1, x.2.2.2.2.1)) x)

def t3_17 (N : Nat) : Tab Bool := []

theorem z15g {N : Nat} {c : Ctx} (hb : Base Tryd.prog (z14b N) c) : zi Tryd.prog c (ze zhc [0, 1, 0, 1, 1, 1]) (z18u N) :=
  z1q (s := [(1, .box TT3), (1, .clo 27 [1]), (17, .v (.sl (.sl (.int .i64)))), (0, .v (.int .i64)), (0, .v (.int .i64))]) (m := 18) (z1bo N) [23, 22, 21, 3, 1] N (fun x => (x.2.2.1, x.2.2.2.1)) (fun x => (x.1, x.2.2.2.2.1)) (fun i v => (v.1, (), i.1, i.2, v.2, ())) (fun _ => rfl) (zd hb N (t3_17 N) z1eh zhc TabOk.nil zxh _ rfl) (fun i v r K => by kernel_rfl)

def z8o (N : Nat) (p : DT7) : Option Bool :=
 zcd N p
 (fun x2 => some x2)
 (zg7 N p p.2.2.2.2.1 (((List.length p.2.2.2.2.1) : Nat) : Int) (0 : Int)
 (fun x21 => some x21)
 (fun p1 => (z34 N p1.2.2.1 p1).bind fun y =>
 cond y.1
 ((z34 N y.2.1.2.2.2.1 y.2.1).bind fun y1 =>
 some y1.1)
 (some false)))

def t_17 (N : Nat) : Tab Bool := [([0, 1], z1av N), ([0, 1, 0, 1, 1, 1], z18u N)]

theorem z129 (N : Nat) (x : z17 [(0, .v TT3)]) : z7p (z14b N) N (t_17 N) z1eh Tryd.f13 (mkS [(0, .v TT3)] 0 x) (z5a (.v .bool) 1) = z8o N x.1 := by kernel_rfl

def zaw (N : Nat) : List A -> Res := z13 [(0, .v TT3)] (fun x => z8o N x.1) (zbr (.v .bool) 1)

theorem zg8 (N : Nat) : Contract Tryd.prog glob 13 (zaw N) :=
  Contract.of (E := z14b N) (H := t_17 N) (L := z1eh) (N := N) (body := zhc) (K := (z5a (.v .bool) 1)) (z1g0 N) Tryd.func13 (by kernel_rfl) (by decide) (fun _ hb => (TabOk.cons (z17h hb) (TabOk.cons (z15g hb) TabOk.nil))) (fun x y h => by rw [z129]; exact h) (z1s (s := (.v .bool)) (m := 1))

def z131 : Code := (Tryd.f49.body).getD .skip

def L_18 : List (List Nat × List Nat) := [([0], [1, 2]), ([0, 1], [4]), ([1, 1], [4])]

def E_18 (N : Nat) : Env := z1x tys glob [] [] [] [] false [] []

theorem z1fz (N : Nat) : EnvOk Tryd.prog (E_18 N) := zg mixed zw (FnsOk.nil) (ItsOk.nil)

def zbp (N : Nat) (s : (List Int)) (b : Int) : Option Bool :=
 cond (inR (IntKind.wrap IntKind.u8 (Int.tdiv b (64 : Int))) 4)
 (cond (decide ((Int.toNat (IntKind.wrap IntKind.u8 (Int.tdiv b (64 : Int)))) < (List.length s)))
 (cond (decide ((0 : Int) <= (Int.tmod b (64 : Int))))
 (some ((z67 Go.BinOp.and IntKind.u64 (zxn IntKind.u64 (List.getD s (Int.toNat (IntKind.wrap IntKind.u8 (Int.tdiv b (64 : Int)))) (0 : Int)) (Int.tmod b (64 : Int))) (1 : Int)) == (1 : Int)))
 (none))
 (none))
 (none)

def t_18 (N : Nat) : Tab Bool := []

theorem z128 (N : Nat) (x : z17 z13s) : z7p (E_18 N) N (t_18 N) L_18 Tryd.f49 (mkS z13s 0 x) (z5a (.v .bool) 2) = zbp N x.1 x.2.1 := by kernel_rfl

def zfd (N : Nat) : List A -> Res := z13 z13s (fun x => zbp N x.1 x.2.1) (zbr (.v .bool) 2)

theorem zmg (N : Nat) : Contract Tryd.prog glob 49 (zfd N) :=
  Contract.of (E := E_18 N) (H := t_18 N) (L := L_18) (N := N) (body := z131) (K := (z5a (.v .bool) 2)) (z1fz N) Tryd.func49 (by kernel_rfl) (by decide) (fun _ hb => TabOk.nil) (fun x y h => by rw [z128]; exact h) (z1s (s := (.v .bool)) (m := 2))

def zrr : Code := (Tryd.f29.body).getD .skip

def L_19 : List (List Nat × List Nat) := [([0], [3, 1, 2]), ([0, 1], [1, 7, 3, 2]), ([0, 0, 1, 1], z138), ([0, 1, 0, 1, 1], z138), ([0, 0, 0, 1, 0, 1, 1], [17, 14, 16, 7, 3, 2, 15]), (zuh, [14, 16, 7, 3, 2, 15]), (zxe, [7]), (z1e9, [7, 9, 3, 2, 16, 15, 14]), ([1, 0, 0, 1, 1, 0, 0, 1, 0, 1, 1], z138), (zxd, z138), (zxc, z138), ([1, 0, 1, 1], [7]), ([0, 1, 1, 1], [6]), ([1, 1, 1, 1], [6])]

def E_19 (N : Nat) : Env := z1x tys glob [(49, zfd N)] [(7, .bool), (6, .bool)] [] [] false [] []

theorem z1fy (N : Nat) : EnvOk Tryd.prog (E_19 N) := zg mixed zw (FnsOk.cons (zmg N) (FnsOk.nil)) (ItsOk.nil)

def zda (N : Nat) (b : Int) (p : DT7) (x14 : (List Int)) (x15 : Int) (at_ : (List Bool)) (x16 : Int) (rec : (List Bool) -> Int -> Option (List Bool)) (k0 : (List Bool) -> Option (List Bool)) : Option (List Bool) :=
 cond (decide (x16 < x15))
 (cond (inR x16 (List.length x14))
 (cond (inR (List.getD x14 (Int.toNat x16) (0 : Int)) (List.length p.1))
 ((zbp N (List.getD p.1 (Int.toNat (List.getD x14 (Int.toNat x16) (0 : Int))) ([] : List Int)) b).bind fun y =>
 cond (inR (List.getD x14 (Int.toNat x16) (0 : Int)) (List.length at_))
 (cond (decide ((Int.toNat (List.getD x14 (Int.toNat x16) (0 : Int))) < (List.length at_)))
 (rec (List.set at_ (Int.toNat (List.getD x14 (Int.toNat x16) (0 : Int))) y) (IntKind.wrap IntKind.i64 (x16 + (1 : Int))))
 (none))
 (none))
 (none))
 (none))
 (k0 at_)

def zhi (N : Nat) (b : Int) (p : DT7) (at_ : (List Bool)) (x14 : (List Int)) (x15 : Int) (x16 : Int) (k0 : (List Bool) -> Option (List Bool)) : Option (List Bool) :=
 iter (fun (v : ((List Bool) × Int)) r => zda N b p x14 x15 v.1 v.2 (fun at_ x16 => (r (at_, x16))) k0) N (at_, x16)

def z1do (N : Nat) (i : (Int × DT7 × (List Int) × Int)) (v : ((List Bool) × Int)) (r : ((List Bool) × Int) -> Option (List Bool)) (K : Ex -> List A -> Option (List Bool)) : Option (List Bool) :=
 zda N i.1 i.2.1 i.2.2.1 i.2.2.2 v.1 v.2 (fun at_ x16 => (r (at_, x16))) (fun a0 => (K (.exit 0) (mkS [(7, .row .bool)] 24 (a0, ()))))

def z1au (N : Nat) : Hd (List Bool) := fun st K => (unS SQ48 15 (restr z138 0 st)).bind fun x => iter (fun v r => z1do N ((fun x => (x.1, x.2.1, x.2.2.2.1, x.2.2.2.2.1)) x) v r K) N ((fun x => (x.2.2.1, x.2.2.2.2.2.1)) x)

def t1_19 (N : Nat) : Tab (List Bool) := []

theorem z17g {N : Nat} {c : Ctx} (hb : Base Tryd.prog (E_19 N) c) : zi Tryd.prog c (ze zrr [0, 1, 0, 1, 1]) (z1au N) :=
  z1q (s := SQ48) (m := 15) (z1do N) z138 N (fun x => (x.1, x.2.1, x.2.2.2.1, x.2.2.2.2.1)) (fun x => (x.2.2.1, x.2.2.2.2.2.1)) (fun i v => (i.1, i.2.1, v.1, i.2.2.1, i.2.2.2, v.2, ())) (fun _ => rfl) (zd hb N (t1_19 N) L_19 zrr TabOk.nil [0, 0, 1, 0, 1, 1] _ rfl) (fun i v r K => by kernel_rfl)

def zao (N : Nat) (p : DT7) (l : (List Int)) (b : Int) : Option (List Bool) :=
 cond (decide (((0 : Int) <= (((List.length p.1) : Nat) : Int)) /\ (((((List.length p.1) : Nat) : Int) <= (((List.length p.1) : Nat) : Int)) /\ ((((((List.length p.1) : Nat) : Int) * (1 : Int)) <= (281474976710656 : Int)) /\ ((((List.length p.1) : Nat) : Int) <= (9223372036854775807 : Int))))))
 (zhi N b p (List.replicate (Int.toNat (((List.length p.1) : Nat) : Int)) false) l (((List.length l) : Nat) : Int) (0 : Int)
 (fun at_ => some at_))
 (none)

def t_19 (N : Nat) : Tab (List Bool) := [([0, 1, 0, 1, 1], z1au N)]

theorem z127 (N : Nat) (x : z17 SQ78) : z7p (E_19 N) N (t_19 N) L_19 Tryd.f29 (mkS SQ78 0 x) (z5a (.v (.sl .bool)) 3) = zao N x.1 x.2.1 x.2.2.1 := by kernel_rfl

def zg1 (N : Nat) : List A -> Res := z13 SQ78 (fun x => zao N x.1 x.2.1 x.2.2.1) (zbr (.v (.sl .bool)) 3)

theorem znd (N : Nat) : Contract Tryd.prog glob 29 (zg1 N) :=
  Contract.of (E := E_19 N) (H := t_19 N) (L := L_19) (N := N) (body := zrr) (K := (z5a (.v (.sl .bool)) 3)) (z1fy N) Tryd.func29 (by kernel_rfl) (by decide) (fun _ hb => (TabOk.cons (z17g hb) TabOk.nil)) (fun x y h => by rw [z127]; exact h) (z1s (s := (.v (.sl .bool))) (m := 3))

def zlv : Code := (Tryd.f30.body).getD .skip

def L_20 : List (List Nat × List Nat) := [([0], [1, 2]), ([0, 1], [1, 2, 5]), ([0, 1, 1], [1, 2, 5, 6]), ([0, 0, 1, 1, 1], zys), ([0, 1, 0, 1, 1, 1], zys), ([0, 0, 0, 1, 0, 1, 1, 1], [17, 16, 14, 15, 2, 5, 6]), ([0, 1, 0, 0, 1, 0, 1, 1, 1], [16, 14, 15, 2, 5, 6]), (zyt, [6]), ([0, 0, 0, 1, 1, 0, 0, 1, 0, 1, 1, 1], [8, 16, 15, 14, 2, 5, 6, 7]), ([0, 0, 1, 0, 0, 1, 1, 0, 0, 1, 0, 1, 1, 1], [22, 16, 15, 14, 2, 5, 6, 7]), ([1, 0, 1, 0, 0, 1, 1, 0, 0, 1, 0, 1, 1, 1], [2, 7, 5, 6, 16, 15, 14]), ([0, 1, 0, 1, 0, 0, 1, 1, 0, 0, 1, 0, 1, 1, 1], zys), ([0, 1, 1, 0, 0, 1, 1, 0, 0, 1, 0, 1, 1, 1], zzq), (z13f, zzq), ([0, 0, 0, 1, 1, 1, 0, 0, 1, 1, 0, 0, 1, 0, 1, 1, 1], [30, 27, 29, 5, 6, 28, 16, 15, 14, 2]), ([0, 1, 0, 0, 1, 1, 1, 0, 0, 1, 1, 0, 0, 1, 0, 1, 1, 1], [27, 29, 5, 6, 28, 16, 15, 14, 2]), ([1, 0, 1, 0, 0, 1, 1, 1, 0, 0, 1, 1, 0, 0, 1, 0, 1, 1, 1], zys), ([0, 0, 0, 1, 1, 0, 0, 1, 1, 1, 0, 0, 1, 1, 0, 0, 1, 0, 1, 1, 1], [5, 10, 6, 29, 28, 27, 16, 15, 14, 2]), ([0, 1, 0, 0, 1, 1, 0, 0, 1, 1, 1, 0, 0, 1, 1, 0, 0, 1, 0, 1, 1, 1], [37, 5, 10, 6, 29, 28, 27, 16, 15, 14, 2]), ([1, 1, 0, 0, 1, 1, 0, 0, 1, 1, 1, 0, 0, 1, 1, 0, 0, 1, 0, 1, 1, 1], zzq), ([0, 0, 1, 1, 0, 0, 1, 1, 0, 0, 1, 1, 1, 0, 0, 1, 1, 0, 0, 1, 0, 1, 1, 1], [6, 10, 29, 28, 27, 5, 16, 15, 14, 2]), ([1, 0, 1, 1, 0, 0, 1, 1, 0, 0, 1, 1, 1, 0, 0, 1, 1, 0, 0, 1, 0, 1, 1, 1], zzq), ([0, 1, 1, 0, 0, 1, 1, 1, 0, 0, 1, 1, 0, 0, 1, 0, 1, 1, 1], zzq), ([1, 1, 1, 0, 0, 1, 1, 1, 0, 0, 1, 1, 0, 0, 1, 0, 1, 1, 1], zzq), ([1, 1, 1, 0, 0, 1, 1, 0, 0, 1, 0, 1, 1, 1], zys), ([0, 1, 1, 0, 0, 1, 0, 1, 1, 1], zys), ([1, 1, 1, 0, 0, 1, 0, 1, 1, 1], zys), ([1, 0, 1, 1, 1], [6]), ([0, 1, 1, 1, 1], [4]), ([1, 1, 1, 1, 1], [4])]

def z1gg (N : Nat) : Env := z1x tys glob [] [(5, .bool), (6, (.int .i64)), (4, (.int .i64))] [] [] false [] []

theorem z1fx (N : Nat) : EnvOk Tryd.prog (z1gg N) := zg mixed zw (FnsOk.nil) (ItsOk.nil)

def zc9 (N : Nat) (p : DT7) (x14 : (List Bool)) (x15 : Int) (x16 : Int) (x27 : (List Int)) (x28 : Int) (seen : (List Bool)) (l : (List Int)) (x29 : Int) (rec : (List Bool) -> (List Int) -> Int -> Option (List Int)) (k0 : (List Bool) -> (List Int) -> Option (List Int)) : Option (List Int) :=
 cond (decide (x29 < x28))
 (cond (inR x29 (List.length x27))
 (cond (inR (List.getD x27 (Int.toNat x29) (0 : Int)) (List.length seen))
 (cond (decide ((Int.toNat (List.getD x27 (Int.toNat x29) (0 : Int))) < (List.length seen)))
 (cond (!(List.getD seen (Int.toNat (List.getD x27 (Int.toNat x29) (0 : Int))) false))
 (cond (inR (List.getD x27 (Int.toNat x29) (0 : Int)) (List.length seen))
 (cond (decide ((Int.toNat (List.getD x27 (Int.toNat x29) (0 : Int))) < (List.length seen)))
 (cond (decide ((((List.length l) + 1) * 8) <= 70368744177664))
 (rec (List.set seen (Int.toNat (List.getD x27 (Int.toNat x29) (0 : Int))) true) (l ++ ([(List.getD x27 (Int.toNat x29) (0 : Int))] : List Int)) (IntKind.wrap IntKind.i64 (x29 + (1 : Int))))
 (none))
 (none))
 (none))
 (rec seen l (IntKind.wrap IntKind.i64 (x29 + (1 : Int)))))
 (none))
 (none))
 (none))
 (k0 seen l)

def zcb (N : Nat) (p : DT7) (seen : (List Bool)) (l : (List Int)) (x14 : (List Bool)) (x15 : Int) (x16 : Int) (x27 : (List Int)) (x28 : Int) (x29 : Int) (k0 : (List Bool) -> (List Int) -> Option (List Int)) : Option (List Int) :=
 iter (fun (v : ((List Bool) × (List Int) × Int)) r => zc9 N p x14 x15 x16 x27 x28 v.1 v.2.1 v.2.2 (fun seen l x29 => (r (seen, l, x29))) k0) N (seen, l, x29)

def z1ca (N : Nat) (i : (DT7 × (List Bool) × Int × Int × (List Int) × Int)) (v : ((List Bool) × (List Int) × Int)) (r : ((List Bool) × (List Int) × Int) -> Option (List Int)) (K : Ex -> List A -> Option (List Int)) : Option (List Int) :=
 zc9 N i.1 i.2.1 i.2.2.1 i.2.2.2.1 i.2.2.2.2.1 i.2.2.2.2.2 v.1 v.2.1 v.2.2 (fun seen l x29 => (r (seen, l, x29))) (fun a1 a2 => (K (.exit 2) (mkS SQ26 31 (i.1, a1, a2, i.2.1, i.2.2.1, i.2.2.2.1, ()))))

def z19g (N : Nat) : Hd (List Int) := fun st K => (unS SQ23 18 (restr zzq 0 st)).bind fun x => iter (fun v r => z1ca N ((fun x => (x.1, x.2.2.2.1, x.2.2.2.2.1, x.2.2.2.2.2.1, x.2.2.2.2.2.2.1, x.2.2.2.2.2.2.2.1)) x) v r K) N ((fun x => (x.2.1, x.2.2.1, x.2.2.2.2.2.2.2.2.1)) x)

def t2_20 (N : Nat) : Tab (List Int) := []

theorem z162 {N : Nat} {c : Ctx} (hb : Base Tryd.prog (z1gg N) c) : zi Tryd.prog c (ze zlv z13f) (z19g N) :=
  z1q (s := SQ23) (m := 18) (z1ca N) zzq N (fun x => (x.1, x.2.2.2.1, x.2.2.2.2.1, x.2.2.2.2.2.1, x.2.2.2.2.2.2.1, x.2.2.2.2.2.2.2.1)) (fun x => (x.2.1, x.2.2.1, x.2.2.2.2.2.2.2.2.1)) (fun i v => (i.1, v.1, v.2.1, i.2.1, i.2.2.1, i.2.2.2.1, i.2.2.2.2.1, i.2.2.2.2.2, v.2.2, ())) (fun _ => rfl) (zd hb N (t2_20 N) L_20 zlv TabOk.nil [0, 0, 1, 1, 1, 0, 0, 1, 1, 0, 0, 1, 0, 1, 1, 1] _ rfl) (fun i v r K => by kernel_rfl)

def zca (N : Nat) (p : DT7) (x14 : (List Bool)) (x15 : Int) (seen : (List Bool)) (l : (List Int)) (x16 : Int) (rec : (List Bool) -> (List Int) -> Int -> Option (List Int)) (k0 : (List Int) -> Option (List Int)) : Option (List Int) :=
 cond (decide (x16 < x15))
 (cond (inR x16 (List.length x14))
 (cond (!(List.getD x14 (Int.toNat x16) false))
 (rec seen l (IntKind.wrap IntKind.i64 (x16 + (1 : Int))))
 (cond (inR x16 (List.length p.2.2.2.2.1))
 (zcb N p seen l x14 x15 x16 (List.getD p.2.2.2.2.1 (Int.toNat x16) ([] : List Int)) (((List.length (List.getD p.2.2.2.2.1 (Int.toNat x16) ([] : List Int))) : Nat) : Int) (0 : Int)
 (fun seen1 l1 => rec seen1 l1 (IntKind.wrap IntKind.i64 (x16 + (1 : Int)))))
 (none)))
 (none))
 (k0 l)

def zg6 (N : Nat) (p : DT7) (seen : (List Bool)) (l : (List Int)) (x14 : (List Bool)) (x15 : Int) (x16 : Int) (k0 : (List Int) -> Option (List Int)) : Option (List Int) :=
 iter (fun (v : ((List Bool) × (List Int) × Int)) r => zca N p x14 x15 v.1 v.2.1 v.2.2 (fun seen l x16 => (r (seen, l, x16))) k0) N (seen, l, x16)

def z1dn (N : Nat) (i : (DT7 × (List Bool) × Int)) (v : ((List Bool) × (List Int) × Int)) (r : ((List Bool) × (List Int) × Int) -> Option (List Int)) (K : Ex -> List A -> Option (List Int)) : Option (List Int) :=
 zca N i.1 i.2.1 i.2.2 v.1 v.2.1 v.2.2 (fun seen l x16 => (r (seen, l, x16))) (fun a0 => (K (.exit 0) (mkS [(6, .row (.int .i64))] 41 (a0, ()))))

def z1at (N : Nat) : Hd (List Int) := fun st K => (unS SQ26 31 (restr zys 0 st)).bind fun x => iter (fun v r => z1dn N ((fun x => (x.1, x.2.2.2.1, x.2.2.2.2.1)) x) v r K) N ((fun x => (x.2.1, x.2.2.1, x.2.2.2.2.2.1)) x)

def t1_20 (N : Nat) : Tab (List Int) := [(z13f, z19g N)]

theorem z17f {N : Nat} {c : Ctx} (hb : Base Tryd.prog (z1gg N) c) : zi Tryd.prog c (ze zlv [0, 1, 0, 1, 1, 1]) (z1at N) :=
  z1q (s := SQ26) (m := 31) (z1dn N) zys N (fun x => (x.1, x.2.2.2.1, x.2.2.2.2.1)) (fun x => (x.2.1, x.2.2.1, x.2.2.2.2.2.1)) (fun i v => (i.1, v.1, v.2.1, i.2.1, i.2.2, v.2.2, ())) (fun _ => rfl) (zd hb N (t1_20 N) L_20 zlv (TabOk.cons (z162 hb) TabOk.nil) zxh _ rfl) (fun i v r K => by kernel_rfl)

def zav (N : Nat) (p : DT7) (at_ : (List Bool)) : Option (List Int) :=
 cond (decide (((0 : Int) <= (((List.length at_) : Nat) : Int)) /\ (((((List.length at_) : Nat) : Int) <= (((List.length at_) : Nat) : Int)) /\ ((((((List.length at_) : Nat) : Int) * (1 : Int)) <= (281474976710656 : Int)) /\ ((((List.length at_) : Nat) : Int) <= (9223372036854775807 : Int))))))
 (zg6 N p (List.replicate (Int.toNat (((List.length at_) : Nat) : Int)) false) ([] : List Int) at_ (((List.length at_) : Nat) : Int) (0 : Int)
 (fun l => some l))
 (none)

def t_20 (N : Nat) : Tab (List Int) := [([0, 1, 0, 1, 1, 1], z1at N)]

theorem z126 (N : Nat) (x : z17 [(0, .v TT3), (0, .v (.sl .bool))]) : z7p (z1gg N) N (t_20 N) L_20 Tryd.f30 (mkS [(0, .v TT3), (0, .v (.sl .bool))] 0 x) (z5a (.v (.sl (.int .i64))) 2) = zav N x.1 x.2.1 := by kernel_rfl

def zen (N : Nat) : List A -> Res := z13 [(0, .v TT3), (0, .v (.sl .bool))] (fun x => zav N x.1 x.2.1) (zbr (.v (.sl (.int .i64))) 2)

theorem zm2 (N : Nat) : Contract Tryd.prog glob 30 (zen N) :=
  Contract.of (E := z1gg N) (H := t_20 N) (L := L_20) (N := N) (body := zlv) (K := (z5a (.v (.sl (.int .i64))) 2)) (z1fx N) Tryd.func30 (by kernel_rfl) (by decide) (fun _ hb => (TabOk.cons (z17f hb) TabOk.nil)) (fun x y h => by rw [z126]; exact h) (z1s (s := (.v (.sl (.int .i64)))) (m := 2))

def zlu : Code := (Tryd.f15.body).getD .skip

def L_21 : List (List Nat × List Nat) := [([0], [2, 1]), ([0, 0, 1], [11, 1, 2]), ([1, 0, 1], [1, 2]), ([0, 0, 1, 0, 1], [4]), ([1, 0, 1, 0, 1], [4]), ([0, 0, 1, 1], [13, 2, 1]), ([1, 0, 1, 1], [2, 1]), ([0, 0, 1, 0, 1, 1], [4]), ([1, 0, 1, 0, 1, 1], [4]), ([0, 1, 1, 1], [1, 2, 5]), ([0, 0, 1, 1, 1, 1], [25, 24, 2, 5, 1]), (z13b, [25, 24, 2, 5, 1]), ([0, 0, 0, 1, 0, 1, 1, 1, 1], [26, 25, 2, 5, 1, 24]), ([0, 1, 0, 0, 1, 0, 1, 1, 1, 1], [25, 2, 5, 1, 24]), ([1, 0, 1, 0, 0, 1, 0, 1, 1, 1, 1], [2, 5]), ([0, 0, 0, 1, 1, 0, 0, 1, 0, 1, 1, 1, 1], [2, 5, 1, 6, 25, 24]), ([1, 0, 0, 1, 1, 0, 0, 1, 0, 1, 1, 1, 1], [25, 24, 2, 5, 1]), ([0, 1, 1, 0, 0, 1, 0, 1, 1, 1, 1], [25, 24, 2, 5, 1]), ([1, 1, 1, 0, 0, 1, 0, 1, 1, 1, 1], [25, 24, 2, 5, 1]), ([1, 0, 1, 1, 1, 1], [2, 5]), (zm0, [41, 40, 39, 5]), (zug, [41, 40, 39, 5]), ([0, 0, 0, 1, 0, 1, 1, 1, 1, 1], [42, 39, 41, 5, 40]), ([0, 1, 0, 0, 1, 0, 1, 1, 1, 1, 1], [39, 41, 5, 40]), ([1, 0, 1, 0, 0, 1, 0, 1, 1, 1, 1, 1], []), ([0, 0, 0, 1, 1, 0, 0, 1, 0, 1, 1, 1, 1, 1], [5, 8, 41, 40, 39]), ([0, 1, 0, 0, 1, 1, 0, 0, 1, 0, 1, 1, 1, 1, 1], [48, 41, 40, 39, 5]), ([1, 1, 0, 0, 1, 1, 0, 0, 1, 0, 1, 1, 1, 1, 1], [41, 40, 39, 5]), ([0, 0, 1, 1, 0, 0, 1, 1, 0, 0, 1, 0, 1, 1, 1, 1, 1], [4]), ([1, 0, 1, 1, 0, 0, 1, 1, 0, 0, 1, 0, 1, 1, 1, 1, 1], [4]), ([0, 1, 1, 0, 0, 1, 0, 1, 1, 1, 1, 1], [41, 40, 39, 5]), ([1, 1, 1, 0, 0, 1, 0, 1, 1, 1, 1, 1], [41, 40, 39, 5]), (zx2, []), (zx1, [4]), (z137, [4])]

def z1gf (N : Nat) : Env := z1x tys glob [(30, zen N), (29, zg1 N), (13, zaw N)] [] [] [] false [] []

theorem z1fw (N : Nat) : EnvOk Tryd.prog (z1gf N) := zg mixed zw (FnsOk.cons (zm2 N) (FnsOk.cons (znd N) (FnsOk.cons (zg8 N) (FnsOk.nil)))) (ItsOk.nil)

def zcf (N : Nat) (s : (List UInt8)) (p : DT7) (x24 : Int) (at_ : (List Bool)) (x25 : Int) (rec : (List Bool) -> Int -> Option Bool) (k0 : (List Bool) -> Option Bool) : Option Bool :=
 cond (decide (x25 < x24))
 ((zav N p at_).bind fun y =>
 cond (inR (IntKind.wrap IntKind.i64 (x25 + (1 : Int))) (List.length s))
 ((zao N p y (((UInt8.toNat (List.getD s (Int.toNat (IntKind.wrap IntKind.i64 (x25 + (1 : Int)))) (0 : UInt8))) : Nat) : Int)).bind fun y1 =>
 rec y1 (IntKind.wrap IntKind.i64 (x25 + (1 : Int))))
 (none))
 (k0 at_)

def zch (N : Nat) (s : (List UInt8)) (p : DT7) (at_ : (List Bool)) (x24 : Int) (x25 : Int) (k0 : (List Bool) -> Option Bool) : Option Bool :=
 iter (fun (v : ((List Bool) × Int)) r => zcf N s p x24 v.1 v.2 (fun at_ x25 => (r (at_, x25))) k0) N (at_, x25)

def z1dm (N : Nat) (i : ((List UInt8) × DT7 × Int)) (v : ((List Bool) × Int)) (r : ((List Bool) × Int) -> Option Bool) (K : Ex -> List A -> Option Bool) : Option Bool :=
 zcf N i.1 i.2.1 i.2.2 v.1 v.2 (fun at_ x25 => (r (at_, x25))) (fun a1 => (K (.exit 0) (mkS [(2, .box TT3), (2, .v (.sl .bool))] 44 (i.2.1, a1, ()))))

def z1as (N : Nat) : Hd Bool := fun st K => (unS SQ73 24 (restr [25, 24, 2, 5, 1] 0 st)).bind fun x => iter (fun v r => z1dm N ((fun x => (x.1, x.2.1, x.2.2.2.1)) x) v r K) N ((fun x => (x.2.2.1, x.2.2.2.2.1)) x)

def t1_21 (N : Nat) : Tab Bool := []

theorem z17e {N : Nat} {c : Ctx} (hb : Base Tryd.prog (z1gf N) c) : zi Tryd.prog c (ze zlu z13b) (z1as N) :=
  z1q (s := SQ73) (m := 24) (z1dm N) [25, 24, 2, 5, 1] N (fun x => (x.1, x.2.1, x.2.2.2.1)) (fun x => (x.2.2.1, x.2.2.2.2.1)) (fun i v => (i.1, i.2.1, v.1, i.2.2, v.2, ())) (fun _ => rfl) (zd hb N (t1_21 N) L_21 zlu TabOk.nil [0, 0, 1, 0, 1, 1, 1, 1] _ rfl) (fun i v r K => by kernel_rfl)

def zce (N : Nat) (at_ : (List Bool)) (x39 : (List Int)) (x40 : Int) (x41 : Int) (rec : Int -> Option Bool) (k0 : Bool -> Option Bool) (k1 : Option Bool) : Option Bool :=
 cond (decide (x41 < x40))
 (cond (inR x41 (List.length x39))
 (cond (inR (List.getD x39 (Int.toNat x41) (0 : Int)) (List.length at_))
 (cond (List.getD at_ (Int.toNat (List.getD x39 (Int.toNat x41) (0 : Int))) false)
 (k0 true)
 (rec (IntKind.wrap IntKind.i64 (x41 + (1 : Int)))))
 (none))
 (none))
 (k1)

def zcg (N : Nat) (at_ : (List Bool)) (x39 : (List Int)) (x40 : Int) (x41 : Int) (k0 : Bool -> Option Bool) (k1 : Option Bool) : Option Bool :=
 iter (fun (v : Int) r => zce N at_ x39 x40 v (fun x41 => (r x41)) k0 k1) N x41

def z1c9 (N : Nat) (i : ((List Bool) × (List Int) × Int)) (v : Int) (r : Int -> Option Bool) (K : Ex -> List A -> Option Bool) : Option Bool :=
 zce N i.1 i.2.1 i.2.2 v (fun x41 => (r x41)) (fun a0 => (K .ret (mkS [(4, .v .bool)] 45 (a0, ())))) (K (.exit 2) (mkS [] 50 ()))

def z19f (N : Nat) : Hd Bool := fun st K => (unS SQ75 8 (restr [41, 40, 39, 5] 0 st)).bind fun x => iter (fun v r => z1c9 N ((fun x => (x.1, x.2.1, x.2.2.1)) x) v r K) N ((fun x => x.2.2.2.1) x)

def t2_21 (N : Nat) : Tab Bool := []

theorem z161 {N : Nat} {c : Ctx} (hb : Base Tryd.prog (z1gf N) c) : zi Tryd.prog c (ze zlu zug) (z19f N) :=
  z1q (s := SQ75) (m := 8) (z1c9 N) [41, 40, 39, 5] N (fun x => (x.1, x.2.1, x.2.2.1)) (fun x => x.2.2.2.1) (fun i v => (i.1, i.2.1, i.2.2, v, ())) (fun _ => rfl) (zd hb N (t2_21 N) L_21 zlu TabOk.nil zxb _ rfl) (fun i v r K => by kernel_rfl)

def z72 (N : Nat) (p : DT7) (s : (List UInt8)) : Option Bool :=
 (z8o N p).bind fun y =>
 cond (!y)
 (some false)
 (cond (s == ([] : List UInt8))
 (some p.2.1)
 (cond (inR (0 : Int) (List.length s))
 ((zao N p p.2.2.1 (((UInt8.toNat (List.getD s 0 (0 : UInt8))) : Nat) : Int)).bind fun y1 =>
 zch N s p y1 (IntKind.wrap IntKind.i64 ((((List.length s) : Nat) : Int) - (1 : Int))) (0 : Int)
 (fun at_ => zcg N at_ p.2.2.2.1 (((List.length p.2.2.2.1) : Nat) : Int) (0 : Int)
 (fun x4 => some x4)
 (some false)))
 (none)))

def t_21 (N : Nat) : Tab Bool := [(z13b, z1as N), (zug, z19f N)]

theorem z125 (N : Nat) (x : z17 zyp) : z7p (z1gf N) N (t_21 N) L_21 Tryd.f15 (mkS zyp 0 x) (z5a (.v .bool) 2) = z72 N x.1 x.2.1 := by kernel_rfl

def zax (N : Nat) : List A -> Res := z13 zyp (fun x => z72 N x.1 x.2.1) (zbr (.v .bool) 2)

theorem zg9 (N : Nat) : Contract Tryd.prog glob 15 (zax N) :=
  Contract.of (E := z1gf N) (H := t_21 N) (L := L_21) (N := N) (body := zlu) (K := (z5a (.v .bool) 2)) (z1fw N) Tryd.func15 (by kernel_rfl) (by decide) (fun _ hb => (TabOk.cons (z17e hb) (TabOk.cons (z161 hb) TabOk.nil))) (fun x y h => by rw [z125]; exact h) (z1s (s := (.v .bool)) (m := 2))

def zhb : Code := (Tryd.f28.body).getD .skip

def z1eg : List (List Nat × List Nat) := [([0], [0, 1]), ([0, 0, 1], [5, 0, 1]), ([0, 1, 0, 1], [5, 0, 1]), ([0, 0, 0, 0, 1, 0, 1], [9, 0, 5, 1]), ([1, 0, 0, 0, 1, 0, 1], [0, 5, 1]), ([1, 1, 0, 0, 0, 1, 0, 1], []), (zx8, [40, 5, 0, 1]), ([1, 0, 0, 1, 0, 0, 1, 0, 1], [5, 0, 1]), ([0, 0, 1, 0, 0, 1, 0, 0, 1, 0, 1], [4]), ([1, 0, 1, 0, 0, 1, 0, 0, 1, 0, 1], [4]), (zzn, [5, 0, 1]), ([1, 1, 0, 0, 1, 0, 1], [5, 0, 1]), ([1, 0, 1], []), ([0, 1, 1], [4]), ([1, 1, 1], [4])]

def z14a (N : Nat) : Env := z1x tys glob [] [] [] [] false [] []

theorem z1fv (N : Nat) : EnvOk Tryd.prog (z14a N) := zg mixed zw (FnsOk.nil) (ItsOk.nil)

def z5n (N : Nat) (l : (List Int)) (many : Int) (i : Int) (k0 : Bool -> Option Bool) : Option Bool :=
 cond (inR i (List.length l))
 (cond (decide ((List.getD l (Int.toNat i) (0 : Int)) < (0 : Int)))
 (k0 true)
 (cond (inR i (List.length l))
 (cond (decide (many <= (List.getD l (Int.toNat i) (0 : Int))))
 (k0 true)
 (cond (decide ((0 : Int) < i))
 (cond (inR (IntKind.wrap IntKind.i64 (i - (1 : Int))) (List.length l))
 (cond (inR i (List.length l))
 (k0 (decide ((List.getD l (Int.toNat i) (0 : Int)) <= (List.getD l (Int.toNat (IntKind.wrap IntKind.i64 (i - (1 : Int)))) (0 : Int)))))
 (none))
 (none))
 (k0 false)))
 (none)))
 (none)

def z1bn (N : Nat) (x : z17 zx0) (K : Ex -> List A -> Option Bool) : Option Bool :=
 z5n N x.1 x.2.1 x.2.2.1 (fun a3 => (K .normal (mkS [(0, .v (.sl (.int .i64))), (0, .v (.int .i64)), (3, .v (.int .i64)), (34, .v .bool)] 0 (x.1, x.2.1, x.2.2.1, a3, ()))))

def z18t (N : Nat) : Hd Bool := fun st K => (unS zx0 35 (restr [0, 5, 1] 0 st)).bind fun x => z1bn N x K

def t3_22 (N : Nat) : Tab Bool := []

theorem z15f {N : Nat} {c : Ctx} (hb : Base Tryd.prog (z14a N) c) : zi Tryd.prog c (ze zhb zx8) (z18t N) :=
  zo (s := zx0) (m := 35) (g := z1bn N) [0, 5, 1] (zd hb N (t3_22 N) z1eg zhb TabOk.nil zx8 _ rfl) (fun x K => by kernel_rfl)

def z5o (N : Nat) (l : (List Int)) (many : Int) (i : Int) (k0 : Bool -> Option Bool) (k1 : Option Bool) : Option Bool :=
 z5n N l many i
 (fun x40 => cond x40
 (k0 false)
 (k1))

def z1c8 (N : Nat) (x : z17 zx0) (K : Ex -> List A -> Option Bool) : Option Bool :=
 z5o N x.1 x.2.1 x.2.2.1 (fun a0 => (K .ret (mkS [(4, .v .bool)] 36 (a0, ())))) (K .normal (mkS zx0 35 (x.1, x.2.1, x.2.2.1, ())))

def z19e (N : Nat) : Hd Bool := fun st K => (unS zx0 35 (restr [0, 5, 1] 0 st)).bind fun x => z1c8 N x K

def t2_22 (N : Nat) : Tab Bool := [(zx8, z18t N)]

theorem z160 {N : Nat} {c : Ctx} (hb : Base Tryd.prog (z14a N) c) : zi Tryd.prog c (ze zhb zzn) (z19e N) :=
  zo (s := zx0) (m := 35) (g := z1c8 N) [0, 5, 1] (zd hb N (t2_22 N) z1eg zhb (TabOk.cons (z15f hb) TabOk.nil) zzn _ rfl) (fun x K => by kernel_rfl)

def z29 (N : Nat) (l : (List Int)) (many : Int) (i : Int) (rec : Int -> Option Bool) (k0 : Bool -> Option Bool) (k1 : Option Bool) : Option Bool :=
 cond (decide (i < (((List.length l) : Nat) : Int)))
 (z5o N l many i
 (fun x4 => k0 x4)
 (rec (IntKind.wrap IntKind.i64 (i + (1 : Int)))))
 (k1)

def z9e (N : Nat) (l : (List Int)) (many : Int) (i : Int) (k0 : Bool -> Option Bool) (k1 : Option Bool) : Option Bool :=
 iter (fun (v : Int) r => z29 N l many v (fun i => (r i)) k0 k1) N i

def z1dl (N : Nat) (i : ((List Int) × Int)) (v : Int) (r : Int -> Option Bool) (K : Ex -> List A -> Option Bool) : Option Bool :=
 z29 N i.1 i.2 v (fun i => (r i)) (fun a0 => (K .ret (mkS [(4, .v .bool)] 36 (a0, ())))) (K (.exit 0) (mkS [] 41 ()))

def z1ar (N : Nat) : Hd Bool := fun st K => (unS zx0 35 (restr [5, 0, 1] 0 st)).bind fun x => iter (fun v r => z1dl N ((fun x => (x.1, x.2.1)) x) v r K) N ((fun x => x.2.2.1) x)

def t1_22 (N : Nat) : Tab Bool := [(zzn, z19e N)]

theorem z17d {N : Nat} {c : Ctx} (hb : Base Tryd.prog (z14a N) c) : zi Tryd.prog c (ze zhb [0, 1, 0, 1]) (z1ar N) :=
  z1q (s := zx0) (m := 35) (z1dl N) [5, 0, 1] N (fun x => (x.1, x.2.1)) (fun x => x.2.2.1) (fun i v => (i.1, i.2, v, ())) (fun _ => rfl) (zd hb N (t1_22 N) z1eg zhb (TabOk.cons (z160 hb) TabOk.nil) [0, 0, 1, 0, 1] _ rfl) (fun i v r K => by kernel_rfl)

def z2f (N : Nat) (l : (List Int)) (many : Int) : Option Bool :=
 z9e N l many (0 : Int)
 (fun x4 => some x4)
 (some true)

def t_22 (N : Nat) : Tab Bool := [([0, 1, 0, 1], z1ar N)]

theorem z124 (N : Nat) (x : z17 z13q) : z7p (z14a N) N (t_22 N) z1eg Tryd.f28 (mkS z13q 0 x) (z5a (.v .bool) 2) = z2f N x.1 x.2.1 := by kernel_rfl

def z8k (N : Nat) : List A -> Res := z13 z13q (fun x => z2f N x.1 x.2.1) (zbr (.v .bool) 2)

theorem zf2 (N : Nat) : Contract Tryd.prog glob 28 (z8k N) :=
  Contract.of (E := z14a N) (H := t_22 N) (L := z1eg) (N := N) (body := zhb) (K := (z5a (.v .bool) 2)) (z1fv N) Tryd.func28 (by kernel_rfl) (by decide) (fun _ hb => (TabOk.cons (z17d hb) TabOk.nil)) (fun x y h => by rw [z124]; exact h) (z1s (s := (.v .bool)) (m := 2))

def zha : Code := (Tryd.f14.body).getD .skip

def z1ef : List (List Nat × List Nat) := [([0], [1]), ([0, 1], [3, 1]), ([0, 0, 1, 1], [30, 3, 1]), ([1, 0, 1, 1], [3, 1]), ([0, 0, 1, 0, 1, 1], [2]), ([1, 0, 1, 0, 1, 1], [2]), ([0, 0, 1, 1, 1], [4, 3, 1]), ([0, 1, 0, 1, 1, 1], [4, 3, 1]), ([0, 0, 0, 0, 1, 0, 1, 1, 1], [33, 1, 4, 3]), ([1, 0, 0, 0, 1, 0, 1, 1, 1], [1, 4, 3]), ([1, 1, 0, 0, 0, 1, 0, 1, 1, 1], []), ([0, 0, 0, 1, 0, 0, 1, 0, 1, 1, 1], [43, 4, 3, 1]), ([1, 0, 0, 1, 0, 0, 1, 0, 1, 1, 1], [4, 3, 1]), ([0, 0, 1, 0, 0, 1, 0, 0, 1, 0, 1, 1, 1], [2]), ([1, 0, 1, 0, 0, 1, 0, 0, 1, 0, 1, 1, 1], [2]), ([0, 1, 0, 0, 1, 0, 1, 1, 1], [4, 3, 1]), ([1, 1, 0, 0, 1, 0, 1, 1, 1], [4, 3, 1]), ([1, 0, 1, 1, 1], []), ([0, 1, 1, 1, 1], [2]), ([1, 1, 1, 1, 1], [2])]

def z149 (N : Nat) : Env := z1x tys glob [(28, z8k N)] [] [] [] false [] []

theorem z1fu (N : Nat) : EnvOk Tryd.prog (z149 N) := zg mixed zw (FnsOk.cons (zf2 N) (FnsOk.nil)) (ItsOk.nil)

def z6b (N : Nat) (p : DT7) (many : Int) (k0 : Bool -> Option Bool) : Option Bool :=
 cond (decide ((512 : Int) < many))
 (k0 true)
 (cond ((((List.length p.2.2.2.2.1) : Nat) : Int) != many)
 (k0 true)
 ((z2f N p.2.2.1 many).bind fun y =>
 cond (!y)
 (k0 true)
 ((z2f N p.2.2.2.1 many).bind fun y1 =>
 k0 (!y1))))

def z1c7 (N : Nat) (x : z17 z136) (K : Ex -> List A -> Option Bool) : Option Bool :=
 z6b N x.1 x.2.1 (fun a2 => (K .normal (mkS [(1, .box TT3), (1, .v (.int .i64)), (26, .v .bool)] 13 (x.1, x.2.1, a2, ()))))

def z19d (N : Nat) : Hd Bool := fun st K => (unS z136 40 (restr [3, 1] 0 st)).bind fun x => z1c7 N x K

def t2_23 (N : Nat) : Tab Bool := []

theorem z15z {N : Nat} {c : Ctx} (hb : Base Tryd.prog (z149 N) c) : zi Tryd.prog c (ze zha [0, 0, 1, 1]) (z19d N) :=
  zo (s := z136) (m := 40) (g := z1c7 N) [3, 1] (zd hb N (t2_23 N) z1ef zha TabOk.nil [0, 0, 1, 1] _ rfl) (fun x K => by kernel_rfl)

def z6c (N : Nat) (p : DT7) (many : Int) (k0 : Bool -> Option Bool) (k1 : Option Bool) : Option Bool :=
 z6b N p many
 (fun x30 => cond x30
 (k0 false)
 (k1))

def z1dk (N : Nat) (x : z17 z136) (K : Ex -> List A -> Option Bool) : Option Bool :=
 z6c N x.1 x.2.1 (fun a0 => (K .ret (mkS [(2, .v .bool)] 41 (a0, ())))) (K .normal (mkS z136 40 (x.1, x.2.1, ())))

def z1aq (N : Nat) : Hd Bool := fun st K => (unS z136 40 (restr [3, 1] 0 st)).bind fun x => z1dk N x K

def t1_23 (N : Nat) : Tab Bool := [([0, 0, 1, 1], z19d N)]

theorem z17c {N : Nat} {c : Ctx} (hb : Base Tryd.prog (z149 N) c) : zi Tryd.prog c (ze zha [0, 1, 1]) (z1aq N) :=
  zo (s := z136) (m := 40) (g := z1dk N) [3, 1] (zd hb N (t1_23 N) z1ef zha (TabOk.cons (z15z hb) TabOk.nil) [0, 1, 1] _ rfl) (fun x K => by kernel_rfl)

def z2i (N : Nat) (p : DT7) (many : Int) (i : Int) (rec : Int -> Option Bool) (k0 : Bool -> Option Bool) (k1 : Option Bool) : Option Bool :=
 cond (decide (i < many))
 (cond (inR i (List.length p.2.2.2.2.1))
 ((z2f N (List.getD p.2.2.2.2.1 (Int.toNat i) ([] : List Int)) many).bind fun y =>
 cond (!y)
 (k0 false)
 (rec (IntKind.wrap IntKind.i64 (i + (1 : Int)))))
 (none))
 (k1)

def zab (N : Nat) (p : DT7) (many : Int) (i : Int) (k0 : Bool -> Option Bool) (k1 : Option Bool) : Option Bool :=
 iter (fun (v : Int) r => z2i N p many v (fun i => (r i)) k0 k1) N i

def z1bm (N : Nat) (i : (DT7 × Int)) (v : Int) (r : Int -> Option Bool) (K : Ex -> List A -> Option Bool) : Option Bool :=
 z2i N i.1 i.2 v (fun i => (r i)) (fun a0 => (K .ret (mkS [(2, .v .bool)] 41 (a0, ())))) (K (.exit 0) (mkS [] 44 ()))

def z18s (N : Nat) : Hd Bool := fun st K => (unS [(1, .box TT3), (1, .v (.int .i64)), (0, .v (.int .i64))] 39 (restr [4, 3, 1] 0 st)).bind fun x => iter (fun v r => z1bm N ((fun x => (x.1, x.2.1)) x) v r K) N ((fun x => x.2.2.1) x)

def t3_23 (N : Nat) : Tab Bool := []

theorem z15e {N : Nat} {c : Ctx} (hb : Base Tryd.prog (z149 N) c) : zi Tryd.prog c (ze zha [0, 1, 0, 1, 1, 1]) (z18s N) :=
  z1q (s := [(1, .box TT3), (1, .v (.int .i64)), (0, .v (.int .i64))]) (m := 39) (z1bm N) [4, 3, 1] N (fun x => (x.1, x.2.1)) (fun x => x.2.2.1) (fun i v => (i.1, i.2, v, ())) (fun _ => rfl) (zd hb N (t3_23 N) z1ef zha TabOk.nil zxh _ rfl) (fun i v r K => by kernel_rfl)

def z3d (N : Nat) (p : DT7) : Option Bool :=
 z6c N p (((List.length p.1) : Nat) : Int)
 (fun x2 => some x2)
 (zab N p (((List.length p.1) : Nat) : Int) (0 : Int)
 (fun x21 => some x21)
 (some true))

def t_23 (N : Nat) : Tab Bool := [([0, 1, 1], z1aq N), ([0, 1, 0, 1, 1, 1], z18s N)]

theorem z123 (N : Nat) (x : z17 [(0, .v TT3)]) : z7p (z149 N) N (t_23 N) z1ef Tryd.f14 (mkS [(0, .v TT3)] 0 x) (z5a (.v .bool) 1) = z3d N x.1 := by kernel_rfl

def z5p (N : Nat) : List A -> Res := z13 [(0, .v TT3)] (fun x => z3d N x.1) (zbr (.v .bool) 1)

theorem zac (N : Nat) : Contract Tryd.prog glob 14 (z5p N) :=
  Contract.of (E := z149 N) (H := t_23 N) (L := z1ef) (N := N) (body := zha) (K := (z5a (.v .bool) 1)) (z1fu N) Tryd.func14 (by kernel_rfl) (by decide) (fun _ hb => (TabOk.cons (z17c hb) (TabOk.cons (z15e hb) TabOk.nil))) (fun x y h => by rw [z123]; exact h) (z1s (s := (.v .bool)) (m := 1))

def zrq : Code := (Tryd.f31.body).getD .skip

def L_24 : List (List Nat × List Nat) := [([0], [1, 2]), ([0, 1], [1, 5]), ([0, 0, 1, 1], [6, 1, 5]), ([0, 1, 0, 1, 1], [6, 1, 5]), ([0, 0, 0, 0, 1, 0, 1, 1], [14, 5, 6, 1]), ([1, 0, 0, 0, 1, 0, 1, 1], [5, 6, 1]), ([1, 1, 0, 0, 0, 1, 0, 1, 1], [5]), ([0, 0, 1, 0, 0, 1, 0, 1, 1], [6, 1, 5]), (zuh, [6, 1, 5]), ([1, 1, 0, 0, 1, 0, 1, 1], [6, 1, 5]), ([1, 0, 1, 1], [5]), ([0, 1, 1, 1], [4]), ([1, 1, 1, 1], [4])]

def E_24 (N : Nat) : Env := z1x tys glob [] [] [] [] false [] []

theorem z1ft (N : Nat) : EnvOk Tryd.prog (E_24 N) := zg mixed zw (FnsOk.nil) (ItsOk.nil)

def z59 (N : Nat) (b : Int) (w : Int) (i : Int) (rec : Int -> Int -> Option Bool) (k0 : Int -> Option Bool) : Option Bool :=
 cond (decide (i < (Int.tmod b (64 : Int))))
 (rec (IntKind.wrap IntKind.u64 (Int.tdiv w (2 : Int))) (IntKind.wrap IntKind.i64 (i + (1 : Int))))
 (k0 w)

def z88 (N : Nat) (b : Int) (w : Int) (i : Int) (k0 : Int -> Option Bool) : Option Bool :=
 iter (fun (v : (Int × Int)) r => z59 N b v.1 v.2 (fun w i => (r (w, i))) k0) N (w, i)

def z1dj (N : Nat) (i : Int) (v : (Int × Int)) (r : (Int × Int) -> Option Bool) (K : Ex -> List A -> Option Bool) : Option Bool :=
 z59 N i v.1 v.2 (fun w i => (r (w, i))) (fun a0 => (K (.exit 0) (mkS [(5, .v (.int .u64))] 16 (a0, ()))))

def z1ap (N : Nat) : Hd Bool := fun st K => (unS [(1, .v (.int .i64)), (3, .v (.int .u64)), (0, .v (.int .i64))] 15 (restr [6, 1, 5] 0 st)).bind fun x => iter (fun v r => z1dj N ((fun x => x.1) x) v r K) N ((fun x => (x.2.1, x.2.2.1)) x)

def t1_24 (N : Nat) : Tab Bool := []

theorem z17b {N : Nat} {c : Ctx} (hb : Base Tryd.prog (E_24 N) c) : zi Tryd.prog c (ze zrq [0, 1, 0, 1, 1]) (z1ap N) :=
  z1q (s := [(1, .v (.int .i64)), (3, .v (.int .u64)), (0, .v (.int .i64))]) (m := 15) (z1dj N) [6, 1, 5] N (fun x => x.1) (fun x => (x.2.1, x.2.2.1)) (fun i v => (i, v.1, v.2, ())) (fun _ => rfl) (zd hb N (t1_24 N) L_24 zrq TabOk.nil [0, 0, 1, 0, 1, 1] _ rfl) (fun i v r K => by kernel_rfl)

def z5q (N : Nat) (s : (List Int)) (b : Int) : Option Bool :=
 cond (inR (IntKind.wrap IntKind.i64 (Int.tdiv b (64 : Int))) 4)
 (cond (decide ((Int.toNat (IntKind.wrap IntKind.i64 (Int.tdiv b (64 : Int)))) < (List.length s)))
 (z88 N b (List.getD s (Int.toNat (IntKind.wrap IntKind.i64 (Int.tdiv b (64 : Int)))) (0 : Int)) (0 : Int)
 (fun w => some ((Int.tmod w (2 : Int)) == (1 : Int))))
 (none))
 (none)

def t_24 (N : Nat) : Tab Bool := [([0, 1, 0, 1, 1], z1ap N)]

theorem z122 (N : Nat) (x : z17 SQ89) : z7p (E_24 N) N (t_24 N) L_24 Tryd.f31 (mkS SQ89 0 x) (z5a (.v .bool) 2) = z5q N x.1 x.2.1 := by kernel_rfl

def zbf (N : Nat) : List A -> Res := z13 SQ89 (fun x => z5q N x.1 x.2.1) (zbr (.v .bool) 2)

theorem zhx (N : Nat) : Contract Tryd.prog glob 31 (zbf N) :=
  Contract.of (E := E_24 N) (H := t_24 N) (L := L_24) (N := N) (body := zrq) (K := (z5a (.v .bool) 2)) (z1ft N) Tryd.func31 (by kernel_rfl) (by decide) (fun _ hb => (TabOk.cons (z17b hb) TabOk.nil)) (fun x y h => by rw [z122]; exact h) (z1s (s := (.v .bool)) (m := 2))

def zrp : Code := (Tryd.f33.body).getD .skip

def L_25 : List (List Nat × List Nat) := [([0], [0, 1]), ([0, 0, 1], [5, 0, 1]), ([0, 1, 0, 1], [5, 0, 1]), ([0, 0, 0, 0, 1, 0, 1], [9, 0, 5, 1]), ([1, 0, 0, 0, 1, 0, 1], [0, 5, 1]), ([1, 1, 0, 0, 0, 1, 0, 1], []), (zx8, [17, 5, 0, 1]), ([1, 0, 0, 1, 0, 0, 1, 0, 1], [5, 0, 1]), ([0, 0, 1, 0, 0, 1, 0, 0, 1, 0, 1], [4]), ([1, 0, 1, 0, 0, 1, 0, 0, 1, 0, 1], [4]), (zzn, [5, 0, 1]), ([1, 1, 0, 0, 1, 0, 1], [5, 0, 1]), ([1, 0, 1], []), ([0, 1, 1], [4]), ([1, 1, 1], [4])]

def E_25 (N : Nat) : Env := z1x tys glob [] [] [] [] false [] []

theorem z1fs (N : Nat) : EnvOk Tryd.prog (E_25 N) := zg mixed zw (FnsOk.nil) (ItsOk.nil)

def z3c (N : Nat) (l : (List Int)) (n : Int) (i : Int) (rec : Int -> Option Bool) (k0 : Bool -> Option Bool) (k1 : Option Bool) : Option Bool :=
 cond (decide (i < (((List.length l) : Nat) : Int)))
 (cond (inR i (List.length l))
 (cond ((List.getD l (Int.toNat i) (0 : Int)) == n)
 (k0 true)
 (rec (IntKind.wrap IntKind.i64 (i + (1 : Int)))))
 (none))
 (k1)

def zd1 (N : Nat) (l : (List Int)) (n : Int) (i : Int) (k0 : Bool -> Option Bool) (k1 : Option Bool) : Option Bool :=
 iter (fun (v : Int) r => z3c N l n v (fun i => (r i)) k0 k1) N i

def z1di (N : Nat) (i : ((List Int) × Int)) (v : Int) (r : Int -> Option Bool) (K : Ex -> List A -> Option Bool) : Option Bool :=
 z3c N i.1 i.2 v (fun i => (r i)) (fun a0 => (K .ret (mkS [(4, .v .bool)] 13 (a0, ())))) (K (.exit 0) (mkS [] 18 ()))

def z1ao (N : Nat) : Hd Bool := fun st K => (unS zx0 12 (restr [5, 0, 1] 0 st)).bind fun x => iter (fun v r => z1di N ((fun x => (x.1, x.2.1)) x) v r K) N ((fun x => x.2.2.1) x)

def t1_25 (N : Nat) : Tab Bool := []

theorem z17a {N : Nat} {c : Ctx} (hb : Base Tryd.prog (E_25 N) c) : zi Tryd.prog c (ze zrp [0, 1, 0, 1]) (z1ao N) :=
  z1q (s := zx0) (m := 12) (z1di N) [5, 0, 1] N (fun x => (x.1, x.2.1)) (fun x => x.2.2.1) (fun i v => (i.1, i.2, v, ())) (fun _ => rfl) (zd hb N (t1_25 N) L_25 zrp TabOk.nil [0, 0, 1, 0, 1] _ rfl) (fun i v r K => by kernel_rfl)

def z3w (N : Nat) (l : (List Int)) (n : Int) : Option Bool :=
 zd1 N l n (0 : Int)
 (fun x4 => some x4)
 (some false)

def t_25 (N : Nat) : Tab Bool := [([0, 1, 0, 1], z1ao N)]

theorem z121 (N : Nat) (x : z17 z13q) : z7p (E_25 N) N (t_25 N) L_25 Tryd.f33 (mkS z13q 0 x) (z5a (.v .bool) 2) = z3w N x.1 x.2.1 := by kernel_rfl

def z87 (N : Nat) : List A -> Res := z13 z13q (fun x => z3w N x.1 x.2.1) (zbr (.v .bool) 2)

theorem zd2 (N : Nat) : Contract Tryd.prog glob 33 (z87 N) :=
  Contract.of (E := E_25 N) (H := t_25 N) (L := L_25) (N := N) (body := zrp) (K := (z5a (.v .bool) 2)) (z1fs N) Tryd.func33 (by kernel_rfl) (by decide) (fun _ hb => (TabOk.cons (z17a hb) TabOk.nil)) (fun x y h => by rw [z121]; exact h) (z1s (s := (.v .bool)) (m := 2))

def zh9 : Code := (Tryd.f32.body).getD .skip

def z1ee : List (List Nat × List Nat) := [([0], [2, 0, 1]), ([0, 1], [2, 0, 1, 7]), ([0, 0, 1, 1], [8, 2, 0, 1, 7]), ([0, 1, 0, 1, 1], [8, 2, 0, 1, 7]), ([0, 0, 0, 0, 1, 0, 1, 1], [11, 0, 8, 1, 7, 2]), ([1, 0, 0, 0, 1, 0, 1, 1], [0, 8, 1, 7, 2]), ([1, 1, 0, 0, 0, 1, 0, 1, 1], [7]), (z1e7, [21, 7, 8, 2, 0, 1]), ([1, 0, 0, 1, 0, 0, 1, 0, 1, 1], [8, 2, 0, 1, 7]), ([0, 1, 0, 0, 1, 0, 0, 1, 0, 1, 1], [8, 2, 0, 1, 7]), (zuh, [8, 2, 0, 1, 7]), ([1, 1, 0, 0, 1, 0, 1, 1], [8, 2, 0, 1, 7]), ([1, 0, 1, 1], [7]), ([0, 1, 1, 1], [6]), ([1, 1, 1, 1], [6])]

def z148 (N : Nat) : Env := z1x tys glob [(33, z87 N)] [(7, (.int .i64)), (6, (.int .i64))] [] [] false [] []

theorem z1fr (N : Nat) : EnvOk Tryd.prog (z148 N) := zg mixed zw (FnsOk.cons (zd2 N) (FnsOk.nil)) (ItsOk.nil)

def z73 (N : Nat) (a : (List Int)) (b : (List Int)) (many : Int) (out : (List Int)) (n : Int) (k0 : Bool -> Option (List Int)) : Option (List Int) :=
 (z3w N a n).bind fun y =>
 cond y
 (k0 true)
 ((z3w N b n).bind fun y1 =>
 k0 y1)

def z1bl (N : Nat) (x : z17 SQ6) (K : Ex -> List A -> Option (List Int)) : Option (List Int) :=
 z73 N x.1 x.2.1 x.2.2.1 x.2.2.2.1 x.2.2.2.2.1 (fun a5 => (K .normal (mkS [(0, .v (.sl (.int .i64))), (0, .v (.sl (.int .i64))), (0, .v (.int .i64)), (4, .row (.int .i64)), (0, .v (.int .i64)), (12, .v .bool)] 5 (x.1, x.2.1, x.2.2.1, x.2.2.2.1, x.2.2.2.2.1, a5, ()))))

def z18r (N : Nat) : Hd (List Int) := fun st K => (unS SQ6 18 (restr [0, 8, 1, 7, 2] 0 st)).bind fun x => z1bl N x K

def t3_26 (N : Nat) : Tab (List Int) := []

theorem z15d {N : Nat} {c : Ctx} (hb : Base Tryd.prog (z148 N) c) : zi Tryd.prog c (ze zh9 z1e7) (z18r N) :=
  zo (s := SQ6) (m := 18) (g := z1bl N) [0, 8, 1, 7, 2] (zd hb N (t3_26 N) z1ee zh9 TabOk.nil z1e7 _ rfl) (fun x K => by kernel_rfl)

def z74 (N : Nat) (a : (List Int)) (b : (List Int)) (many : Int) (out : (List Int)) (n : Int) (k0 : (List Int) -> Option (List Int)) : Option (List Int) :=
 z73 N a b many out n
 (fun x21 => cond x21
 (cond (decide ((((List.length out) + 1) * 8) <= 70368744177664))
 (k0 (out ++ ([n] : List Int)))
 (none))
 (k0 out))

def z1c6 (N : Nat) (x : z17 SQ6) (K : Ex -> List A -> Option (List Int)) : Option (List Int) :=
 z74 N x.1 x.2.1 x.2.2.1 x.2.2.2.1 x.2.2.2.2.1 (fun a3 => (K .normal (mkS SQ6 18 (x.1, x.2.1, x.2.2.1, a3, x.2.2.2.2.1, ()))))

def z19c (N : Nat) : Hd (List Int) := fun st K => (unS SQ6 18 (restr [0, 8, 1, 7, 2] 0 st)).bind fun x => z1c6 N x K

def t2_26 (N : Nat) : Tab (List Int) := [(z1e7, z18r N)]

theorem z15y {N : Nat} {c : Ctx} (hb : Base Tryd.prog (z148 N) c) : zi Tryd.prog c (ze zh9 zuh) (z19c N) :=
  zo (s := SQ6) (m := 18) (g := z1c6 N) [0, 8, 1, 7, 2] (zd hb N (t2_26 N) z1ee zh9 (TabOk.cons (z15d hb) TabOk.nil) zuh _ rfl) (fun x K => by kernel_rfl)

def z2o (N : Nat) (a : (List Int)) (b : (List Int)) (many : Int) (out : (List Int)) (n : Int) (rec : (List Int) -> Int -> Option (List Int)) (k0 : (List Int) -> Option (List Int)) : Option (List Int) :=
 cond (decide (n < many))
 (z74 N a b many out n
 (fun out1 => rec out1 (IntKind.wrap IntKind.i64 (n + (1 : Int)))))
 (k0 out)

def zbe (N : Nat) (a : (List Int)) (b : (List Int)) (many : Int) (out : (List Int)) (n : Int) (k0 : (List Int) -> Option (List Int)) : Option (List Int) :=
 iter (fun (v : ((List Int) × Int)) r => z2o N a b many v.1 v.2 (fun out n => (r (out, n))) k0) N (out, n)

def z1dh (N : Nat) (i : ((List Int) × (List Int) × Int)) (v : ((List Int) × Int)) (r : ((List Int) × Int) -> Option (List Int)) (K : Ex -> List A -> Option (List Int)) : Option (List Int) :=
 z2o N i.1 i.2.1 i.2.2 v.1 v.2 (fun out n => (r (out, n))) (fun a0 => (K (.exit 0) (mkS [(7, .row (.int .i64))] 19 (a0, ()))))

def z1an (N : Nat) : Hd (List Int) := fun st K => (unS SQ6 18 (restr [8, 2, 0, 1, 7] 0 st)).bind fun x => iter (fun v r => z1dh N ((fun x => (x.1, x.2.1, x.2.2.1)) x) v r K) N ((fun x => (x.2.2.2.1, x.2.2.2.2.1)) x)

def t1_26 (N : Nat) : Tab (List Int) := [(zuh, z19c N)]

theorem z179 {N : Nat} {c : Ctx} (hb : Base Tryd.prog (z148 N) c) : zi Tryd.prog c (ze zh9 [0, 1, 0, 1, 1]) (z1an N) :=
  z1q (s := SQ6) (m := 18) (z1dh N) [8, 2, 0, 1, 7] N (fun x => (x.1, x.2.1, x.2.2.1)) (fun x => (x.2.2.2.1, x.2.2.2.2.1)) (fun i v => (i.1, i.2.1, i.2.2, v.1, v.2, ())) (fun _ => rfl) (zd hb N (t1_26 N) z1ee zh9 (TabOk.cons (z15y hb) TabOk.nil) [0, 0, 1, 0, 1, 1] _ rfl) (fun i v r K => by kernel_rfl)

def z4s (N : Nat) (a : (List Int)) (b : (List Int)) (many : Int) : Option (List Int) :=
 zbe N a b many ([] : List Int) (0 : Int)
 (fun out => some out)

def t_26 (N : Nat) : Tab (List Int) := [([0, 1, 0, 1, 1], z1an N)]

theorem z120 (N : Nat) (x : z17 SQ58) : z7p (z148 N) N (t_26 N) z1ee Tryd.f32 (mkS SQ58 0 x) (z5a (.v (.sl (.int .i64))) 3) = z4s N x.1 x.2.1 x.2.2.1 := by kernel_rfl

def zad (N : Nat) : List A -> Res := z13 SQ58 (fun x => z4s N x.1 x.2.1 x.2.2.1) (zbr (.v (.sl (.int .i64))) 3)

theorem zgx (N : Nat) : Contract Tryd.prog glob 32 (zad N) :=
  Contract.of (E := z148 N) (H := t_26 N) (L := z1ee) (N := N) (body := zh9) (K := (z5a (.v (.sl (.int .i64))) 3)) (z1fr N) Tryd.func32 (by kernel_rfl) (by decide) (fun _ hb => (TabOk.cons (z179 hb) TabOk.nil)) (fun x y h => by rw [z120]; exact h) (z1s (s := (.v (.sl (.int .i64)))) (m := 3))

def zbq : Code := (Tryd.f16.body).getD .skip

def z13h : List (List Nat × List Nat) := [([0], [2, 1]), ([0, 0, 1], [13, 1, 2]), ([1, 0, 1], [1, 2]), ([0, 0, 1, 0, 1], [4]), ([1, 0, 1, 0, 1], [4]), ([0, 0, 1, 1], [15, 2, 1]), ([1, 0, 1, 1], [2, 1]), ([0, 0, 1, 0, 1, 1], [4]), ([1, 0, 1, 0, 1, 1], [4]), ([0, 1, 1, 1], [1, 5, 2]), ([0, 1, 1, 1, 1], [1, 5, 2, 6]), (zm0, [7, 1, 5, 2, 6]), (zug, [7, 1, 5, 2, 6]), ([0, 0, 0, 0, 1, 0, 1, 1, 1, 1, 1], [23, 5, 2, 1, 7, 6]), ([1, 0, 0, 0, 1, 0, 1, 1, 1, 1, 1], [5, 2, 1, 7]), ([1, 1, 0, 0, 0, 1, 0, 1, 1, 1, 1, 1], [6, 2]), ([0, 0, 0, 1, 0, 0, 1, 0, 1, 1, 1, 1, 1], [5, 2, 1, 7, 6]), ([0, 0, 1, 0, 0, 1, 0, 0, 1, 0, 1, 1, 1, 1, 1], [8, 5, 2, 1, 7, 6]), (PQ98, [8, 5, 2, 1, 7, 6]), ([0, 0, 0, 0, 1, 0, 1, 0, 0, 1, 0, 0, 1, 0, 1, 1, 1, 1, 1], [29, 2, 5, 8, 1, 7, 6]), ([1, 0, 0, 0, 1, 0, 1, 0, 0, 1, 0, 0, 1, 0, 1, 1, 1, 1, 1], [2, 5, 8, 1, 7, 6]), ([1, 1, 0, 0, 0, 1, 0, 1, 0, 0, 1, 0, 0, 1, 0, 1, 1, 1, 1, 1], [6, 2, 7, 1]), ([0, 0, 0, 1, 0, 0, 1, 0, 1, 0, 0, 1, 0, 0, 1, 0, 1, 1, 1, 1, 1], [44, 6, 5, 8, 2, 1, 7]), ([1, 0, 0, 1, 0, 0, 1, 0, 1, 0, 0, 1, 0, 0, 1, 0, 1, 1, 1, 1, 1], [8, 5, 2, 1, 7, 6]), ([0, 1, 0, 0, 1, 0, 0, 1, 0, 1, 0, 0, 1, 0, 0, 1, 0, 1, 1, 1, 1, 1], [8, 5, 2, 1, 7, 6]), (PQ56, [8, 5, 2, 1, 7, 6]), ([1, 1, 0, 0, 1, 0, 1, 0, 0, 1, 0, 0, 1, 0, 1, 1, 1, 1, 1], [8, 5, 2, 1, 7, 6]), ([1, 0, 1, 0, 0, 1, 0, 0, 1, 0, 1, 1, 1, 1, 1], [6, 2, 7, 1]), ([0, 1, 1, 0, 0, 1, 0, 0, 1, 0, 1, 1, 1, 1, 1], [6, 5, 2, 7, 1]), ([0, 1, 1, 1, 0, 0, 1, 0, 0, 1, 0, 1, 1, 1, 1, 1], [9, 6, 5, 2, 7, 1]), (PQ90, [9, 6, 5, 2, 7, 1]), ([0, 0, 0, 0, 1, 1, 1, 1, 0, 0, 1, 0, 0, 1, 0, 1, 1, 1, 1, 1], [55, 5, 2, 6, 9, 7, 1]), ([1, 0, 0, 0, 1, 1, 1, 1, 0, 0, 1, 0, 0, 1, 0, 1, 1, 1, 1, 1], [5, 2, 6, 9, 7, 1]), ([1, 1, 0, 0, 0, 1, 1, 1, 1, 0, 0, 1, 0, 0, 1, 0, 1, 1, 1, 1, 1], [7, 1, 5, 2, 6]), ([0, 0, 1, 0, 0, 1, 1, 1, 1, 0, 0, 1, 0, 0, 1, 0, 1, 1, 1, 1, 1], [9, 6, 5, 2, 7, 1]), ([0, 1, 0, 0, 1, 1, 1, 1, 0, 0, 1, 0, 0, 1, 0, 1, 1, 1, 1, 1], [9, 6, 5, 2, 7, 1]), ([1, 1, 0, 0, 1, 1, 1, 1, 0, 0, 1, 0, 0, 1, 0, 1, 1, 1, 1, 1], [9, 6, 5, 2, 7, 1]), ([1, 1, 1, 1, 0, 0, 1, 0, 0, 1, 0, 1, 1, 1, 1, 1], [7, 1, 5, 2, 6]), ([0, 1, 0, 0, 1, 0, 1, 1, 1, 1, 1], [7, 1, 5, 2, 6]), ([1, 1, 0, 0, 1, 0, 1, 1, 1, 1, 1], [7, 1, 5, 2, 6]), (zx2, [6, 2]), (zx7, [10, 6, 2]), (zzp, [10, 6, 2]), ([0, 0, 0, 0, 1, 0, 1, 1, 1, 1, 1, 1], [74, 2, 6, 10]), ([1, 0, 0, 0, 1, 0, 1, 1, 1, 1, 1, 1], [2, 6, 10]), ([1, 1, 0, 0, 0, 1, 0, 1, 1, 1, 1, 1, 1], []), ([0, 0, 0, 1, 0, 0, 1, 0, 1, 1, 1, 1, 1, 1], [83, 10, 6, 2]), ([1, 0, 0, 1, 0, 0, 1, 0, 1, 1, 1, 1, 1, 1], [10, 6, 2]), ([0, 0, 1, 0, 0, 1, 0, 0, 1, 0, 1, 1, 1, 1, 1, 1], [4]), ([1, 0, 1, 0, 0, 1, 0, 0, 1, 0, 1, 1, 1, 1, 1, 1], [4]), ([0, 1, 0, 0, 1, 0, 1, 1, 1, 1, 1, 1], [10, 6, 2]), ([1, 1, 0, 0, 1, 0, 1, 1, 1, 1, 1, 1], [10, 6, 2]), (zx6, []), (zx3, [4]), (zzo, [4])]

def zzv (N : Nat) : Env := z1x tys glob [(32, zad N), (33, z87 N), (31, zbf N), (14, z5p N)] [(6, (.int .i64))] [] [] false [(5, (.sl (.int .i64)))] []

theorem z1fq (N : Nat) : EnvOk Tryd.prog (zzv N) := zg mixed zw (FnsOk.cons (zgx N) (FnsOk.cons (zd2 N) (FnsOk.cons (zhx N) (FnsOk.cons (zac N) (FnsOk.nil))))) (ItsOk.nil)

def z6j (N : Nat) (s : (List UInt8)) (p : DT7) (may : (List Int)) (now : (List Int)) (i : Int) (k : Int) (k0 : (List Int) -> Option Bool) : Option Bool :=
 cond (inR k (List.length may))
 (cond (inR (List.getD may (Int.toNat k) (0 : Int)) (List.length p.1))
 (cond (inR i (List.length s))
 ((z5q N (List.getD p.1 (Int.toNat (List.getD may (Int.toNat k) (0 : Int))) ([] : List Int)) (IntKind.wrap IntKind.i64 (((UInt8.toNat (List.getD s (Int.toNat i) (0 : UInt8))) : Nat) : Int))).bind fun y =>
 cond y
 (cond (inR k (List.length may))
 (cond (decide ((((List.length now) + 1) * 8) <= 70368744177664))
 (k0 (now ++ ([(List.getD may (Int.toNat k) (0 : Int))] : List Int)))
 (none))
 (none))
 (k0 now))
 (none))
 (none))
 (none)

def z1bk (N : Nat) (x : z17 z13y) (K : Ex -> List A -> Option Bool) : Option Bool :=
 z6j N x.1 x.2.1 x.2.2.1 x.2.2.2.1 x.2.2.2.2.1 x.2.2.2.2.2.1 (fun a3 => (K .normal (mkS z13y 75 (x.1, x.2.1, x.2.2.1, a3, x.2.2.2.2.1, x.2.2.2.2.2.1, ()))))

def z18q (N : Nat) : Hd Bool := fun st K => (unS z13y 75 (restr [2, 5, 8, 1, 7, 6] 0 st)).bind fun x => z1bk N x K

def t3_27 (N : Nat) : Tab Bool := []

theorem z15c {N : Nat} {c : Ctx} (hb : Base Tryd.prog (zzv N) c) : zi Tryd.prog c (ze zbq PQ56) (z18q N) :=
  zo (s := z13y) (m := 75) (g := z1bk N) [2, 5, 8, 1, 7, 6] (zd hb N (t3_27 N) z13h zbq TabOk.nil PQ56 _ rfl) (fun x K => by kernel_rfl)

def z6f (N : Nat) (s : (List UInt8)) (p : DT7) (may : (List Int)) (i : Int) (now : (List Int)) (k : Int) (rec : (List Int) -> Int -> Option Bool) (k0 : (List Int) -> Option Bool) : Option Bool :=
 cond (decide (k < (((List.length may) : Nat) : Int)))
 (z6j N s p may now i k
 (fun now1 => rec now1 (IntKind.wrap IntKind.i64 (k + (1 : Int)))))
 (k0 now)

def z6k (N : Nat) (s : (List UInt8)) (p : DT7) (may : (List Int)) (now : (List Int)) (i : Int) (k : Int) (k0 : (List Int) -> Option Bool) : Option Bool :=
 iter (fun (v : ((List Int) × Int)) r => z6f N s p may i v.1 v.2 (fun now k => (r (now, k))) k0) N (now, k)

def z1c5 (N : Nat) (i : ((List UInt8) × DT7 × (List Int) × Int)) (v : ((List Int) × Int)) (r : ((List Int) × Int) -> Option Bool) (K : Ex -> List A -> Option Bool) : Option Bool :=
 z6f N i.1 i.2.1 i.2.2.1 i.2.2.2 v.1 v.2 (fun now k => (r (now, k))) (fun a2 => (K (.exit 2) (mkS [(1, .v .str), (0, .box TT3), (3, .row (.int .i64)), (0, .v (.int .i64))] 76 (i.1, i.2.1, a2, i.2.2.2, ()))))

def z19b (N : Nat) : Hd Bool := fun st K => (unS z13y 75 (restr [8, 5, 2, 1, 7, 6] 0 st)).bind fun x => iter (fun v r => z1c5 N ((fun x => (x.1, x.2.1, x.2.2.1, x.2.2.2.2.1)) x) v r K) N ((fun x => (x.2.2.2.1, x.2.2.2.2.2.1)) x)

def t2_27 (N : Nat) : Tab Bool := [(PQ56, z18q N)]

theorem z15x {N : Nat} {c : Ctx} (hb : Base Tryd.prog (zzv N) c) : zi Tryd.prog c (ze zbq PQ98) (z19b N) :=
  z1q (s := z13y) (m := 75) (z1c5 N) [8, 5, 2, 1, 7, 6] N (fun x => (x.1, x.2.1, x.2.2.1, x.2.2.2.2.1)) (fun x => (x.2.2.2.1, x.2.2.2.2.2.1)) (fun i v => (i.1, i.2.1, i.2.2.1, v.1, i.2.2.2, v.2, ())) (fun _ => rfl) (zd hb N (t2_27 N) z13h zbq (TabOk.cons (z15c hb) TabOk.nil) [0, 0, 1, 0, 1, 0, 0, 1, 0, 0, 1, 0, 1, 1, 1, 1, 1] _ rfl) (fun i v r K => by kernel_rfl)

def z6e (N : Nat) (s : (List UInt8)) (p : DT7) (now : (List Int)) (i : Int) (may : (List Int)) (k : Int) (rec : (List Int) -> Int -> Option Bool) (k0 : (List Int) -> Option Bool) : Option Bool :=
 cond (decide (k < (((List.length now) : Nat) : Int)))
 (cond (inR k (List.length now))
 (cond (decide ((Int.toNat k) < (List.length now)))
 (cond (inR (List.getD now (Int.toNat k) (0 : Int)) (List.length p.2.2.2.2.1))
 ((z4s N may (List.getD p.2.2.2.2.1 (Int.toNat (List.getD now (Int.toNat k) (0 : Int))) ([] : List Int)) (((List.length p.1) : Nat) : Int)).bind fun y =>
 rec y (IntKind.wrap IntKind.i64 (k + (1 : Int))))
 (none))
 (none))
 (none))
 (k0 may)

def z6i (N : Nat) (s : (List UInt8)) (p : DT7) (may : (List Int)) (now : (List Int)) (i : Int) (k : Int) (k0 : (List Int) -> Option Bool) : Option Bool :=
 iter (fun (v : ((List Int) × Int)) r => z6e N s p now i v.1 v.2 (fun may k => (r (may, k))) k0) N (may, k)

def z1bb (N : Nat) (i : ((List UInt8) × DT7 × (List Int) × Int)) (v : ((List Int) × Int)) (r : ((List Int) × Int) -> Option Bool) (K : Ex -> List A -> Option Bool) : Option Bool :=
 z6e N i.1 i.2.1 i.2.2.1 i.2.2.2 v.1 v.2 (fun may k => (r (may, k))) (fun a2 => (K (.exit 4) (mkS SQ33 76 (i.1, i.2.1, a2, i.2.2.1, i.2.2.2, ()))))

def z18h (N : Nat) : Hd Bool := fun st K => (unS SQ49 74 (restr [9, 6, 5, 2, 7, 1] 0 st)).bind fun x => iter (fun v r => z1bb N ((fun x => (x.1, x.2.1, x.2.2.2.1, x.2.2.2.2.1)) x) v r K) N ((fun x => (x.2.2.1, x.2.2.2.2.2.1)) x)

def t4_27 (N : Nat) : Tab Bool := []

theorem z153 {N : Nat} {c : Ctx} (hb : Base Tryd.prog (zzv N) c) : zi Tryd.prog c (ze zbq PQ90) (z18h N) :=
  z1q (s := SQ49) (m := 74) (z1bb N) [9, 6, 5, 2, 7, 1] N (fun x => (x.1, x.2.1, x.2.2.2.1, x.2.2.2.2.1)) (fun x => (x.2.2.1, x.2.2.2.2.2.1)) (fun i v => (i.1, i.2.1, v.1, i.2.2.1, i.2.2.2, v.2, ())) (fun _ => rfl) (zd hb N (t4_27 N) z13h zbq TabOk.nil [0, 0, 1, 1, 1, 1, 0, 0, 1, 0, 0, 1, 0, 1, 1, 1, 1, 1] _ rfl) (fun i v r K => by kernel_rfl)

def z6g (N : Nat) (s : (List UInt8)) (p : DT7) (may : (List Int)) (now : (List Int)) (i : Int) (rec : (List Int) -> (List Int) -> Int -> Option Bool) (k0 : (List Int) -> Option Bool) : Option Bool :=
 cond (decide (i < (((List.length s) : Nat) : Int)))
 (z6k N s p may ([] : List Int) i (0 : Int)
 (fun now1 => z6i N s p ([] : List Int) now1 i (0 : Int)
 (fun may1 => rec may1 now1 (IntKind.wrap IntKind.i64 (i + (1 : Int))))))
 (k0 now)

def z6l (N : Nat) (s : (List UInt8)) (p : DT7) (may : (List Int)) (now : (List Int)) (i : Int) (k0 : (List Int) -> Option Bool) : Option Bool :=
 iter (fun (v : ((List Int) × (List Int) × Int)) r => z6g N s p v.1 v.2.1 v.2.2 (fun may now i => (r (may, now, i))) k0) N (may, now, i)

def z1dg (N : Nat) (i : ((List UInt8) × DT7)) (v : ((List Int) × (List Int) × Int)) (r : ((List Int) × (List Int) × Int) -> Option Bool) (K : Ex -> List A -> Option Bool) : Option Bool :=
 z6g N i.1 i.2 v.1 v.2.1 v.2.2 (fun may now i => (r (may, now, i))) (fun a1 => (K (.exit 0) (mkS [(2, .box TT3), (3, .row (.int .i64))] 77 (i.2, a1, ()))))

def z1am (N : Nat) : Hd Bool := fun st K => (unS SQ33 76 (restr [7, 1, 5, 2, 6] 0 st)).bind fun x => iter (fun v r => z1dg N ((fun x => (x.1, x.2.1)) x) v r K) N ((fun x => (x.2.2.1, x.2.2.2.1, x.2.2.2.2.1)) x)

def t1_27 (N : Nat) : Tab Bool := [(PQ98, z19b N), (PQ90, z18h N)]

theorem z178 {N : Nat} {c : Ctx} (hb : Base Tryd.prog (zzv N) c) : zi Tryd.prog c (ze zbq zug) (z1am N) :=
  z1q (s := SQ33) (m := 76) (z1dg N) [7, 1, 5, 2, 6] N (fun x => (x.1, x.2.1)) (fun x => (x.2.2.1, x.2.2.2.1, x.2.2.2.2.1)) (fun i v => (i.1, i.2, v.1, v.2.1, v.2.2, ())) (fun _ => rfl) (zd hb N (t1_27 N) z13h zbq (TabOk.cons (z15x hb) (TabOk.cons (z153 hb) TabOk.nil)) zxb _ rfl) (fun i v r K => by kernel_rfl)

def z6d (N : Nat) (p : DT7) (now : (List Int)) (k : Int) (rec : Int -> Option Bool) (k0 : Bool -> Option Bool) (k1 : Option Bool) : Option Bool :=
 cond (decide (k < (((List.length now) : Nat) : Int)))
 (cond (inR k (List.length now))
 (cond (decide ((Int.toNat k) < (List.length now)))
 ((z3w N p.2.2.2.1 (List.getD now (Int.toNat k) (0 : Int))).bind fun y =>
 cond y
 (k0 true)
 (rec (IntKind.wrap IntKind.i64 (k + (1 : Int)))))
 (none))
 (none))
 (k1)

def z6h (N : Nat) (p : DT7) (now : (List Int)) (k : Int) (k0 : Bool -> Option Bool) (k1 : Option Bool) : Option Bool :=
 iter (fun (v : Int) r => z6d N p now v (fun k => (r k)) k0 k1) N k

def z1b6 (N : Nat) (i : (DT7 × (List Int))) (v : Int) (r : Int -> Option Bool) (K : Ex -> List A -> Option Bool) : Option Bool :=
 z6d N i.1 i.2 v (fun k => (r k)) (fun a0 => (K .ret (mkS [(4, .v .bool)] 79 (a0, ())))) (K (.exit 6) (mkS [] 84 ()))

def z18c (N : Nat) : Hd Bool := fun st K => (unS [(2, .box TT3), (3, .row (.int .i64)), (3, .v (.int .i64))] 73 (restr [10, 6, 2] 0 st)).bind fun x => iter (fun v r => z1b6 N ((fun x => (x.1, x.2.1)) x) v r K) N ((fun x => x.2.2.1) x)

def t5_27 (N : Nat) : Tab Bool := []

theorem z14y {N : Nat} {c : Ctx} (hb : Base Tryd.prog (zzv N) c) : zi Tryd.prog c (ze zbq zzp) (z18c N) :=
  z1q (s := [(2, .box TT3), (3, .row (.int .i64)), (3, .v (.int .i64))]) (m := 73) (z1b6 N) [10, 6, 2] N (fun x => (x.1, x.2.1)) (fun x => x.2.2.1) (fun i v => (i.1, i.2, v, ())) (fun _ => rfl) (zd hb N (t5_27 N) z13h zbq TabOk.nil [0, 0, 1, 0, 1, 1, 1, 1, 1, 1] _ rfl) (fun i v r K => by kernel_rfl)

def z48 (N : Nat) (p : DT7) (s : (List UInt8)) : Option Bool :=
 (z3d N p).bind fun y =>
 cond (!y)
 (some false)
 (cond (s == ([] : List UInt8))
 (some p.2.1)
 (z6l N s p p.2.2.1 ([] : List Int) (0 : Int)
 (fun now => z6h N p now (0 : Int)
 (fun x4 => some x4)
 (some false))))

def t_27 (N : Nat) : Tab Bool := [(zug, z1am N), (zzp, z18c N)]

theorem z11z (N : Nat) (x : z17 zyp) : z7p (zzv N) N (t_27 N) z13h Tryd.f16 (mkS zyp 0 x) (z5a (.v .bool) 2) = z48 N x.1 x.2.1 := by kernel_rfl

def z9f (N : Nat) : List A -> Res := z13 zyp (fun x => z48 N x.1 x.2.1) (zbr (.v .bool) 2)

theorem zfz (N : Nat) : Contract Tryd.prog glob 16 (z9f N) :=
  Contract.of (E := zzv N) (H := t_27 N) (L := z13h) (N := N) (body := zbq) (K := (z5a (.v .bool) 2)) (z1fq N) Tryd.func16 (by kernel_rfl) (by decide) (fun _ hb => (TabOk.cons (z178 hb) (TabOk.cons (z14y hb) TabOk.nil))) (fun x y h => by rw [z11z]; exact h) (z1s (s := (.v .bool)) (m := 2))

def zro : Code := (Tryd.f92.body).getD .skip

def L_28 : List (List Nat × List Nat) := [([0], [0]), ([0, 0, 1], [12, 0]), ([1, 0, 1], [0]), ([0, 1, 0, 1], [0]), ([0, 1, 1], [2, 0]), ([1, 1, 1], [2, 0])]

def E_28 (N : Nat) : Env := z1x tys glob [] [] [] [0] false [] []

theorem z1fp (N : Nat) : EnvOk Tryd.prog (E_28 N) := zg mixed zw (FnsOk.nil) (ItsOk.nil)

def za1 (N : Nat) (p : DT2) (k0 : Option (Int × (DT2 × Unit))) : Option (Int × (DT2 × Unit)) :=
 cond (p.2.1 == (((List.length p.1) : Nat) : Int))
 (none)
 (k0)

def z1df (N : Nat) (x : z17 SQ0) (K : Ex -> List A -> Option (Int × (DT2 × Unit))) : Option (Int × (DT2 × Unit)) :=
 za1 N x.1 (K .normal (mkS SQ0 27 (x.1, ())))

def z1al (N : Nat) : Hd (Int × (DT2 × Unit)) := fun st K => (unS SQ0 27 (restr [0] 0 st)).bind fun x => z1df N x K

def t1_28 (N : Nat) : Tab (Int × (DT2 × Unit)) := []

theorem z177 {N : Nat} {c : Ctx} (hb : Base Tryd.prog (E_28 N) c) : zi Tryd.prog c (ze zro [0, 1]) (z1al N) :=
  zo (s := SQ0) (m := 27) (g := z1df N) [0] (zd hb N (t1_28 N) L_28 zro TabOk.nil [0, 1] _ rfl) (fun x K => by kernel_rfl)

def z19 (N : Nat) (p : DT2) : Option (Int × (DT2 × Unit)) :=
 za1 N p
 (cond (inR p.2.1 (List.length p.1))
 (some ((((UInt8.toNat (List.getD p.1 (Int.toNat p.2.1) (0 : UInt8))) : Nat) : Int), (p, ())))
 (none))

def t_28 (N : Nat) : Tab (Int × (DT2 × Unit)) := [([0, 1], z1al N)]

theorem z11y (N : Nat) (x : z17 SQ0) : z7p (E_28 N) N (t_28 N) L_28 Tryd.f92 (mkS SQ0 0 x) (z43 (.v (.int .u8)) SQ0 0) = z19 N x.1 := by kernel_rfl

def zu (N : Nat) : List A -> Res := z13 SQ0 (fun x => z19 N x.1) (z4d (.v (.int .u8)) SQ0 0)

theorem z16 (N : Nat) : Contract Tryd.prog glob 92 (zu N) :=
  Contract.of (E := E_28 N) (H := t_28 N) (L := L_28) (N := N) (body := zro) (K := (z43 (.v (.int .u8)) SQ0 0)) (z1fp N) Tryd.func92 (by kernel_rfl) (by decide) (fun _ hb => (TabOk.cons (z177 hb) TabOk.nil)) (fun x y h => by rw [z11y]; exact h) (z31 (s := (.v (.int .u8))) (os := SQ0) (m := 0))

def zrn : Code := (Tryd.f87.body).getD .skip

def L_29 : List (List Nat × List Nat) := [([0, 0], [7, 0]), ([1, 0], [0]), ([0, 1, 0], [0]), ([1], [0])]

def E_29 (N : Nat) : Env := z1x tys glob [(92, zu N)] [] [] [0] false [] []

theorem z1fo (N : Nat) : EnvOk Tryd.prog (E_29 N) := zg mixed zw (FnsOk.cons (z16 N) (FnsOk.nil)) (ItsOk.nil)

def za2 (N : Nat) (p : DT2) (b : Int) (k0 : DT2 -> Option ((Unit) × (DT2 × Unit))) : Option ((Unit) × (DT2 × Unit)) :=
 (z19 N p).bind fun y =>
 cond (y.1 != b)
 (none)
 (k0 y.2.1)

def z1de (N : Nat) (x : z17 SQ7) (K : Ex -> List A -> Option ((Unit) × (DT2 × Unit))) : Option ((Unit) × (DT2 × Unit)) :=
 za2 N x.1 x.2.1 (fun a0 => (K .normal (mkS SQ0 20 (a0, ()))))

def z1ak (N : Nat) : Hd ((Unit) × (DT2 × Unit)) := fun st K => (unS SQ7 19 (restr [0, 1] 0 st)).bind fun x => z1de N x K

def t1_29 (N : Nat) : Tab ((Unit) × (DT2 × Unit)) := []

theorem z176 {N : Nat} {c : Ctx} (hb : Base Tryd.prog (E_29 N) c) : zi Tryd.prog c (ze zrn [0]) (z1ak N) :=
  zo (s := SQ7) (m := 19) (g := z1de N) [0, 1] (zd hb N (t1_29 N) L_29 zrn TabOk.nil [0] _ rfl) (fun x K => by kernel_rfl)

def z1a (N : Nat) (p : DT2) (b : Int) : Option ((Unit) × (DT2 × Unit)) :=
 za2 N p b
 (fun p1 => some ((), ((p1.1, ((IntKind.wrap IntKind.i64 (p1.2.1 + (1 : Int))), p1.2.2)), ())))

def t_29 (N : Nat) : Tab ((Unit) × (DT2 × Unit)) := [([0], z1ak N)]

theorem z11x (N : Nat) (x : z17 SQ7) : z7p (E_29 N) N (t_29 N) L_29 Tryd.f87 (mkS SQ7 0 x) (z43 (.tup []) SQ0 1) = z1a N x.1 x.2.1 := by kernel_rfl

def z1d (N : Nat) : List A -> Res := z13 SQ7 (fun x => z1a N x.1 x.2.1) (z4d (.tup []) SQ0 1)

theorem z1p (N : Nat) : Contract Tryd.prog glob 87 (z1d N) :=
  Contract.of (E := E_29 N) (H := t_29 N) (L := L_29) (N := N) (body := zrn) (K := (z43 (.tup []) SQ0 1)) (z1fo N) Tryd.func87 (by kernel_rfl) (by decide) (fun _ hb => (TabOk.cons (z176 hb) TabOk.nil)) (fun x y h => by rw [z11x]; exact h) (z31 (s := (.tup [])) (os := SQ0) (m := 1))

abbrev z7 : Type := DT2 -> Option (DT4 × (DT2 × Unit))

def zrm : Code := (Tryd.f80.body).getD .skip

def L_30 : List (List Nat × List Nat) := [([0], [0, 2]), ([0, 0, 1], [8, 0, 2]), ([1, 0, 1], [0, 2]), ([0, 1, 0, 1], [0, 2]), ([0, 1, 1], [0, 2]), ([0, 1, 1, 1], [0, 2]), ([0, 1, 1, 1, 1], [0, 3, 2]), ([0, 1, 1, 1, 1, 1], [0, 3, 2]), (zx1, [3, 2, 0]), (zx3, [2, 0]), (zzo, [2, 0])]

def E_30 (N : Nat) (self : z7) : Env := z1x tys glob [(87, z1d N), (40, z13 SQ0 (fun x => self x.1) (z4d (.v TT1) SQ0 0))] [] [] [0] false [] []

theorem z1fn (N : Nat) (self : z7) (hself : Contract Tryd.prog glob 40 (z13 SQ0 (fun x => self x.1) (z4d (.v TT1) SQ0 0))) : EnvOk Tryd.prog (E_30 N self) := zg mixed zw (FnsOk.cons (z1p N) (FnsOk.cons (hself) (FnsOk.nil))) (ItsOk.nil)

def z9c (N : Nat) (self : z7) (p : DT2) (x2 : DT4) (k0 : Option (DT4 × (DT2 × Unit))) : Option (DT4 × (DT2 × Unit)) :=
 cond (p.2.2.1 == (16 : Int))
 (none)
 (k0)

def z1dd (N : Nat) (self : z7) (x : z17 zzj) (K : Ex -> List A -> Option (DT4 × (DT2 × Unit))) : Option (DT4 × (DT2 × Unit)) :=
 z9c N self x.1 x.2.1 (K .normal (mkS zzj 33 (x.1, x.2.1, ())))

def z1aj (N : Nat) (self : z7) : Hd (DT4 × (DT2 × Unit)) := fun st K => (unS zzj 33 (restr [0, 2] 0 st)).bind fun x => z1dd N self x K

def t1_30 (N : Nat) (self : z7) : Tab (DT4 × (DT2 × Unit)) := []

theorem z175 {N : Nat} {self : z7} {c : Ctx} (hb : Base Tryd.prog (E_30 N self) c) : zi Tryd.prog c (ze zrm [0, 1]) (z1aj N self) :=
  zo (s := zzj) (m := 33) (g := z1dd N self) [0, 2] (zd hb N (t1_30 N self) L_30 zrm TabOk.nil [0, 1] _ rfl) (fun x K => by kernel_rfl)

def z57 (N : Nat) (self : z7) (p : DT2) : Option (DT4 × (DT2 × Unit)) :=
 z9c N self p ((0 : Int), (([(0 : Int), (0 : Int), (0 : Int), (0 : Int)] : List Int), (([] : List Tree), ((0 : Int), ((0 : Int), ())))))
 ((z1a N (p.1, (p.2.1, ((IntKind.wrap IntKind.i64 (p.2.2.1 + (1 : Int))), p.2.2.2))) (40 : Int)).bind fun y =>
 (self y.2.1).bind fun y1 =>
 (z1a N y1.2.1 (41 : Int)).bind fun y2 =>
 some (y1.1, ((y2.2.1.1, (y2.2.1.2.1, ((IntKind.wrap IntKind.i64 (y2.2.1.2.2.1 - (1 : Int))), y2.2.1.2.2.2))), ())))

def t_30 (N : Nat) (self : z7) : Tab (DT4 × (DT2 × Unit)) := [([0, 1], z1aj N self)]

theorem z11w (N : Nat) (self : z7) (x : z17 SQ0) : z7p (E_30 N self) N (t_30 N self) L_30 Tryd.f80 (mkS SQ0 0 x) (z43 (.v TT1) SQ0 0) = z57 N self x.1 := by kernel_rfl

def z52 (N : Nat) (self : z7) : List A -> Res := z13 SQ0 (fun x => z57 N self x.1) (z4d (.v TT1) SQ0 0)

theorem z9d (N : Nat) (self : z7) (hself : Contract Tryd.prog glob 40 (z13 SQ0 (fun x => self x.1) (z4d (.v TT1) SQ0 0))) : Contract Tryd.prog glob 80 (z52 N self) :=
  Contract.of (E := E_30 N self) (H := t_30 N self) (L := L_30) (N := N) (body := zrm) (K := (z43 (.v TT1) SQ0 0)) (z1fn N self hself) Tryd.func80 (by kernel_rfl) (by decide) (fun _ hb => (TabOk.cons (z175 hb) TabOk.nil)) (fun x y h => by rw [z11w]; exact h) (z31 (s := (.v TT1)) (os := SQ0) (m := 0))

def z130 : Code := (Tryd.f88.body).getD .skip

def L_31 : List (List Nat × List Nat) := [([0], [1, 2, 4]), ([0, 1], [2, 4]), ([0, 1, 1], [4]), ([1, 1, 1], [4])]

def E_31 (N : Nat) : Env := z1x tys glob [] [] [] [] false [] []

theorem z1fm (N : Nat) : EnvOk Tryd.prog (E_31 N) := zg mixed zw (FnsOk.nil) (ItsOk.nil)

def zc7 (N : Nat) (s : (List Int)) (b : Int) : Option (List Int) :=
 cond (inR (IntKind.wrap IntKind.u8 (Int.tdiv b (64 : Int))) 4)
 (cond (decide ((Int.toNat (IntKind.wrap IntKind.u8 (Int.tdiv b (64 : Int)))) < (List.length s)))
 (cond (decide ((0 : Int) <= (Int.tmod b (64 : Int))))
 (cond (inR (IntKind.wrap IntKind.u8 (Int.tdiv b (64 : Int))) 4)
 (cond (decide ((Int.toNat (IntKind.wrap IntKind.u8 (Int.tdiv b (64 : Int)))) < (List.length s)))
 (some (List.set s (Int.toNat (IntKind.wrap IntKind.u8 (Int.tdiv b (64 : Int)))) (z67 Go.BinOp.or IntKind.u64 (List.getD s (Int.toNat (IntKind.wrap IntKind.u8 (Int.tdiv b (64 : Int)))) (0 : Int)) (z14m IntKind.u64 (1 : Int) (Int.tmod b (64 : Int))))))
 (none))
 (none))
 (none))
 (none))
 (none)

def t_31 (N : Nat) : Tab (List Int) := []

theorem z11v (N : Nat) (x : z17 z13s) : z7p (E_31 N) N (t_31 N) L_31 Tryd.f88 (mkS z13s 0 x) (z5a (.v (.arr 4 (.int .u64))) 2) = zc7 N x.1 x.2.1 := by kernel_rfl

def z9q (N : Nat) : List A -> Res := z13 z13s (fun x => zc7 N x.1 x.2.1) (zbr (.v (.arr 4 (.int .u64))) 2)

theorem zfc (N : Nat) : Contract Tryd.prog glob 88 (z9q N) :=
  Contract.of (E := E_31 N) (H := t_31 N) (L := L_31) (N := N) (body := z130) (K := (z5a (.v (.arr 4 (.int .u64))) 2)) (z1fm N) Tryd.func88 (by kernel_rfl) (by decide) (fun _ hb => TabOk.nil) (fun x y h => by rw [z11v]; exact h) (z1s (s := (.v (.arr 4 (.int .u64)))) (m := 2))

def zrl : Code := (Tryd.f82.body).getD .skip

def L_32 : List (List Nat × List Nat) := [([0], [0, 1, 4]), ([0, 1], [0, 1, 5, 4]), ([0, 0, 1, 1], [6, 1, 5, 4]), ([0, 1, 0, 1, 1], [6, 1, 5, 4]), ([0, 0, 0, 0, 1, 0, 1, 1], [12, 5, 6, 1, 4]), ([1, 0, 0, 0, 1, 0, 1, 1], [5, 6, 1, 4]), ([1, 1, 0, 0, 0, 1, 0, 1, 1], [5, 4]), ([0, 0, 1, 0, 0, 1, 0, 1, 1], [6, 1, 5, 4]), (zuh, [6, 1, 5, 4]), ([1, 1, 0, 0, 1, 0, 1, 1], [6, 1, 5, 4]), ([1, 0, 1, 1], [5, 4]), ([0, 1, 1, 1], [4]), ([1, 1, 1, 1], [4])]

def E_32 (N : Nat) : Env := z1x tys glob [(88, z9q N)] [] [] [] false [] []

theorem z1fl (N : Nat) : EnvOk Tryd.prog (E_32 N) := zg mixed zw (FnsOk.cons (zfc N) (FnsOk.nil)) (ItsOk.nil)

def zid (N : Nat) (hi : Int) (x4 : (List Int)) (s : (List Int)) (b : Int) (rec : (List Int) -> Int -> Option (List Int)) (k0 : (List Int) -> Option (List Int)) : Option (List Int) :=
 cond (decide (b <= (IntKind.wrap IntKind.i64 hi)))
 ((zc7 N s (IntKind.wrap IntKind.u8 b)).bind fun y =>
 rec y (IntKind.wrap IntKind.i64 (b + (1 : Int))))
 (k0 s)

def zo6 (N : Nat) (hi : Int) (x4 : (List Int)) (s : (List Int)) (b : Int) (k0 : (List Int) -> Option (List Int)) : Option (List Int) :=
 iter (fun (v : ((List Int) × Int)) r => zid N hi x4 v.1 v.2 (fun s b => (r (s, b))) k0) N (s, b)

def z1dc (N : Nat) (i : (Int × (List Int))) (v : ((List Int) × Int)) (r : ((List Int) × Int) -> Option (List Int)) (K : Ex -> List A -> Option (List Int)) : Option (List Int) :=
 zid N i.1 i.2 v.1 v.2 (fun s b => (r (s, b))) (fun a1 => (K (.exit 0) (mkS [(4, .box (.arr 4 (.int .u64))), (0, .box (.arr 4 (.int .u64)))] 14 (i.2, a1, ()))))

def z1ai (N : Nat) : Hd (List Int) := fun st K => (unS SQ65 13 (restr [6, 1, 5, 4] 0 st)).bind fun x => iter (fun v r => z1dc N ((fun x => (x.1, x.2.1)) x) v r K) N ((fun x => (x.2.2.1, x.2.2.2.1)) x)

def t1_32 (N : Nat) : Tab (List Int) := []

theorem z174 {N : Nat} {c : Ctx} (hb : Base Tryd.prog (E_32 N) c) : zi Tryd.prog c (ze zrl [0, 1, 0, 1, 1]) (z1ai N) :=
  z1q (s := SQ65) (m := 13) (z1dc N) [6, 1, 5, 4] N (fun x => (x.1, x.2.1)) (fun x => (x.2.2.1, x.2.2.2.1)) (fun i v => (i.1, i.2, v.1, v.2, ())) (fun _ => rfl) (zd hb N (t1_32 N) L_32 zrl TabOk.nil [0, 0, 1, 0, 1, 1] _ rfl) (fun i v r K => by kernel_rfl)

def z32 (N : Nat) (lo : Int) (hi : Int) : Option (List Int) :=
 zo6 N hi ([(0 : Int), (0 : Int), (0 : Int), (0 : Int)] : List Int) ([(0 : Int), (0 : Int), (0 : Int), (0 : Int)] : List Int) (IntKind.wrap IntKind.i64 lo)
 (fun s => some s)

def t_32 (N : Nat) : Tab (List Int) := [([0, 1, 0, 1, 1], z1ai N)]

theorem z11u (N : Nat) (x : z17 [(0, .v (.int .u8)), (0, .v (.int .u8))]) : z7p (E_32 N) N (t_32 N) L_32 Tryd.f82 (mkS [(0, .v (.int .u8)), (0, .v (.int .u8))] 0 x) (z5a (.v (.arr 4 (.int .u64))) 2) = z32 N x.1 x.2.1 := by kernel_rfl

def z2s (N : Nat) : List A -> Res := z13 [(0, .v (.int .u8)), (0, .v (.int .u8))] (fun x => z32 N x.1 x.2.1) (zbr (.v (.arr 4 (.int .u64))) 2)

theorem z3r (N : Nat) : Contract Tryd.prog glob 82 (z2s N) :=
  Contract.of (E := E_32 N) (H := t_32 N) (L := L_32) (N := N) (body := zrl) (K := (z5a (.v (.arr 4 (.int .u64))) 2)) (z1fl N) Tryd.func82 (by kernel_rfl) (by decide) (fun _ hb => (TabOk.cons (z174 hb) TabOk.nil)) (fun x y h => by rw [z11u]; exact h) (z1s (s := (.v (.arr 4 (.int .u64)))) (m := 2))

def z12z : Code := (Tryd.f81.body).getD .skip

def L_33 : List (List Nat × List Nat) := [([0], [1, 2]), ([0, 1], [2]), ([1, 1], [2])]

def E_33 (N : Nat) : Env := z1x tys glob [] [] [] [] false [] []

theorem z1fk (N : Nat) : EnvOk Tryd.prog (E_33 N) := zg mixed zw (FnsOk.nil) (ItsOk.nil)

def zot (N : Nat) (s : (List Int)) : Option DT4 :=
 some ((1 : Int), (s, (([] : List Tree), ((0 : Int), ((0 : Int), ())))))

def t_33 (N : Nat) : Tab DT4 := []

theorem z11t (N : Nat) (x : z17 zyq) : z7p (E_33 N) N (t_33 N) L_33 Tryd.f81 (mkS zyq 0 x) (z5a (.v TT1) 1) = zot N x.1 := by kernel_rfl

def zdn (N : Nat) : List A -> Res := z13 zyq (fun x => zot N x.1) (zbr (.v TT1) 1)

theorem zjd (N : Nat) : Contract Tryd.prog glob 81 (zdn N) :=
  Contract.of (E := E_33 N) (H := t_33 N) (L := L_33) (N := N) (body := z12z) (K := (z5a (.v TT1) 1)) (z1fk N) Tryd.func81 (by kernel_rfl) (by decide) (fun _ hb => TabOk.nil) (fun x y h => by rw [z11t]; exact h) (z1s (s := (.v TT1)) (m := 1))

def zlt : Code := (Tryd.f57.body).getD .skip

def L_34 : List (List Nat × List Nat) := [([0], [0, 1]), ([0, 0, 1], [27, 0]), ([1, 0, 1], [0]), ([0, 0, 1, 0, 1], [4, 0]), ([1, 0, 1, 0, 1], [4, 0]), ([0, 1, 1], [0]), ([0, 1, 1, 1], [4, 0]), ([1, 1, 1, 1], [4, 0])]

def z1ge (N : Nat) : Env := z1x tys glob [] [] [] [0] false [] []

theorem z1fj (N : Nat) : EnvOk Tryd.prog (z1ge N) := zg mixed zw (FnsOk.nil) (ItsOk.nil)

def z9w (N : Nat) (p : DT2) (b : Int) (k0 : Bool -> Option (Bool × (DT2 × Unit))) : Option (Bool × (DT2 × Unit)) :=
 cond (p.2.1 == (((List.length p.1) : Nat) : Int))
 (k0 true)
 (cond (inR p.2.1 (List.length p.1))
 (k0 ((((UInt8.toNat (List.getD p.1 (Int.toNat p.2.1) (0 : UInt8))) : Nat) : Int) != b))
 (none))

def z1c4 (N : Nat) (x : z17 SQ7) (K : Ex -> List A -> Option (Bool × (DT2 × Unit))) : Option (Bool × (DT2 × Unit)) :=
 z9w N x.1 x.2.1 (fun a1 => (K .normal (mkS [(0, .box (.pair .str TT0)), (26, .v .bool)] 7 (x.1, a1, ()))))

def z19a (N : Nat) : Hd (Bool × (DT2 × Unit)) := fun st K => (unS SQ7 33 (restr [0, 1] 0 st)).bind fun x => z1c4 N x K

def t2_34 (N : Nat) : Tab (Bool × (DT2 × Unit)) := []

theorem z15w {N : Nat} {c : Ctx} (hb : Base Tryd.prog (z1ge N) c) : zi Tryd.prog c (ze zlt [0, 0, 1]) (z19a N) :=
  zo (s := SQ7) (m := 33) (g := z1c4 N) [0, 1] (zd hb N (t2_34 N) L_34 zlt TabOk.nil [0, 0, 1] _ rfl) (fun x K => by kernel_rfl)

def z9x (N : Nat) (p : DT2) (b : Int) (k0 : Bool -> Option (Bool × (DT2 × Unit))) (k1 : Option (Bool × (DT2 × Unit))) : Option (Bool × (DT2 × Unit)) :=
 z9w N p b
 (fun x27 => cond x27
 (k0 false)
 (k1))

def z1db (N : Nat) (x : z17 SQ7) (K : Ex -> List A -> Option (Bool × (DT2 × Unit))) : Option (Bool × (DT2 × Unit)) :=
 z9x N x.1 x.2.1 (fun a1 => (K .ret (mkS [(0, .box (.pair .str TT0)), (3, .v .bool)] 30 (x.1, a1, ())))) (K .normal (mkS SQ0 34 (x.1, ())))

def z1ah (N : Nat) : Hd (Bool × (DT2 × Unit)) := fun st K => (unS SQ7 33 (restr [0, 1] 0 st)).bind fun x => z1db N x K

def t1_34 (N : Nat) : Tab (Bool × (DT2 × Unit)) := [([0, 0, 1], z19a N)]

theorem z173 {N : Nat} {c : Ctx} (hb : Base Tryd.prog (z1ge N) c) : zi Tryd.prog c (ze zlt [0, 1]) (z1ah N) :=
  zo (s := SQ7) (m := 33) (g := z1db N) [0, 1] (zd hb N (t1_34 N) L_34 zlt (TabOk.cons (z15w hb) TabOk.nil) [0, 1] _ rfl) (fun x K => by kernel_rfl)

def zy (N : Nat) (p : DT2) (b : Int) : Option (Bool × (DT2 × Unit)) :=
 z9x N p b
 (fun x4 => some (x4, (p, ())))
 (some (true, ((p.1, ((IntKind.wrap IntKind.i64 (p.2.1 + (1 : Int))), p.2.2)), ())))

def t_34 (N : Nat) : Tab (Bool × (DT2 × Unit)) := [([0, 1], z1ah N)]

theorem z11s (N : Nat) (x : z17 SQ7) : z7p (z1ge N) N (t_34 N) L_34 Tryd.f57 (mkS SQ7 0 x) (z43 (.v .bool) SQ0 1) = zy N x.1 x.2.1 := by kernel_rfl

def z1c (N : Nat) : List A -> Res := z13 SQ7 (fun x => zy N x.1 x.2.1) (z4d (.v .bool) SQ0 1)

theorem z1o (N : Nat) : Contract Tryd.prog glob 57 (z1c N) :=
  Contract.of (E := z1ge N) (H := t_34 N) (L := L_34) (N := N) (body := zlt) (K := (z43 (.v .bool) SQ0 1)) (z1fj N) Tryd.func57 (by kernel_rfl) (by decide) (fun _ hb => (TabOk.cons (z173 hb) TabOk.nil)) (fun x y h => by rw [z11s]; exact h) (z31 (s := (.v .bool)) (os := SQ0) (m := 1))

def zrk : Code := (Tryd.f93.body).getD .skip

def L_35 : List (List Nat × List Nat) := [([0], [0, 2]), ([0, 1], [0, 3, 2]), ([0, 0, 1, 1], [7, 6, 3, 0, 2]), ([0, 1, 0, 1, 1], [7, 6, 3, 0, 2]), ([0, 0, 0, 1, 0, 1, 1], [8, 7, 3, 0, 6, 2]), (zuh, [7, 3, 0, 6, 2]), (zxe, [3, 2]), (z1e9, [3, 0, 4, 7, 6, 2]), ([1, 0, 0, 1, 1, 0, 0, 1, 0, 1, 1], [7, 6, 3, 0, 2]), (zxd, [7, 6, 3, 0, 2]), (zxc, [7, 6, 3, 0, 2]), ([1, 0, 1, 1], [3, 2]), ([0, 1, 1, 1], [2]), ([1, 1, 1, 1], [2])]

def E_35 (N : Nat) : Env := z1x tys glob [(88, z9q N)] [] [] [] false [] []

theorem z1fi (N : Nat) : EnvOk Tryd.prog (E_35 N) := zg mixed zw (FnsOk.cons (zfc N) (FnsOk.nil)) (ItsOk.nil)

def zea (N : Nat) (s : (List UInt8)) (x2 : (List Int)) (x6 : Int) (set_ : (List Int)) (x7 : Int) (rec : (List Int) -> Int -> Option (List Int)) (k0 : (List Int) -> Option (List Int)) : Option (List Int) :=
 cond (decide (x7 < x6))
 (cond (inR x7 (List.length s))
 ((zc7 N set_ (((UInt8.toNat (List.getD s (Int.toNat x7) (0 : UInt8))) : Nat) : Int)).bind fun y =>
 rec y (IntKind.wrap IntKind.i64 (x7 + (1 : Int))))
 (none))
 (k0 set_)

def zjw (N : Nat) (s : (List UInt8)) (x2 : (List Int)) (set_ : (List Int)) (x6 : Int) (x7 : Int) (k0 : (List Int) -> Option (List Int)) : Option (List Int) :=
 iter (fun (v : ((List Int) × Int)) r => zea N s x2 x6 v.1 v.2 (fun set_ x7 => (r (set_, x7))) k0) N (set_, x7)

def z1da (N : Nat) (i : ((List UInt8) × (List Int) × Int)) (v : ((List Int) × Int)) (r : ((List Int) × Int) -> Option (List Int)) (K : Ex -> List A -> Option (List Int)) : Option (List Int) :=
 zea N i.1 i.2.1 i.2.2 v.1 v.2 (fun set_ x7 => (r (set_, x7))) (fun a1 => (K (.exit 0) (mkS [(2, .box (.arr 4 (.int .u64))), (0, .box (.arr 4 (.int .u64)))] 13 (i.2.1, a1, ()))))

def z1ag (N : Nat) : Hd (List Int) := fun st K => (unS SQ50 9 (restr [7, 6, 3, 0, 2] 0 st)).bind fun x => iter (fun v r => z1da N ((fun x => (x.1, x.2.1, x.2.2.2.1)) x) v r K) N ((fun x => (x.2.2.1, x.2.2.2.2.1)) x)

def t1_35 (N : Nat) : Tab (List Int) := []

theorem z172 {N : Nat} {c : Ctx} (hb : Base Tryd.prog (E_35 N) c) : zi Tryd.prog c (ze zrk [0, 1, 0, 1, 1]) (z1ag N) :=
  z1q (s := SQ50) (m := 9) (z1da N) [7, 6, 3, 0, 2] N (fun x => (x.1, x.2.1, x.2.2.2.1)) (fun x => (x.2.2.1, x.2.2.2.2.1)) (fun i v => (i.1, i.2.1, v.1, i.2.2, v.2, ())) (fun _ => rfl) (zd hb N (t1_35 N) L_35 zrk TabOk.nil [0, 0, 1, 0, 1, 1] _ rfl) (fun i v r K => by kernel_rfl)

def zal (N : Nat) (s : (List UInt8)) : Option (List Int) :=
 zjw N s ([(0 : Int), (0 : Int), (0 : Int), (0 : Int)] : List Int) ([(0 : Int), (0 : Int), (0 : Int), (0 : Int)] : List Int) (((List.length s) : Nat) : Int) (0 : Int)
 (fun set_ => some set_)

def t_35 (N : Nat) : Tab (List Int) := [([0, 1, 0, 1, 1], z1ag N)]

theorem z11r (N : Nat) (x : z17 [(0, .v .str)]) : z7p (E_35 N) N (t_35 N) L_35 Tryd.f93 (mkS [(0, .v .str)] 0 x) (z5a (.v (.arr 4 (.int .u64))) 1) = zal N x.1 := by kernel_rfl

def z8w (N : Nat) : List A -> Res := z13 [(0, .v .str)] (fun x => zal N x.1) (zbr (.v (.arr 4 (.int .u64))) 1)

theorem zeb (N : Nat) : Contract Tryd.prog glob 93 (z8w N) :=
  Contract.of (E := E_35 N) (H := t_35 N) (L := L_35) (N := N) (body := zrk) (K := (z5a (.v (.arr 4 (.int .u64))) 1)) (z1fi N) Tryd.func93 (by kernel_rfl) (by decide) (fun _ hb => (TabOk.cons (z172 hb) TabOk.nil)) (fun x y h => by rw [z11r]; exact h) (z1s (s := (.v (.arr 4 (.int .u64)))) (m := 1))

def z12y : Code := (Tryd.f96.body).getD .skip

def L_36 : List (List Nat × List Nat) := [([0], [0]), ([0, 1], [2]), ([1, 1], [2])]

def E_36 (N : Nat) : Env := z1x tys glob [] [] [] [] false [] []

theorem z1fh (N : Nat) : EnvOk Tryd.prog (E_36 N) := zg mixed zw (FnsOk.nil) (ItsOk.nil)

def z5m (N : Nat) (b : Int) : Option Bool :=
 cond (decide ((48 : Int) <= b))
 (some (decide (b <= (57 : Int))))
 (some false)

def t_36 (N : Nat) : Tab Bool := []

theorem z11q (N : Nat) (x : z17 [(0, .v (.int .u8))]) : z7p (E_36 N) N (t_36 N) L_36 Tryd.f96 (mkS [(0, .v (.int .u8))] 0 x) (z5a (.v .bool) 1) = z5m N x.1 := by kernel_rfl

def z5l (N : Nat) : List A -> Res := z13 [(0, .v (.int .u8))] (fun x => z5m N x.1) (zbr (.v .bool) 1)

theorem z90 (N : Nat) : Contract Tryd.prog glob 96 (z5l N) :=
  Contract.of (E := E_36 N) (H := t_36 N) (L := L_36) (N := N) (body := z12y) (K := (z5a (.v .bool) 1)) (z1fh N) Tryd.func96 (by kernel_rfl) (by decide) (fun _ hb => TabOk.nil) (fun x y h => by rw [z11q]; exact h) (z1s (s := (.v .bool)) (m := 1))

def zls : Code := (Tryd.f94.body).getD .skip

def L_37 : List (List Nat × List Nat) := [([0], [0, 1]), ([0, 1], [0, 5, 1]), ([0, 1, 1], [5, 0, 1]), ([0, 0, 1, 1, 1], [16, 5, 0, 1]), ([1, 0, 1, 1, 1], [5, 0, 1]), (zxh, [4, 0]), (zue, [4, 0]), ([0, 0, 1, 1, 1, 1], [24, 0, 1, 5]), ([1, 0, 1, 1, 1, 1], [5, 0]), (z13b, [5, 0]), ([0, 1, 1, 1, 1, 1], [4, 0]), ([1, 1, 1, 1, 1, 1], [4, 0])]

def z1gd (N : Nat) : Env := z1x tys glob [(96, z5l N), (92, zu N)] [] [] [0] false [] []

theorem z1fg (N : Nat) : EnvOk Tryd.prog (z1gd N) := zg mixed zw (FnsOk.cons (z90 N) (FnsOk.cons (z16 N) (FnsOk.nil))) (ItsOk.nil)

def zb6 (N : Nat) (p : DT2) (from_ : Int) (b : Int) (k0 : Bool -> Option (Int × (DT2 × Unit))) : Option (Int × (DT2 × Unit)) :=
 cond (decide (b < (97 : Int)))
 (k0 true)
 (k0 (decide ((102 : Int) < b)))

def z1c3 (N : Nat) (x : z17 SQ9) (K : Ex -> List A -> Option (Int × (DT2 × Unit))) : Option (Int × (DT2 × Unit)) :=
 zb6 N x.1 x.2.1 x.2.2.1 (fun a3 => (K .normal (mkS [(0, .box (.pair .str TT0)), (0, .v (.int .i64)), (3, .v (.int .u8)), (18, .v .bool)] 6 (x.1, x.2.1, x.2.2.1, a3, ()))))

def z199 (N : Nat) : Hd (Int × (DT2 × Unit)) := fun st K => (unS SQ9 25 (restr [5, 0, 1] 0 st)).bind fun x => z1c3 N x K

def t2_37 (N : Nat) : Tab (Int × (DT2 × Unit)) := []

theorem z15v {N : Nat} {c : Ctx} (hb : Base Tryd.prog (z1gd N) c) : zi Tryd.prog c (ze zls [0, 0, 1, 1, 1, 1]) (z199 N) :=
  zo (s := SQ9) (m := 25) (g := z1c3 N) [5, 0, 1] (zd hb N (t2_37 N) L_37 zls TabOk.nil [0, 0, 1, 1, 1, 1] _ rfl) (fun x K => by kernel_rfl)

def zb7 (N : Nat) (p : DT2) (from_ : Int) (b : Int) (k0 : Option (Int × (DT2 × Unit))) : Option (Int × (DT2 × Unit)) :=
 zb6 N p from_ b
 (fun x24 => cond x24
 (none)
 (k0))

def z1d9 (N : Nat) (x : z17 SQ9) (K : Ex -> List A -> Option (Int × (DT2 × Unit))) : Option (Int × (DT2 × Unit)) :=
 zb7 N x.1 x.2.1 x.2.2.1 (K .normal (mkS [(0, .box (.pair .str TT0)), (4, .v (.int .u8))] 25 (x.1, x.2.2.1, ())))

def z1af (N : Nat) : Hd (Int × (DT2 × Unit)) := fun st K => (unS SQ9 25 (restr [5, 0, 1] 0 st)).bind fun x => z1d9 N x K

def t1_37 (N : Nat) : Tab (Int × (DT2 × Unit)) := [([0, 0, 1, 1, 1, 1], z199 N)]

theorem z171 {N : Nat} {c : Ctx} (hb : Base Tryd.prog (z1gd N) c) : zi Tryd.prog c (ze zls [0, 1, 1, 1, 1]) (z1af N) :=
  zo (s := SQ9) (m := 25) (g := z1d9 N) [5, 0, 1] (zd hb N (t1_37 N) L_37 zls (TabOk.cons (z15v hb) TabOk.nil) [0, 1, 1, 1, 1] _ rfl) (fun x K => by kernel_rfl)

def z3m (N : Nat) (p : DT2) (from_ : Int) : Option (Int × (DT2 × Unit)) :=
 (z19 N p).bind fun y =>
 (z5m N y.1).bind fun y1 =>
 cond y1
 (some ((IntKind.wrap IntKind.u8 (y.1 - (48 : Int))), ((y.2.1.1, ((IntKind.wrap IntKind.i64 (y.2.1.2.1 + (1 : Int))), y.2.1.2.2)), ())))
 (zb7 N (y.2.1.1, ((IntKind.wrap IntKind.i64 (y.2.1.2.1 + (1 : Int))), y.2.1.2.2)) from_ y.1
 (some ((IntKind.wrap IntKind.u8 ((IntKind.wrap IntKind.u8 (y.1 - (97 : Int))) + (10 : Int))), ((y.2.1.1, ((IntKind.wrap IntKind.i64 (y.2.1.2.1 + (1 : Int))), y.2.1.2.2)), ()))))

def t_37 (N : Nat) : Tab (Int × (DT2 × Unit)) := [([0, 1, 1, 1, 1], z1af N)]

theorem z11p (N : Nat) (x : z17 z13r) : z7p (z1gd N) N (t_37 N) L_37 Tryd.f94 (mkS z13r 0 x) (z43 (.v (.int .u8)) SQ0 1) = z3m N x.1 x.2.1 := by kernel_rfl

def z69 (N : Nat) : List A -> Res := z13 z13r (fun x => z3m N x.1 x.2.1) (z4d (.v (.int .u8)) SQ0 1)

theorem zb8 (N : Nat) : Contract Tryd.prog glob 94 (z69 N) :=
  Contract.of (E := z1gd N) (H := t_37 N) (L := L_37) (N := N) (body := zls) (K := (z43 (.v (.int .u8)) SQ0 1)) (z1fg N) Tryd.func94 (by kernel_rfl) (by decide) (fun _ hb => (TabOk.cons (z171 hb) TabOk.nil)) (fun x y h => by rw [z11p]; exact h) (z31 (s := (.v (.int .u8))) (os := SQ0) (m := 1))

def z12x : Code := (Tryd.f85.body).getD .skip

def L_38 : List (List Nat × List Nat) := [([0], [0, 1]), ([0, 1], [4]), ([1, 1], [4])]

def E_38 (N : Nat) : Env := z1x tys glob [(95, zw9)] [] [] [] false [] []

theorem z1ff (N : Nat) : EnvOk Tryd.prog (E_38 N) := zg mixed zw (FnsOk.cons (z185 glob) (FnsOk.nil)) (ItsOk.nil)

def zco (N : Nat) (s : (List UInt8)) (c : Int) : Option Int :=
 some (Go.Lib.indexByte s (Nat.toUInt8 (Int.toNat c)))

def t_38 (N : Nat) : Tab Int := []

theorem z11o (N : Nat) (x : z17 [(0, .v .str), (0, .v (.int .u8))]) : z7p (E_38 N) N (t_38 N) L_38 Tryd.f85 (mkS [(0, .v .str), (0, .v (.int .u8))] 0 x) (z5a (.v (.int .i64)) 2) = zco N x.1 x.2.1 := by kernel_rfl

def z2u (N : Nat) : List A -> Res := z13 [(0, .v .str), (0, .v (.int .u8))] (fun x => zco N x.1 x.2.1) (zbr (.v (.int .i64)) 2)

theorem z44 (N : Nat) : Contract Tryd.prog glob 85 (z2u N) :=
  Contract.of (E := E_38 N) (H := t_38 N) (L := L_38) (N := N) (body := z12x) (K := (z5a (.v (.int .i64)) 2)) (z1ff N) Tryd.func85 (by kernel_rfl) (by decide) (fun _ hb => TabOk.nil) (fun x y h => by rw [z11o]; exact h) (z1s (s := (.v (.int .i64))) (m := 2))

def zrj : Code := (Tryd.f84.body).getD .skip

def L_39 : List (List Nat × List Nat) := [([0], [0, 2]), ([0, 1], [0, 2, 4]), ([0, 1, 1], [0, 2, 4]), ([0, 1, 1, 1], [0, 5, 2, 4]), ([0, 1, 1, 1, 1], [5, 2, 0, 4]), ([0, 0, 0, 1, 1, 1, 1, 1], [22, 2, 0, 5, 4]), ([1, 0, 0, 1, 1, 1, 1, 1], [5, 2, 0]), ([0, 1, 1, 0, 0, 1, 1, 1, 1, 1], [26, 2, 0, 5, 4]), ([1, 1, 1, 0, 0, 1, 1, 1, 1, 1], [5, 2, 0]), ([0, 1, 1, 1, 1, 0, 0, 1, 1, 1, 1, 1], [30, 0, 4, 2, 5]), ([1, 1, 1, 1, 1, 0, 0, 1, 1, 1, 1, 1], [5, 2, 0]), ([0, 1, 1, 1, 1, 1, 1, 0, 0, 1, 1, 1, 1, 1], [42, 0, 4, 5, 2]), ([1, 1, 1, 1, 1, 1, 1, 0, 0, 1, 1, 1, 1, 1], [5, 2, 0]), ([0, 1, 1, 1, 1, 1, 1, 1, 0, 0, 1, 1, 1, 1, 1], [5, 2, 0]), ([0, 0, 1, 1, 1, 1, 1, 0, 0, 1, 1, 1, 1, 1], [6, 0, 4, 2]), ([1, 0, 1, 1, 1, 1, 1, 0, 0, 1, 1, 1, 1, 1], [5, 2, 0]), ([0, 0, 1, 1, 1, 0, 0, 1, 1, 1, 1, 1], [2, 3, 0]), ([1, 0, 1, 1, 1, 0, 0, 1, 1, 1, 1, 1], [2, 3, 0]), ([0, 0, 1, 0, 0, 1, 1, 1, 1, 1], [2, 3, 0]), ([1, 0, 1, 0, 0, 1, 1, 1, 1, 1], [2, 3, 0]), ([0, 1, 1, 1, 1, 1], [5, 2, 0]), (zx1, [2, 3, 0]), (z137, [2, 3, 0])]

def E_39 (N : Nat) : Env := z1x tys glob [(85, z2u N), (94, z69 N), (93, z8w N), (82, z2s N), (87, z1d N), (92, zu N)] [] [] [0] false [] []

theorem z1fe (N : Nat) : EnvOk Tryd.prog (E_39 N) := zg mixed zw (FnsOk.cons (z44 N) (FnsOk.cons (zb8 N) (FnsOk.cons (zeb N) (FnsOk.cons (z3r N) (FnsOk.cons (z1p N) (FnsOk.cons (z16 N) (FnsOk.nil))))))) (ItsOk.nil)

def z8f (N : Nat) (p : DT2) (set_ : (List Int)) (from_ : Int) (b : Int) (k0 : (List Int) -> Bool -> Option zk9) (k1 : DT2 -> Int -> Option zk9) : Option zk9 :=
 cond (b == (100 : Int))
 ((z32 N (48 : Int) (57 : Int)).bind fun y =>
 k0 y true)
 (cond (b == (119 : Int))
 ((zal N ((48 : UInt8) :: (49 : UInt8) :: (50 : UInt8) :: (51 : UInt8) :: (52 : UInt8) :: (53 : UInt8) :: (54 : UInt8) :: (55 : UInt8) :: (56 : UInt8) :: (57 : UInt8) :: (65 : UInt8) :: (66 : UInt8) :: (67 : UInt8) :: (68 : UInt8) :: (69 : UInt8) :: (70 : UInt8) :: (71 : UInt8) :: (72 : UInt8) :: (73 : UInt8) :: (74 : UInt8) :: (75 : UInt8) :: (76 : UInt8) :: (77 : UInt8) :: (78 : UInt8) :: (79 : UInt8) :: (80 : UInt8) :: (81 : UInt8) :: (82 : UInt8) :: (83 : UInt8) :: (84 : UInt8) :: (85 : UInt8) :: (86 : UInt8) :: (87 : UInt8) :: (88 : UInt8) :: (89 : UInt8) :: (90 : UInt8) :: (95 : UInt8) :: (97 : UInt8) :: (98 : UInt8) :: (99 : UInt8) :: (100 : UInt8) :: (101 : UInt8) :: (102 : UInt8) :: (103 : UInt8) :: (104 : UInt8) :: (105 : UInt8) :: (106 : UInt8) :: (107 : UInt8) :: (108 : UInt8) :: (109 : UInt8) :: (110 : UInt8) :: (111 : UInt8) :: (112 : UInt8) :: (113 : UInt8) :: (114 : UInt8) :: (115 : UInt8) :: (116 : UInt8) :: (117 : UInt8) :: (118 : UInt8) :: (119 : UInt8) :: (120 : UInt8) :: (121 : UInt8) :: (122 : UInt8) :: ([] : List UInt8))).bind fun y1 =>
 k0 y1 true)
 (cond (b == (120 : Int))
 ((z3m N p from_).bind fun y2 =>
 (z3m N y2.2.1 from_).bind fun y3 =>
 k1 y3.2.1 (z67 Go.BinOp.or IntKind.u8 (z14m IntKind.u8 y2.1 (4 : Int)) y3.1))
 (cond (decide ((Go.Lib.indexByte ([(92 : UInt8), (46 : UInt8), (91 : UInt8), (93 : UInt8), (40 : UInt8), (41 : UInt8), (123 : UInt8), (125 : UInt8), (124 : UInt8), (42 : UInt8), (43 : UInt8), (63 : UInt8), (45 : UInt8), (94 : UInt8)] : List UInt8) (Nat.toUInt8 (Int.toNat b))) < (0 : Int)))
 (none)
 (k1 p b))))

def z1d8 (N : Nat) (x : z17 z13w) (K : Ex -> List A -> Option zk9) : Option zk9 :=
 z8f N x.1 x.2.1 x.2.2.1 x.2.2.2.1 (fun a1 a2 => (K .ret (mkS SQ34 48 (x.1, a1, a2, ())))) (fun a0 a2 => (K .normal (mkS [(0, .box (.pair .str TT0)), (1, .box (.arr 4 (.int .u64))), (2, .v (.int .u8))] 46 (a0, x.2.1, a2, ()))))

def z1ae (N : Nat) : Hd zk9 := fun st K => (unS z13w 46 (restr [5, 2, 0, 4] 0 st)).bind fun x => z1d8 N x K

def t1_39 (N : Nat) : Tab zk9 := []

theorem z170 {N : Nat} {c : Ctx} (hb : Base Tryd.prog (E_39 N) c) : zi Tryd.prog c (ze zrj [0, 1, 1, 1, 1, 1]) (z1ae N) :=
  zo (s := z13w) (m := 46) (g := z1d8 N) [5, 2, 0, 4] (zd hb N (t1_39 N) L_39 zrj TabOk.nil [0, 1, 1, 1, 1, 1] _ rfl) (fun x K => by kernel_rfl)

def z2n (N : Nat) (p : DT2) : Option zk9 :=
 (z1a N p (92 : Int)).bind fun y =>
 (z19 N y.2.1).bind fun y1 =>
 z8f N (y1.2.1.1, ((IntKind.wrap IntKind.i64 (y1.2.1.2.1 + (1 : Int))), y1.2.1.2.2)) ([(0 : Int), (0 : Int), (0 : Int), (0 : Int)] : List Int) p.2.1 y1.1
 (fun set_ class_ => some ((set_, (class_, ())), ((y1.2.1.1, ((IntKind.wrap IntKind.i64 (y1.2.1.2.1 + (1 : Int))), y1.2.1.2.2)), ())))
 (fun p1 b => (z32 N b b).bind fun y2 =>
 some ((y2, (false, ())), (p1, ())))

def t_39 (N : Nat) : Tab zk9 := [([0, 1, 1, 1, 1, 1], z1ae N)]

theorem z11n (N : Nat) (x : z17 SQ0) : z7p (E_39 N) N (t_39 N) L_39 Tryd.f84 (mkS SQ0 0 x) (z43 (.tup [(.arr 4 (.int .u64)), .bool]) SQ0 0) = z2n N x.1 := by kernel_rfl

def z2d (N : Nat) : List A -> Res := z13 SQ0 (fun x => z2n N x.1) (z4d (.tup [(.arr 4 (.int .u64)), .bool]) SQ0 0)

theorem z3j (N : Nat) : Contract Tryd.prog glob 84 (z2d N) :=
  Contract.of (E := E_39 N) (H := t_39 N) (L := L_39) (N := N) (body := zrj) (K := (z43 (.tup [(.arr 4 (.int .u64)), .bool]) SQ0 0)) (z1fe N) Tryd.func84 (by kernel_rfl) (by decide) (fun _ hb => (TabOk.cons (z170 hb) TabOk.nil)) (fun x y h => by rw [z11n]; exact h) (z31 (s := (.tup [(.arr 4 (.int .u64)), .bool])) (os := SQ0) (m := 0))

def zlr : Code := (Tryd.f97.body).getD .skip

def L_40 : List (List Nat × List Nat) := [([0], [0, 2]), ([0, 1], [4, 0, 2]), ([0, 0, 1, 1], [7, 0, 2, 4]), ([0, 0, 1, 0, 1, 1], [8, 0, 2, 7, 4]), ([1, 0, 1, 0, 1, 1], [0, 4, 2]), ([0, 0, 1, 1, 0, 1, 0, 1, 1], [14, 0, 4, 2, 7]), ([1, 0, 1, 1, 0, 1, 0, 1, 1], [14, 0, 4, 2]), ([0, 1, 1, 0, 1, 1, 0, 1, 0, 1, 1], [14, 0, 4, 2, 7]), ([1, 1, 1, 0, 1, 1, 0, 1, 0, 1, 1], [14, 0, 4, 2]), ([0, 1, 1, 1, 1, 0, 1, 1, 0, 1, 0, 1, 1], [14, 0, 4, 2, 7]), ([1, 1, 1, 1, 1, 0, 1, 1, 0, 1, 0, 1, 1], [14, 0, 4, 2]), ([1, 1, 1, 1, 1, 1, 0, 1, 1, 0, 1, 0, 1, 1], [14, 0, 4, 2]), ([1, 1, 1, 0, 1, 0, 1, 1], [0, 4, 2]), ([0, 1, 1, 1, 0, 1, 0, 1, 1], [0, 4, 2]), ([0, 0, 1, 0, 1, 0, 1, 1], [2, 3, 0]), ([1, 0, 1, 0, 1, 0, 1, 1], [2, 3, 0]), ([1, 0, 1, 1], [0, 4, 2]), ([0, 1, 1, 1], [4, 2, 0]), ([0, 1, 1, 1, 1], [2, 3, 0]), ([1, 1, 1, 1, 1], [2, 3, 0])]

def z1gc (N : Nat) : Env := z1x tys glob [(84, z2d N), (82, z2s N), (92, zu N)] [] [] [0] false [] []

theorem z1fd (N : Nat) : EnvOk Tryd.prog (z1gc N) := zg mixed zw (FnsOk.cons (z3j N) (FnsOk.cons (z3r N) (FnsOk.cons (z16 N) (FnsOk.nil)))) (ItsOk.nil)

def z9y (N : Nat) (p : DT2) (set_ : (List Int)) (b : Int) (x7 : Int) (k0 : Bool -> Option zk9) : Option zk9 :=
 cond (x7 == (91 : Int))
 (k0 (x7 == (91 : Int)))
 (cond (x7 == (93 : Int))
 (k0 (x7 == (93 : Int)))
 (cond (x7 == (45 : Int))
 (k0 (x7 == (45 : Int)))
 (k0 (x7 == (94 : Int)))))

def z1c2 (N : Nat) (x : z17 z13v) (K : Ex -> List A -> Option zk9) : Option zk9 :=
 z9y N x.1 x.2.1 x.2.2.1 x.2.2.2.1 (fun a3 => (K .normal (mkS SQ71 20 (x.1, x.2.1, x.2.2.1, a3, ()))))

def z198 (N : Nat) : Hd zk9 := fun st K => (unS z13v 27 (restr [7, 0, 4, 2] 0 st)).bind fun x => z1c2 N x K

def t2_40 (N : Nat) : Tab zk9 := []

theorem z15u {N : Nat} {c : Ctx} (hb : Base Tryd.prog (z1gc N) c) : zi Tryd.prog c (ze zlr z13d) (z198 N) :=
  zo (s := z13v) (m := 27) (g := z1c2 N) [7, 0, 4, 2] (zd hb N (t2_40 N) L_40 zlr TabOk.nil z13d _ rfl) (fun x K => by kernel_rfl)

def z9z (N : Nat) (p : DT2) (set_ : (List Int)) (b : Int) (k0 : DT2 -> (List Int) -> Bool -> Option zk9) (k1 : Option zk9) : Option zk9 :=
 cond (b == (92 : Int))
 ((z2n N p).bind fun y =>
 k0 y.2.1 y.1.1 y.1.2.1)
 (z9y N p set_ b b
 (fun x14 => cond x14
 (none)
 (k1)))

def z1d7 (N : Nat) (x : z17 zzm) (K : Ex -> List A -> Option zk9) : Option zk9 :=
 z9z N x.1 x.2.1 x.2.2.1 (fun a0 a1 a2 => (K .ret (mkS SQ34 31 (a0, a1, a2, ())))) (K .normal (mkS zzm 30 (x.1, x.2.1, x.2.2.1, ())))

def z1ad (N : Nat) : Hd zk9 := fun st K => (unS zzm 30 (restr [4, 0, 2] 0 st)).bind fun x => z1d7 N x K

def t1_40 (N : Nat) : Tab zk9 := [(z13d, z198 N)]

theorem z16z {N : Nat} {c : Ctx} (hb : Base Tryd.prog (z1gc N) c) : zi Tryd.prog c (ze zlr [0, 1, 1]) (z1ad N) :=
  zo (s := zzm) (m := 30) (g := z1d7 N) [4, 0, 2] (zd hb N (t1_40 N) L_40 zlr (TabOk.cons (z15u hb) TabOk.nil) [0, 1, 1] _ rfl) (fun x K => by kernel_rfl)

def z3a (N : Nat) (p : DT2) : Option zk9 :=
 (z19 N p).bind fun y =>
 z9z N y.2.1 ([(0 : Int), (0 : Int), (0 : Int), (0 : Int)] : List Int) y.1
 (fun p1 set_ class_ => some ((set_, (class_, ())), (p1, ())))
 ((z32 N y.1 y.1).bind fun y1 =>
 some ((y1, (false, ())), ((y.2.1.1, ((IntKind.wrap IntKind.i64 (y.2.1.2.1 + (1 : Int))), y.2.1.2.2)), ())))

def t_40 (N : Nat) : Tab zk9 := [([0, 1, 1], z1ad N)]

theorem z11m (N : Nat) (x : z17 SQ0) : z7p (z1gc N) N (t_40 N) L_40 Tryd.f97 (mkS SQ0 0 x) (z43 (.tup [(.arr 4 (.int .u64)), .bool]) SQ0 0) = z3a N x.1 := by kernel_rfl

def z5f (N : Nat) : List A -> Res := z13 SQ0 (fun x => z3a N x.1) (z4d (.tup [(.arr 4 (.int .u64)), .bool]) SQ0 0)

theorem za0 (N : Nat) : Contract Tryd.prog glob 97 (z5f N) :=
  Contract.of (E := z1gc N) (H := t_40 N) (L := L_40) (N := N) (body := zlr) (K := (z43 (.tup [(.arr 4 (.int .u64)), .bool]) SQ0 0)) (z1fd N) Tryd.func97 (by kernel_rfl) (by decide) (fun _ hb => (TabOk.cons (z16z hb) TabOk.nil)) (fun x y h => by rw [z11m]; exact h) (z31 (s := (.tup [(.arr 4 (.int .u64)), .bool])) (os := SQ0) (m := 0))

def z12w : Code := (Tryd.f79.body).getD .skip

def L_41 : List (List Nat × List Nat) := [([0], [0]), ([0, 0, 1], [4, 0]), ([1, 0, 1], [0]), ([0, 0, 1, 0, 1], [2]), ([1, 0, 1, 0, 1], [2]), ([0, 1, 1], [2]), ([1, 1, 1], [2])]

def E_41 (N : Nat) : Env := z1x tys glob [] [] [] [] false [] []

theorem z1fc (N : Nat) : EnvOk Tryd.prog (E_41 N) := zg mixed zw (FnsOk.nil) (ItsOk.nil)

def z41 (N : Nat) (x0 : Int) : Option Int :=
 cond (x0 == (0 : Int))
 (some (64 : Int))
 (cond (inR (zxn IntKind.u64 (IntKind.wrap IntKind.u64 ((285870213051353865 : Int) * (z67 Go.BinOp.and IntKind.u64 x0 (IntKind.wrap IntKind.u64 ((0 : Int) - x0))))) (58 : Int)) 64)
 (some (IntKind.wrap IntKind.i64 (List.getD glob0 (Int.toNat (zxn IntKind.u64 (IntKind.wrap IntKind.u64 ((285870213051353865 : Int) * (z67 Go.BinOp.and IntKind.u64 x0 (IntKind.wrap IntKind.u64 ((0 : Int) - x0))))) (58 : Int))) (0 : Int))))
 (none))

def t_41 (N : Nat) : Tab Int := []

theorem z11l (N : Nat) (x : z17 [(0, .v (.int .u64))]) : z7p (E_41 N) N (t_41 N) L_41 Tryd.f79 (mkS [(0, .v (.int .u64))] 0 x) (z5a (.v (.int .i64)) 1) = z41 N x.1 := by kernel_rfl

def z4t (N : Nat) : List A -> Res := z13 [(0, .v (.int .u64))] (fun x => z41 N x.1) (zbr (.v (.int .i64)) 1)

theorem zak (N : Nat) : Contract Tryd.prog glob 79 (z4t N) :=
  Contract.of (E := E_41 N) (H := t_41 N) (L := L_41) (N := N) (body := z12w) (K := (z5a (.v (.int .i64)) 1)) (z1fc N) Tryd.func79 (by kernel_rfl) (by decide) (fun _ hb => TabOk.nil) (fun x y h => by rw [z11l]; exact h) (z1s (s := (.v (.int .i64))) (m := 1))

def zri : Code := (Tryd.f98.body).getD .skip

def L_42 : List (List Nat × List Nat) := [([0], [1]), ([0, 0, 1], [6, 1]), ([1, 0, 1], [1]), ([0, 0, 1, 0, 1], [2]), ([1, 0, 1, 0, 1], [2]), ([0, 1, 1], [3, 1]), ([0, 0, 1, 1, 1], [3, 1]), ([0, 0, 0, 0, 0, 1, 1, 1], [10, 3, 1]), ([1, 0, 0, 0, 0, 1, 1, 1], [3, 1]), ([1, 1, 0, 0, 0, 0, 1, 1, 1], [3, 1]), ([0, 1, 0, 0, 0, 1, 1, 1], [3, 1]), ([1, 0, 0, 0, 1, 1, 1], [3, 1]), ([0, 1, 1, 1], [3, 1]), ([0, 1, 1, 1, 1], [2]), ([1, 1, 1, 1, 1], [2])]

def E_42 (N : Nat) : Env := z1x tys glob [(79, z4t N)] [] [] [] false [] []

theorem z1fb (N : Nat) : EnvOk Tryd.prog (E_42 N) := zg mixed zw (FnsOk.cons (zak N) (FnsOk.nil)) (ItsOk.nil)

def zec (N : Nat) (s : (List Int)) (i : Int) (rec : Int -> Option Int) (k0 : Int -> Option Int) : Option Int :=
 cond (inR i 4)
 (cond (decide ((Int.toNat i) < (List.length s)))
 (cond ((List.getD s (Int.toNat i) (0 : Int)) == (0 : Int))
 (rec (IntKind.wrap IntKind.i64 (i + (1 : Int))))
 (k0 i))
 (none))
 (none)

def zjx (N : Nat) (s : (List Int)) (i : Int) (k0 : Int -> Option Int) : Option Int :=
 iter (fun (v : Int) r => zec N s v (fun i => (r i)) k0) N i

def z1d6 (N : Nat) (i : (List Int)) (v : Int) (r : Int -> Option Int) (K : Ex -> List A -> Option Int) : Option Int :=
 zec N i v (fun i => (r i)) (fun a1 => (K (.exit 0) (mkS SQ87 16 (i, a1, ()))))

def z1ac (N : Nat) : Hd Int := fun st K => (unS SQ87 16 (restr [3, 1] 0 st)).bind fun x => iter (fun v r => z1d6 N ((fun x => x.1) x) v r K) N ((fun x => x.2.1) x)

def t1_42 (N : Nat) : Tab Int := []

theorem z16y {N : Nat} {c : Ctx} (hb : Base Tryd.prog (E_42 N) c) : zi Tryd.prog c (ze zri [0, 0, 1, 1, 1]) (z1ac N) :=
  z1q (s := SQ87) (m := 16) (z1d6 N) [3, 1] N (fun x => x.1) (fun x => x.2.1) (fun i v => (i, v, ())) (fun _ => rfl) (zd hb N (t1_42 N) L_42 zri TabOk.nil [0, 0, 0, 1, 1, 1] _ rfl) (fun i v r K => by kernel_rfl)

def z2t (N : Nat) (s : (List Int)) : Option Int :=
 cond (eqD (T.arr 4 (T.int IntKind.u64)) s ([(0 : Int), (0 : Int), (0 : Int), (0 : Int)] : List Int))
 (some (-(1 : Int)))
 (zjx N s (0 : Int)
 (fun i => cond (inR i 4)
 (cond (decide ((Int.toNat i) < (List.length s)))
 ((z41 N (List.getD s (Int.toNat i) (0 : Int))).bind fun y =>
 some (IntKind.wrap IntKind.i64 ((IntKind.wrap IntKind.i64 (i * (64 : Int))) + y)))
 (none))
 (none)))

def t_42 (N : Nat) : Tab Int := [([0, 0, 1, 1, 1], z1ac N)]

theorem z11k (N : Nat) (x : z17 zyq) : z7p (E_42 N) N (t_42 N) L_42 Tryd.f98 (mkS zyq 0 x) (z5a (.v (.int .i64)) 1) = z2t N x.1 := by kernel_rfl

def z8x (N : Nat) : List A -> Res := z13 zyq (fun x => z2t N x.1) (zbr (.v (.int .i64)) 1)

theorem zed (N : Nat) : Contract Tryd.prog glob 98 (z8x N) :=
  Contract.of (E := E_42 N) (H := t_42 N) (L := L_42) (N := N) (body := zri) (K := (z5a (.v (.int .i64)) 1)) (z1fb N) Tryd.func98 (by kernel_rfl) (by decide) (fun _ hb => (TabOk.cons (z16y hb) TabOk.nil)) (fun x y h => by rw [z11k]; exact h) (z1s (s := (.v (.int .i64))) (m := 1))

def ze1 : Code := (Tryd.f89.body).getD .skip

def z143 : List (List Nat × List Nat) := [([0], [0, 2]), ([0, 1], [4, 0, 3, 2]), ([0, 0, 1, 1], [17, 3, 2, 0]), ([1, 0, 1, 1], [0, 3, 2]), ([0, 0, 1, 0, 1, 1], [2, 0]), ([1, 0, 1, 0, 1, 1], [2, 0]), ([0, 1, 1, 1], [0, 3, 5, 2]), ([0, 1, 1, 1, 1], [4, 6, 3, 0, 5, 2]), (zm0, [35, 0, 5, 3, 6, 2]), (zx2, [3, 6, 2, 0]), (zug, [3, 6, 2, 0]), (zx1, [2, 0]), (z137, [2, 0])]

def z13j (N : Nat) : Env := z1x tys glob [(98, z8x N), (97, z5f N), (57, z1c N), (82, z2s N)] [] [] [0] false [] []

theorem z1fa (N : Nat) : EnvOk Tryd.prog (z13j N) := zg mixed zw (FnsOk.cons (zed N) (FnsOk.cons (za0 N) (FnsOk.cons (z1o N) (FnsOk.cons (z3r N) (FnsOk.nil))))) (ItsOk.nil)

def za5 (N : Nat) (p : DT2) (x2 : (List Int)) (first : (List Int)) (class_ : Bool) (k0 : DT2 -> Bool -> Option ze3) : Option ze3 :=
 cond class_
 (k0 p true)
 ((zy N p (45 : Int)).bind fun y =>
 k0 y.2.1 (!y.1))

def z1c1 (N : Nat) (x : z17 SQ4) (K : Ex -> List A -> Option ze3) : Option ze3 :=
 za5 N x.1 x.2.1 x.2.2.1 x.2.2.2.1 (fun a0 a3 => (K .normal (mkS SQ62 28 (a0, x.2.1, x.2.2.1, a3, ()))))

def z197 (N : Nat) : Hd ze3 := fun st K => (unS SQ4 41 (restr [4, 0, 3, 2] 0 st)).bind fun x => z1c1 N x K

def t2_43 (N : Nat) : Tab ze3 := []

theorem z15t {N : Nat} {c : Ctx} (hb : Base Tryd.prog (z13j N) c) : zi Tryd.prog c (ze ze1 [0, 0, 1, 1]) (z197 N) :=
  zo (s := SQ4) (m := 41) (g := z1c1 N) [4, 0, 3, 2] (zd hb N (t2_43 N) z143 ze1 TabOk.nil [0, 0, 1, 1] _ rfl) (fun x K => by kernel_rfl)

def za6 (N : Nat) (p : DT2) (x2 : (List Int)) (first : (List Int)) (class_ : Bool) (k0 : DT2 -> Option ze3) (k1 : DT2 -> Option ze3) : Option ze3 :=
 za5 N p x2 first class_
 (fun p1 x17 => cond x17
 (k0 p1)
 (k1 p1))

def z1d5 (N : Nat) (x : z17 SQ4) (K : Ex -> List A -> Option ze3) : Option ze3 :=
 za6 N x.1 x.2.1 x.2.2.1 x.2.2.2.1 (fun a0 => (K .ret (mkS [(0, .box (.pair .str TT0)), (1, .box (.arr 4 (.int .u64)))] 43 (a0, x.2.2.1, ())))) (fun a0 => (K .normal (mkS SQ74 42 (a0, x.2.1, x.2.2.1, ()))))

def z1ab (N : Nat) : Hd ze3 := fun st K => (unS SQ4 41 (restr [4, 0, 3, 2] 0 st)).bind fun x => z1d5 N x K

def t1_43 (N : Nat) : Tab ze3 := [([0, 0, 1, 1], z197 N)]

theorem z16x {N : Nat} {c : Ctx} (hb : Base Tryd.prog (z13j N) c) : zi Tryd.prog c (ze ze1 [0, 1, 1]) (z1ab N) :=
  zo (s := SQ4) (m := 41) (g := z1d5 N) [4, 0, 3, 2] (zd hb N (t1_43 N) z143 ze1 (TabOk.cons (z15t hb) TabOk.nil) [0, 1, 1] _ rfl) (fun x K => by kernel_rfl)

def za3 (N : Nat) (p : DT2) (x2 : (List Int)) (first : (List Int)) (class_ : Bool) (from_ : Int) (last : (List Int)) (k0 : Bool -> Option ze3) : Option ze3 :=
 cond class_
 (k0 true)
 ((z2t N last).bind fun y =>
 (z2t N first).bind fun y1 =>
 k0 (decide (y < y1)))

def z1ba (N : Nat) (x : z17 SQ2) (K : Ex -> List A -> Option ze3) : Option ze3 :=
 za3 N x.1 x.2.1 x.2.2.1 x.2.2.2.1 x.2.2.2.2.1 x.2.2.2.2.2.1 (fun a5 => (K .normal (mkS SQ30 10 (x.1, x.2.1, x.2.2.1, x.2.2.2.2.1, x.2.2.2.2.2.1, a5, ()))))

def z18g (N : Nat) : Hd ze3 := fun st K => (unS SQ2 39 (restr [4, 6, 3, 0, 5, 2] 0 st)).bind fun x => z1ba N x K

def t4_43 (N : Nat) : Tab ze3 := []

theorem z152 {N : Nat} {c : Ctx} (hb : Base Tryd.prog (z13j N) c) : zi Tryd.prog c (ze ze1 zm0) (z18g N) :=
  zo (s := SQ2) (m := 39) (g := z1ba N) [4, 6, 3, 0, 5, 2] (zd hb N (t4_43 N) z143 ze1 TabOk.nil zm0 _ rfl) (fun x K => by kernel_rfl)

def za4 (N : Nat) (p : DT2) (x2 : (List Int)) (first : (List Int)) (class_ : Bool) (from_ : Int) (last : (List Int)) (k0 : Option ze3) : Option ze3 :=
 za3 N p x2 first class_ from_ last
 (fun x35 => cond x35
 (none)
 (k0))

def z1bj (N : Nat) (x : z17 SQ2) (K : Ex -> List A -> Option ze3) : Option ze3 :=
 za4 N x.1 x.2.1 x.2.2.1 x.2.2.2.1 x.2.2.2.2.1 x.2.2.2.2.2.1 (K .normal (mkS SQ45 39 (x.1, x.2.1, x.2.2.1, x.2.2.2.2.2.1, ())))

def z18p (N : Nat) : Hd ze3 := fun st K => (unS SQ2 39 (restr [4, 6, 3, 0, 5, 2] 0 st)).bind fun x => z1bj N x K

def t3_43 (N : Nat) : Tab ze3 := [(zm0, z18g N)]

theorem z15b {N : Nat} {c : Ctx} (hb : Base Tryd.prog (z13j N) c) : zi Tryd.prog c (ze ze1 [0, 1, 1, 1, 1, 1]) (z18p N) :=
  zo (s := SQ2) (m := 39) (g := z1bj N) [4, 6, 3, 0, 5, 2] (zd hb N (t3_43 N) z143 ze1 (TabOk.cons (z152 hb) TabOk.nil) [0, 1, 1, 1, 1, 1] _ rfl) (fun x K => by kernel_rfl)

def z3b (N : Nat) (p : DT2) : Option ze3 :=
 (z3a N p).bind fun y =>
 za6 N y.2.1 ([(0 : Int), (0 : Int), (0 : Int), (0 : Int)] : List Int) y.1.1 y.1.2.1
 (fun p1 => some (y.1.1, (p1, ())))
 (fun p2 => (z3a N p2).bind fun y1 =>
 za4 N y1.2.1 ([(0 : Int), (0 : Int), (0 : Int), (0 : Int)] : List Int) y.1.1 y1.1.2.1 p2.2.1 y1.1.1
 ((z2t N y.1.1).bind fun y2 =>
 (z2t N y1.1.1).bind fun y3 =>
 (z32 N (IntKind.wrap IntKind.u8 y2) (IntKind.wrap IntKind.u8 y3)).bind fun y4 =>
 some (y4, (y1.2.1, ()))))

def t_43 (N : Nat) : Tab ze3 := [([0, 1, 1], z1ab N), ([0, 1, 1, 1, 1, 1], z18p N)]

theorem z11j (N : Nat) (x : z17 SQ0) : z7p (z13j N) N (t_43 N) z143 Tryd.f89 (mkS SQ0 0 x) (z43 (.v (.arr 4 (.int .u64))) SQ0 0) = z3b N x.1 := by kernel_rfl

def z5g (N : Nat) : List A -> Res := z13 SQ0 (fun x => z3b N x.1) (z4d (.v (.arr 4 (.int .u64))) SQ0 0)

theorem za7 (N : Nat) : Contract Tryd.prog glob 89 (z5g N) :=
  Contract.of (E := z13j N) (H := t_43 N) (L := z143) (N := N) (body := ze1) (K := (z43 (.v (.arr 4 (.int .u64))) SQ0 0)) (z1fa N) Tryd.func89 (by kernel_rfl) (by decide) (fun _ hb => (TabOk.cons (z16x hb) (TabOk.cons (z15b hb) TabOk.nil))) (fun x y h => by rw [z11j]; exact h) (z31 (s := (.v (.arr 4 (.int .u64)))) (os := SQ0) (m := 0))

def zrh : Code := (Tryd.f90.body).getD .skip

def L_44 : List (List Nat × List Nat) := [([0], [2, 3, 4]), ([0, 0, 1], [6, 2, 3, 4]), ([0, 1, 0, 1], [6, 2, 3, 4]), ([0, 0, 0, 1, 0, 1], [7, 6, 2, 3, 4]), (zzn, [6, 2, 3, 4]), ([1, 0, 1, 0, 0, 1, 0, 1], [2, 4]), ([0, 0, 0, 1, 1, 0, 0, 1, 0, 1], [5, 2, 3, 6, 4]), ([1, 0, 0, 1, 1, 0, 0, 1, 0, 1], [6, 2, 3, 4]), ([0, 1, 1, 0, 0, 1, 0, 1], [6, 2, 3, 4]), ([1, 1, 1, 0, 0, 1, 0, 1], [6, 2, 3, 4]), ([1, 0, 1], [2, 4]), ([0, 1, 1], [4]), ([1, 1, 1], [4])]

def E_44 (N : Nat) : Env := z1x tys glob [] [] [] [] false [] []

theorem z1f9 (N : Nat) : EnvOk Tryd.prog (E_44 N) := zg mixed zw (FnsOk.nil) (ItsOk.nil)

def zib (N : Nat) (t : (List Int)) (x4 : (List Int)) (s : (List Int)) (x6 : Int) (rec : (List Int) -> Int -> Option (List Int)) (k0 : (List Int) -> Option (List Int)) : Option (List Int) :=
 cond (decide (x6 < (4 : Int)))
 (cond (inR x6 4)
 (cond (decide ((Int.toNat x6) < (List.length s)))
 (cond (inR x6 4)
 (cond (decide ((Int.toNat x6) < (List.length t)))
 (cond (inR x6 4)
 (cond (decide ((Int.toNat x6) < (List.length s)))
 (rec (List.set s (Int.toNat x6) (z67 Go.BinOp.or IntKind.u64 (List.getD s (Int.toNat x6) (0 : Int)) (List.getD t (Int.toNat x6) (0 : Int)))) (IntKind.wrap IntKind.i64 (x6 + (1 : Int))))
 (none))
 (none))
 (none))
 (none))
 (none))
 (none))
 (k0 s)

def zo5 (N : Nat) (s : (List Int)) (t : (List Int)) (x4 : (List Int)) (x6 : Int) (k0 : (List Int) -> Option (List Int)) : Option (List Int) :=
 iter (fun (v : ((List Int) × Int)) r => zib N t x4 v.1 v.2 (fun s x6 => (r (s, x6))) k0) N (s, x6)

def z1d4 (N : Nat) (i : ((List Int) × (List Int))) (v : ((List Int) × Int)) (r : ((List Int) × Int) -> Option (List Int)) (K : Ex -> List A -> Option (List Int)) : Option (List Int) :=
 zib N i.1 i.2 v.1 v.2 (fun s x6 => (r (s, x6))) (fun a0 => (K (.exit 0) (mkS [(2, .box (.arr 4 (.int .u64))), (1, .box (.arr 4 (.int .u64)))] 14 (a0, i.2, ()))))

def z1aa (N : Nat) : Hd (List Int) := fun st K => (unS SQ51 12 (restr [6, 2, 3, 4] 0 st)).bind fun x => iter (fun v r => z1d4 N ((fun x => (x.2.1, x.2.2.1)) x) v r K) N ((fun x => (x.1, x.2.2.2.1)) x)

def t1_44 (N : Nat) : Tab (List Int) := []

theorem z16w {N : Nat} {c : Ctx} (hb : Base Tryd.prog (E_44 N) c) : zi Tryd.prog c (ze zrh [0, 1, 0, 1]) (z1aa N) :=
  z1q (s := SQ51) (m := 12) (z1d4 N) [6, 2, 3, 4] N (fun x => (x.2.1, x.2.2.1)) (fun x => (x.1, x.2.2.2.1)) (fun i v => (v.1, i.1, i.2, v.2, ())) (fun _ => rfl) (zd hb N (t1_44 N) L_44 zrh TabOk.nil [0, 0, 1, 0, 1] _ rfl) (fun i v r K => by kernel_rfl)

def zfr (N : Nat) (s : (List Int)) (t : (List Int)) : Option (List Int) :=
 zo5 N s t ([(0 : Int), (0 : Int), (0 : Int), (0 : Int)] : List Int) (0 : Int)
 (fun s1 => some s1)

def t_44 (N : Nat) : Tab (List Int) := [([0, 1, 0, 1], z1aa N)]

theorem z11i (N : Nat) (x : z17 SQ79) : z7p (E_44 N) N (t_44 N) L_44 Tryd.f90 (mkS SQ79 0 x) (z5a (.v (.arr 4 (.int .u64))) 2) = zfr N x.1 x.2.1 := by kernel_rfl

def zcl (N : Nat) : List A -> Res := z13 SQ79 (fun x => zfr N x.1 x.2.1) (zbr (.v (.arr 4 (.int .u64))) 2)

theorem zic (N : Nat) : Contract Tryd.prog glob 90 (zcl N) :=
  Contract.of (E := E_44 N) (H := t_44 N) (L := L_44) (N := N) (body := zrh) (K := (z5a (.v (.arr 4 (.int .u64))) 2)) (z1f9 N) Tryd.func90 (by kernel_rfl) (by decide) (fun _ hb => (TabOk.cons (z16w hb) TabOk.nil)) (fun x y h => by rw [z11i]; exact h) (z1s (s := (.v (.arr 4 (.int .u64)))) (m := 2))

def zrg : Code := (Tryd.f91.body).getD .skip

def L_45 : List (List Nat × List Nat) := [([0], [1, 2]), ([0, 0, 1], [4, 1, 2]), ([0, 1, 0, 1], [4, 1, 2]), ([0, 0, 0, 1, 0, 1], [5, 4, 1, 2]), (zzn, [4, 1, 2]), ([1, 0, 1, 0, 0, 1, 0, 1], [1, 2]), ([0, 0, 0, 1, 1, 0, 0, 1, 0, 1], [3, 1, 4, 2]), ([1, 0, 0, 1, 1, 0, 0, 1, 0, 1], [4, 1, 2]), ([0, 1, 1, 0, 0, 1, 0, 1], [4, 1, 2]), ([1, 1, 1, 0, 0, 1, 0, 1], [4, 1, 2]), ([1, 0, 1], [1, 2]), ([0, 1, 1], [2]), ([1, 1, 1], [2])]

def E_45 (N : Nat) : Env := z1x tys glob [] [] [] [] false [] []

theorem z1f8 (N : Nat) : EnvOk Tryd.prog (E_45 N) := zg mixed zw (FnsOk.nil) (ItsOk.nil)

def zgj (N : Nat) (x2 : (List Int)) (s : (List Int)) (x4 : Int) (rec : (List Int) -> Int -> Option (List Int)) (k0 : (List Int) -> Option (List Int)) : Option (List Int) :=
 cond (decide (x4 < (4 : Int)))
 (cond (inR x4 4)
 (cond (decide ((Int.toNat x4) < (List.length s)))
 (cond (inR x4 4)
 (cond (decide ((Int.toNat x4) < (List.length s)))
 (rec (List.set s (Int.toNat x4) (z67 Go.BinOp.xor IntKind.u64 (if ((IntKind.signed IntKind.u64) = true) then (-(1 : Int)) else (IntKind.max IntKind.u64)) (List.getD s (Int.toNat x4) (0 : Int)))) (IntKind.wrap IntKind.i64 (x4 + (1 : Int))))
 (none))
 (none))
 (none))
 (none))
 (k0 s)

def zmf (N : Nat) (s : (List Int)) (x2 : (List Int)) (x4 : Int) (k0 : (List Int) -> Option (List Int)) : Option (List Int) :=
 iter (fun (v : ((List Int) × Int)) r => zgj N x2 v.1 v.2 (fun s x4 => (r (s, x4))) k0) N (s, x4)

def z1d3 (N : Nat) (i : (List Int)) (v : ((List Int) × Int)) (r : ((List Int) × Int) -> Option (List Int)) (K : Ex -> List A -> Option (List Int)) : Option (List Int) :=
 zgj N i v.1 v.2 (fun s x4 => (r (s, x4))) (fun a0 => (K (.exit 0) (mkS [(1, .box (.arr 4 (.int .u64))), (0, .box (.arr 4 (.int .u64)))] 12 (a0, i, ()))))

def z1a9 (N : Nat) : Hd (List Int) := fun st K => (unS [(1, .box (.arr 4 (.int .u64))), (0, .box (.arr 4 (.int .u64))), (1, .v (.int .i64))] 10 (restr [4, 1, 2] 0 st)).bind fun x => iter (fun v r => z1d3 N ((fun x => x.2.1) x) v r K) N ((fun x => (x.1, x.2.2.1)) x)

def t1_45 (N : Nat) : Tab (List Int) := []

theorem z16v {N : Nat} {c : Ctx} (hb : Base Tryd.prog (E_45 N) c) : zi Tryd.prog c (ze zrg [0, 1, 0, 1]) (z1a9 N) :=
  z1q (s := [(1, .box (.arr 4 (.int .u64))), (0, .box (.arr 4 (.int .u64))), (1, .v (.int .i64))]) (m := 10) (z1d3 N) [4, 1, 2] N (fun x => x.2.1) (fun x => (x.1, x.2.2.1)) (fun i v => (v.1, i, v.2, ())) (fun _ => rfl) (zd hb N (t1_45 N) L_45 zrg TabOk.nil [0, 0, 1, 0, 1] _ rfl) (fun i v r K => by kernel_rfl)

def zdy (N : Nat) (s : (List Int)) : Option (List Int) :=
 zmf N s ([(0 : Int), (0 : Int), (0 : Int), (0 : Int)] : List Int) (0 : Int)
 (fun s1 => some s1)

def t_45 (N : Nat) : Tab (List Int) := [([0, 1, 0, 1], z1a9 N)]

theorem z11h (N : Nat) (x : z17 zyq) : z7p (E_45 N) N (t_45 N) L_45 Tryd.f91 (mkS zyq 0 x) (z5a (.v (.arr 4 (.int .u64))) 1) = zdy N x.1 := by kernel_rfl

def zbo (N : Nat) : List A -> Res := z13 zyq (fun x => zdy N x.1) (zbr (.v (.arr 4 (.int .u64))) 1)

theorem zgk (N : Nat) : Contract Tryd.prog glob 91 (zbo N) :=
  Contract.of (E := E_45 N) (H := t_45 N) (L := L_45) (N := N) (body := zrg) (K := (z5a (.v (.arr 4 (.int .u64))) 1)) (z1f8 N) Tryd.func91 (by kernel_rfl) (by decide) (fun _ hb => (TabOk.cons (z16v hb) TabOk.nil)) (fun x y h => by rw [z11h]; exact h) (z1s (s := (.v (.arr 4 (.int .u64)))) (m := 1))

def zrf : Code := (Tryd.f83.body).getD .skip

def L_46 : List (List Nat × List Nat) := [([0], [0, 2]), ([0, 1], [0, 2]), ([0, 1, 1], [0, 3, 2]), ([0, 1, 1, 1], [0, 4, 3, 2]), ([0, 0, 1, 1, 1, 1], [0, 4, 3, 2]), (zxa, [13, 4, 0, 3, 2]), (zx9, [4, 0, 3, 2]), (z1e8, [3, 4, 2, 0]), ([0, 1, 0, 0, 0, 1, 1, 1, 1], [0, 4, 3, 2]), (zx4, [0, 4, 3, 2]), ([0, 1, 1, 1, 1], [3, 4, 2, 0]), (zm0, [18, 4, 2, 0]), (zx2, [4, 2, 0]), (zxb, [2, 0]), ([1, 0, 1, 0, 1, 1, 1, 1, 1], [2, 0]), (zx1, [2, 0]), (z137, [2, 0])]

def E_46 (N : Nat) : Env := z1x tys glob [(91, zbo N), (90, zcl N), (89, z5g N), (57, z1c N), (87, z1d N)] [] [] [0] false [] []

theorem z1f7 (N : Nat) : EnvOk Tryd.prog (E_46 N) := zg mixed zw (FnsOk.cons (zgk N) (FnsOk.cons (zic N) (FnsOk.cons (za7 N) (FnsOk.cons (z1o N) (FnsOk.cons (z1p N) (FnsOk.nil)))))) (ItsOk.nil)

def z7l (N : Nat) (x2 : (List Int)) (not_ : Bool) (p : DT2) (set_ : (List Int)) (rec : DT2 -> (List Int) -> Option ze3) (k0 : DT2 -> (List Int) -> Option ze3) : Option ze3 :=
 (zy N p (93 : Int)).bind fun y =>
 cond (!y.1)
 ((z3b N y.2.1).bind fun y1 =>
 (zfr N set_ y1.1).bind fun y2 =>
 rec y1.2.1 y2)
 (k0 y.2.1 set_)

def zcw (N : Nat) (p : DT2) (x2 : (List Int)) (not_ : Bool) (set_ : (List Int)) (k0 : DT2 -> (List Int) -> Option ze3) : Option ze3 :=
 iter (fun (v : (DT2 × (List Int))) r => z7l N x2 not_ v.1 v.2 (fun p set_ => (r (p, set_))) k0) N (p, set_)

def z1d2 (N : Nat) (i : ((List Int) × Bool)) (v : (DT2 × (List Int))) (r : (DT2 × (List Int)) -> Option ze3) (K : Ex -> List A -> Option ze3) : Option ze3 :=
 z7l N i.1 i.2 v.1 v.2 (fun p set_ => (r (p, set_))) (fun a0 a3 => (K (.exit 0) (mkS z13x 17 (a0, i.1, i.2, a3, ()))))

def z1a8 (N : Nat) : Hd ze3 := fun st K => (unS z13x 17 (restr [0, 4, 3, 2] 0 st)).bind fun x => iter (fun v r => z1d2 N ((fun x => (x.2.1, x.2.2.1)) x) v r K) N ((fun x => (x.1, x.2.2.2.1)) x)

def t1_46 (N : Nat) : Tab ze3 := []

theorem z16u {N : Nat} {c : Ctx} (hb : Base Tryd.prog (E_46 N) c) : zi Tryd.prog c (ze zrf [0, 0, 1, 1, 1, 1]) (z1a8 N) :=
  z1q (s := z13x) (m := 17) (z1d2 N) [0, 4, 3, 2] N (fun x => (x.2.1, x.2.2.1)) (fun x => (x.1, x.2.2.2.1)) (fun i v => (v.1, i.1, i.2, v.2, ())) (fun _ => rfl) (zd hb N (t1_46 N) L_46 zrf TabOk.nil [0, 0, 0, 1, 1, 1, 1] _ rfl) (fun i v r K => by kernel_rfl)

def z3q (N : Nat) (p : DT2) : Option ze3 :=
 (z1a N p (91 : Int)).bind fun y =>
 (zy N y.2.1 (94 : Int)).bind fun y1 =>
 (z3b N y1.2.1).bind fun y2 =>
 zcw N y2.2.1 ([(0 : Int), (0 : Int), (0 : Int), (0 : Int)] : List Int) y1.1 y2.1
 (fun p1 set_ => cond y1.1
 ((zdy N set_).bind fun y3 =>
 some (y3, (p1, ())))
 (some (set_, (p1, ()))))

def t_46 (N : Nat) : Tab ze3 := [([0, 0, 1, 1, 1, 1], z1a8 N)]

theorem z11g (N : Nat) (x : z17 SQ0) : z7p (E_46 N) N (t_46 N) L_46 Tryd.f83 (mkS SQ0 0 x) (z43 (.v (.arr 4 (.int .u64))) SQ0 0) = z3q N x.1 := by kernel_rfl

def z3u (N : Nat) : List A -> Res := z13 SQ0 (fun x => z3q N x.1) (z4d (.v (.arr 4 (.int .u64))) SQ0 0)

theorem z7m (N : Nat) : Contract Tryd.prog glob 83 (z3u N) :=
  Contract.of (E := E_46 N) (H := t_46 N) (L := L_46) (N := N) (body := zrf) (K := (z43 (.v (.arr 4 (.int .u64))) SQ0 0)) (z1f7 N) Tryd.func83 (by kernel_rfl) (by decide) (fun _ hb => (TabOk.cons (z16u hb) TabOk.nil)) (fun x y h => by rw [z11g]; exact h) (z31 (s := (.v (.arr 4 (.int .u64)))) (os := SQ0) (m := 0))

def zre : Code := (Tryd.f71.body).getD .skip

def L_47 : List (List Nat × List Nat) := [([0], [0, 2]), ([0, 1], [3, 0, 2]), ([0, 1, 1], [15, 0, 2, 3]), ([0, 0, 1, 1, 1], [36, 0, 2, 15, 3]), ([1, 0, 1, 1, 1], [2, 0]), ([0, 1, 1, 0, 1, 1, 1], [40, 0, 2, 15, 3]), ([1, 1, 1, 0, 1, 1, 1], [2, 0]), ([0, 1, 1, 1, 1, 0, 1, 1, 1], [51, 0, 2, 15, 3]), ([1, 1, 1, 1, 1, 0, 1, 1, 1], [2, 0]), ([0, 1, 1, 1, 1, 1, 1, 0, 1, 1, 1], [56, 0, 2, 3]), ([1, 1, 1, 1, 1, 1, 1, 0, 1, 1, 1], [2, 0]), ([0, 0, 1, 1, 1, 1, 1, 1, 1, 1, 0, 1, 1, 1], [18, 0, 3, 2]), ([1, 0, 1, 1, 1, 1, 1, 1, 1, 1, 0, 1, 1, 1], [0, 3, 2]), ([0, 1, 0, 1, 1, 1, 1, 1, 1, 1, 1, 0, 1, 1, 1], [0, 3, 2]), ([0, 1, 1, 1, 1, 1, 1, 1, 1, 1, 0, 1, 1, 1], [3, 2, 0]), ([0, 1, 1, 1, 1, 1, 1, 1, 1, 1, 1, 0, 1, 1, 1], [2, 0]), ([1, 1, 1, 1, 1, 1, 1, 1, 1, 1, 1, 0, 1, 1, 1], [2, 0]), ([0, 0, 1, 1, 1, 1, 1, 1, 1, 0, 1, 1, 1], [4, 2, 0]), ([0, 1, 0, 1, 1, 1, 1, 1, 1, 1, 0, 1, 1, 1], [2, 0]), ([1, 1, 0, 1, 1, 1, 1, 1, 1, 1, 0, 1, 1, 1], [2, 0]), ([0, 0, 1, 1, 1, 1, 1, 0, 1, 1, 1], [2, 0]), ([1, 0, 1, 1, 1, 1, 1, 0, 1, 1, 1], [2, 0]), ([0, 0, 1, 1, 1, 0, 1, 1, 1], [2, 0]), ([0, 1, 0, 1, 1, 1, 0, 1, 1, 1], [2, 0]), ([1, 1, 0, 1, 1, 1, 0, 1, 1, 1], [2, 0]), (zxh, [2, 0]), (zue, [2, 0]), ([1, 1, 1], [2, 0])]

def E_47 (N : Nat) (self : z7) : Env := z1x tys glob [(83, z3u N), (84, z2d N), (85, z2u N), (81, zdn N), (82, z2s N), (80, z52 N self), (40, z13 SQ0 (fun x => self x.1) (z4d (.v TT1) SQ0 0))] [] [] [0] false [] []

theorem z1f6 (N : Nat) (self : z7) (hself : Contract Tryd.prog glob 40 (z13 SQ0 (fun x => self x.1) (z4d (.v TT1) SQ0 0))) : EnvOk Tryd.prog (E_47 N self) := zg mixed zw (FnsOk.cons (z7m N) (FnsOk.cons (z3j N) (FnsOk.cons (z44 N) (FnsOk.cons (zjd N) (FnsOk.cons (z3r N) (FnsOk.cons (z9d N self hself) (FnsOk.cons (hself) (FnsOk.nil)))))))) (ItsOk.nil)

def za8 (N : Nat) (self : z7) (p : DT2) (x2 : DT4) (b : Int) (k0 : Option (DT4 × (DT2 × Unit))) : Option (DT4 × (DT2 × Unit)) :=
 cond (decide ((0 : Int) <= (Go.Lib.indexByte ([(92 : UInt8), (46 : UInt8), (91 : UInt8), (93 : UInt8), (40 : UInt8), (41 : UInt8), (123 : UInt8), (125 : UInt8), (124 : UInt8), (42 : UInt8), (43 : UInt8), (63 : UInt8)] : List UInt8) (Nat.toUInt8 (Int.toNat b)))))
 (none)
 (k0)

def z1d1 (N : Nat) (self : z7) (x : z17 zzl) (K : Ex -> List A -> Option (DT4 × (DT2 × Unit))) : Option (DT4 × (DT2 × Unit)) :=
 za8 N self x.1 x.2.1 x.2.2.1 (K .normal (mkS zzl 61 (x.1, x.2.1, x.2.2.1, ())))

def z1a7 (N : Nat) (self : z7) : Hd (DT4 × (DT2 × Unit)) := fun st K => (unS zzl 61 (restr [3, 0, 2] 0 st)).bind fun x => z1d1 N self x K

def t1_47 (N : Nat) (self : z7) : Tab (DT4 × (DT2 × Unit)) := []

theorem z16t {N : Nat} {self : z7} {c : Ctx} (hb : Base Tryd.prog (E_47 N self) c) : zi Tryd.prog c (ze zre z141) (z1a7 N self) :=
  zo (s := zzl) (m := 61) (g := z1d1 N self) [3, 0, 2] (zd hb N (t1_47 N self) L_47 zre TabOk.nil z141 _ rfl) (fun x K => by kernel_rfl)

def z5u (N : Nat) (self : z7) (p : DT2) : Option (DT4 × (DT2 × Unit)) :=
 cond (inR p.2.1 (List.length p.1))
 (cond ((((UInt8.toNat (List.getD p.1 (Int.toNat p.2.1) (0 : UInt8))) : Nat) : Int) == (40 : Int))
 ((z57 N self p).bind fun y =>
 some (y.1, (y.2.1, ())))
 (cond ((((UInt8.toNat (List.getD p.1 (Int.toNat p.2.1) (0 : UInt8))) : Nat) : Int) == (46 : Int))
 ((z32 N (0 : Int) (255 : Int)).bind fun y1 =>
 some (((1 : Int), (y1, (([] : List Tree), ((0 : Int), ((0 : Int), ()))))), ((p.1, ((IntKind.wrap IntKind.i64 (p.2.1 + (1 : Int))), p.2.2)), ())))
 (cond ((((UInt8.toNat (List.getD p.1 (Int.toNat p.2.1) (0 : UInt8))) : Nat) : Int) == (91 : Int))
 ((z3q N p).bind fun y2 =>
 some (((1 : Int), (y2.1, (([] : List Tree), ((0 : Int), ((0 : Int), ()))))), (y2.2.1, ())))
 (cond ((((UInt8.toNat (List.getD p.1 (Int.toNat p.2.1) (0 : UInt8))) : Nat) : Int) == (92 : Int))
 ((z2n N p).bind fun y3 =>
 some (((1 : Int), (y3.1.1, (([] : List Tree), ((0 : Int), ((0 : Int), ()))))), (y3.2.1, ())))
 (za8 N self p ((0 : Int), (([(0 : Int), (0 : Int), (0 : Int), (0 : Int)] : List Int), (([] : List Tree), ((0 : Int), ((0 : Int), ()))))) (((UInt8.toNat (List.getD p.1 (Int.toNat p.2.1) (0 : UInt8))) : Nat) : Int)
 ((z32 N (((UInt8.toNat (List.getD p.1 (Int.toNat p.2.1) (0 : UInt8))) : Nat) : Int) (((UInt8.toNat (List.getD p.1 (Int.toNat p.2.1) (0 : UInt8))) : Nat) : Int)).bind fun y4 =>
 some (((1 : Int), (y4, (([] : List Tree), ((0 : Int), ((0 : Int), ()))))), ((p.1, ((IntKind.wrap IntKind.i64 (p.2.1 + (1 : Int))), p.2.2)), ()))))))))
 (none)

def t_47 (N : Nat) (self : z7) : Tab (DT4 × (DT2 × Unit)) := [(z141, z1a7 N self)]

theorem z11f (N : Nat) (self : z7) (x : z17 SQ0) : z7p (E_47 N self) N (t_47 N self) L_47 Tryd.f71 (mkS SQ0 0 x) (z43 (.v TT1) SQ0 0) = z5u N self x.1 := by kernel_rfl

def z5j (N : Nat) (self : z7) : List A -> Res := z13 SQ0 (fun x => z5u N self x.1) (z4d (.v TT1) SQ0 0)

theorem za9 (N : Nat) (self : z7) (hself : Contract Tryd.prog glob 40 (z13 SQ0 (fun x => self x.1) (z4d (.v TT1) SQ0 0))) : Contract Tryd.prog glob 71 (z5j N self) :=
  Contract.of (E := E_47 N self) (H := t_47 N self) (L := L_47) (N := N) (body := zre) (K := (z43 (.v TT1) SQ0 0)) (z1f6 N self hself) Tryd.func71 (by kernel_rfl) (by decide) (fun _ hb => (TabOk.cons (z16t hb) TabOk.nil)) (fun x y h => by rw [z11f]; exact h) (z31 (s := (.v TT1)) (os := SQ0) (m := 0))

def z8z : Code := (Tryd.f86.body).getD .skip

def zzt : List (List Nat × List Nat) := [([0], [0]), ([0, 1], [0, 3]), ([0, 0, 1, 1], [12, 0, 3]), ([1, 0, 1, 1], [0, 3]), ([0, 1, 0, 1, 1], [0, 3]), ([0, 1, 1, 1], [0, 4, 3]), ([0, 0, 1, 1, 1, 1], [0, 4, 3]), (zxa, [37, 4, 0, 3]), (zx9, [4, 0, 3]), (z1e8, [0, 3, 4]), ([0, 0, 1, 0, 0, 0, 1, 1, 1, 1], [0, 4, 3]), ([1, 0, 1, 0, 0, 0, 1, 1, 1, 1], [0, 4, 3]), (zx4, [0, 4, 3]), ([0, 1, 1, 1, 1], [0, 3, 4]), (zm0, [75, 0, 3, 4]), (zx2, [4, 0, 3]), (zug, [4, 0, 3]), (zx7, [80, 0, 3, 4]), (zx6, [4, 0]), (zzp, [4, 0]), (zx3, [2, 0]), (zzo, [2, 0])]

def zyv (N : Nat) : Env := z1x tys glob [(96, z5l N), (92, zu N)] [] [] [0] false [] []

theorem z1f5 (N : Nat) : EnvOk Tryd.prog (zyv N) := zg mixed zw (FnsOk.cons (z90 N) (FnsOk.cons (z16 N) (FnsOk.nil))) (ItsOk.nil)

def zb4 (N : Nat) (p : DT2) (from_ : Int) (k0 : DT2 -> Option (Int × (DT2 × Unit))) : Option (Int × (DT2 × Unit)) :=
 (z19 N p).bind fun y =>
 (z5m N y.1).bind fun y1 =>
 cond (!y1)
 (none)
 (k0 y.2.1)

def z1d0 (N : Nat) (x : z17 zzk) (K : Ex -> List A -> Option (Int × (DT2 × Unit))) : Option (Int × (DT2 × Unit)) :=
 zb4 N x.1 x.2.1 (fun a0 => (K .normal (mkS zzk 81 (a0, x.2.1, ()))))

def z1a6 (N : Nat) : Hd (Int × (DT2 × Unit)) := fun st K => (unS zzk 81 (restr [0, 3] 0 st)).bind fun x => z1d0 N x K

def t1_48 (N : Nat) : Tab (Int × (DT2 × Unit)) := []

theorem z16s {N : Nat} {c : Ctx} (hb : Base Tryd.prog (zyv N) c) : zi Tryd.prog c (ze z8z [0, 1, 1]) (z1a6 N) :=
  zo (s := zzk) (m := 81) (g := z1d0 N) [0, 3] (zd hb N (t1_48 N) zzt z8z TabOk.nil [0, 1, 1] _ rfl) (fun x K => by kernel_rfl)

def zb2 (N : Nat) (p : DT2) (from_ : Int) (n : Int) (k0 : Option (Int × (DT2 × Unit))) (k1 : Option (Int × (DT2 × Unit))) : Option (Int × (DT2 × Unit)) :=
 cond (decide (p.2.1 < (((List.length p.1) : Nat) : Int)))
 (cond (inR p.2.1 (List.length p.1))
 ((z5m N (((UInt8.toNat (List.getD p.1 (Int.toNat p.2.1) (0 : UInt8))) : Nat) : Int)).bind fun y =>
 cond y
 (k0)
 (k1))
 (none))
 (k1)

def z1b9 (N : Nat) (x : z17 SQ1) (K : Ex -> List A -> Option (Int × (DT2 × Unit))) : Option (Int × (DT2 × Unit)) :=
 zb2 N x.1 x.2.1 x.2.2.1 (K .normal (mkS SQ1 80 (x.1, x.2.1, x.2.2.1, ()))) (K (.exit 0) (mkS SQ1 80 (x.1, x.2.1, x.2.2.1, ())))

def z18f (N : Nat) : Hd (Int × (DT2 × Unit)) := fun st K => (unS SQ1 80 (restr [0, 4, 3] 0 st)).bind fun x => z1b9 N x K

def t4_48 (N : Nat) : Tab (Int × (DT2 × Unit)) := []

theorem z151 {N : Nat} {c : Ctx} (hb : Base Tryd.prog (zyv N) c) : zi Tryd.prog c (ze z8z z140) (z18f N) :=
  zo (s := SQ1) (m := 80) (g := z1b9 N) [0, 4, 3] (zd hb N (t4_48 N) zzt z8z TabOk.nil z140 _ rfl) (fun x K => by kernel_rfl)

def zaz (N : Nat) (from_ : Int) (p : DT2) (n : Int) (rec : DT2 -> Int -> Option (Int × (DT2 × Unit))) (k0 : DT2 -> Int -> Option (Int × (DT2 × Unit))) : Option (Int × (DT2 × Unit)) :=
 zb2 N p from_ n
 (cond (inR p.2.1 (List.length p.1))
 (rec (p.1, ((IntKind.wrap IntKind.i64 (p.2.1 + (1 : Int))), p.2.2)) (if ((17 : Int) < (IntKind.wrap IntKind.i64 ((IntKind.wrap IntKind.i64 ((10 : Int) * n)) + (IntKind.wrap IntKind.i64 (IntKind.wrap IntKind.u8 ((((UInt8.toNat (List.getD p.1 (Int.toNat p.2.1) (0 : UInt8))) : Nat) : Int) - (48 : Int))))))) then (17 : Int) else (IntKind.wrap IntKind.i64 ((IntKind.wrap IntKind.i64 ((10 : Int) * n)) + (IntKind.wrap IntKind.i64 (IntKind.wrap IntKind.u8 ((((UInt8.toNat (List.getD p.1 (Int.toNat p.2.1) (0 : UInt8))) : Nat) : Int) - (48 : Int))))))))
 (none))
 (k0 p n)

def zgt (N : Nat) (p : DT2) (from_ : Int) (n : Int) (k0 : DT2 -> Int -> Option (Int × (DT2 × Unit))) : Option (Int × (DT2 × Unit)) :=
 iter (fun (v : (DT2 × Int)) r => zaz N from_ v.1 v.2 (fun p n => (r (p, n))) k0) N (p, n)

def z1bi (N : Nat) (i : Int) (v : (DT2 × Int)) (r : (DT2 × Int) -> Option (Int × (DT2 × Unit))) (K : Ex -> List A -> Option (Int × (DT2 × Unit))) : Option (Int × (DT2 × Unit)) :=
 zaz N i v.1 v.2 (fun p n => (r (p, n))) (fun a0 a2 => (K (.exit 0) (mkS SQ1 80 (a0, i, a2, ()))))

def z18o (N : Nat) : Hd (Int × (DT2 × Unit)) := fun st K => (unS SQ1 80 (restr [0, 4, 3] 0 st)).bind fun x => iter (fun v r => z1bi N ((fun x => x.2.1) x) v r K) N ((fun x => (x.1, x.2.2.1)) x)

def t3_48 (N : Nat) : Tab (Int × (DT2 × Unit)) := [(z140, z18f N)]

theorem z15a {N : Nat} {c : Ctx} (hb : Base Tryd.prog (zyv N) c) : zi Tryd.prog c (ze z8z [0, 0, 1, 1, 1, 1]) (z18o N) :=
  z1q (s := SQ1) (m := 80) (z1bi N) [0, 4, 3] N (fun x => x.2.1) (fun x => (x.1, x.2.2.1)) (fun i v => (v.1, i, v.2, ())) (fun _ => rfl) (zd hb N (t3_48 N) zzt z8z (TabOk.cons (z151 hb) TabOk.nil) [0, 0, 0, 1, 1, 1, 1] _ rfl) (fun i v r K => by kernel_rfl)

def zb3 (N : Nat) (p : DT2) (from_ : Int) (n : Int) (k0 : DT2 -> Int -> Option (Int × (DT2 × Unit))) : Option (Int × (DT2 × Unit)) :=
 zgt N p from_ n
 (fun p1 n1 => k0 p1 n1)

def z1c0 (N : Nat) (x : z17 SQ1) (K : Ex -> List A -> Option (Int × (DT2 × Unit))) : Option (Int × (DT2 × Unit)) :=
 zb3 N x.1 x.2.1 x.2.2.1 (fun a0 a2 => (K .normal (mkS SQ1 80 (a0, x.2.1, a2, ()))))

def z196 (N : Nat) : Hd (Int × (DT2 × Unit)) := fun st K => (unS SQ1 80 (restr [0, 4, 3] 0 st)).bind fun x => z1c0 N x K

def t2_48 (N : Nat) : Tab (Int × (DT2 × Unit)) := [([0, 0, 1, 1, 1, 1], z18o N)]

theorem z15s {N : Nat} {c : Ctx} (hb : Base Tryd.prog (zyv N) c) : zi Tryd.prog c (ze z8z [0, 1, 1, 1, 1]) (z196 N) :=
  zo (s := SQ1) (m := 80) (g := z1c0 N) [0, 4, 3] (zd hb N (t2_48 N) zzt z8z (TabOk.cons (z15a hb) TabOk.nil) [0, 1, 1, 1, 1] _ rfl) (fun x K => by kernel_rfl)

def zb0 (N : Nat) (p : DT2) (from_ : Int) (n : Int) (k0 : Bool -> Option (Int × (DT2 × Unit))) : Option (Int × (DT2 × Unit)) :=
 cond (inR from_ (List.length p.1))
 (cond ((((UInt8.toNat (List.getD p.1 (Int.toNat from_) (0 : UInt8))) : Nat) : Int) == (48 : Int))
 (k0 (decide ((IntKind.wrap IntKind.i64 (from_ + (1 : Int))) < p.2.1)))
 (k0 false))
 (none)

def z1b3 (N : Nat) (x : z17 SQ1) (K : Ex -> List A -> Option (Int × (DT2 × Unit))) : Option (Int × (DT2 × Unit)) :=
 zb0 N x.1 x.2.1 x.2.2.1 (fun a3 => (K .normal (mkS SQ81 9 (x.1, x.2.1, x.2.2.1, a3, ()))))

def z189 (N : Nat) : Hd (Int × (DT2 × Unit)) := fun st K => (unS SQ1 80 (restr [0, 3, 4] 0 st)).bind fun x => z1b3 N x K

def t6_48 (N : Nat) : Tab (Int × (DT2 × Unit)) := []

theorem z14v {N : Nat} {c : Ctx} (hb : Base Tryd.prog (zyv N) c) : zi Tryd.prog c (ze z8z zm0) (z189 N) :=
  zo (s := SQ1) (m := 80) (g := z1b3 N) [0, 3, 4] (zd hb N (t6_48 N) zzt z8z TabOk.nil zm0 _ rfl) (fun x K => by kernel_rfl)

def zb1 (N : Nat) (p : DT2) (from_ : Int) (n : Int) (k0 : Option (Int × (DT2 × Unit))) : Option (Int × (DT2 × Unit)) :=
 zb0 N p from_ n
 (fun x75 => cond x75
 (none)
 (k0))

def z1b5 (N : Nat) (x : z17 SQ1) (K : Ex -> List A -> Option (Int × (DT2 × Unit))) : Option (Int × (DT2 × Unit)) :=
 zb1 N x.1 x.2.1 x.2.2.1 (K .normal (mkS SQ1 80 (x.1, x.2.1, x.2.2.1, ())))

def z18b (N : Nat) : Hd (Int × (DT2 × Unit)) := fun st K => (unS SQ1 80 (restr [0, 3, 4] 0 st)).bind fun x => z1b5 N x K

def t5_48 (N : Nat) : Tab (Int × (DT2 × Unit)) := [(zm0, z189 N)]

theorem z14x {N : Nat} {c : Ctx} (hb : Base Tryd.prog (zyv N) c) : zi Tryd.prog c (ze z8z [0, 1, 1, 1, 1, 1]) (z18b N) :=
  zo (s := SQ1) (m := 80) (g := z1b5 N) [0, 3, 4] (zd hb N (t5_48 N) zzt z8z (TabOk.cons (z14v hb) TabOk.nil) [0, 1, 1, 1, 1, 1] _ rfl) (fun x K => by kernel_rfl)

def z3l (N : Nat) (p : DT2) : Option (Int × (DT2 × Unit)) :=
 zb4 N p p.2.1
 (fun p1 => zb3 N p1 p.2.1 (0 : Int)
 (fun p2 n => zb1 N p2 p.2.1 n
 (cond (decide ((16 : Int) < n))
 (none)
 (some (n, (p2, ()))))))

def t_48 (N : Nat) : Tab (Int × (DT2 × Unit)) := [([0, 1, 1], z1a6 N), ([0, 1, 1, 1, 1], z196 N), ([0, 1, 1, 1, 1, 1], z18b N)]

theorem z11e (N : Nat) (x : z17 SQ0) : z7p (zyv N) N (t_48 N) zzt Tryd.f86 (mkS SQ0 0 x) (z43 (.v (.int .i64)) SQ0 0) = z3l N x.1 := by kernel_rfl

def z68 (N : Nat) : List A -> Res := z13 SQ0 (fun x => z3l N x.1) (z4d (.v (.int .i64)) SQ0 0)

theorem zb5 (N : Nat) : Contract Tryd.prog glob 86 (z68 N) :=
  Contract.of (E := zyv N) (H := t_48 N) (L := zzt) (N := N) (body := z8z) (K := (z43 (.v (.int .i64)) SQ0 0)) (z1f5 N) Tryd.func86 (by kernel_rfl) (by decide) (fun _ hb => (TabOk.cons (z16s hb) (TabOk.cons (z15s hb) (TabOk.cons (z14x hb) TabOk.nil)))) (fun x y h => by rw [z11e]; exact h) (z31 (s := (.v (.int .i64))) (os := SQ0) (m := 0))

def zlq : Code := (Tryd.f72.body).getD .skip

def L_49 : List (List Nat × List Nat) := [([0], [0]), ([0, 1], [0, 4]), ([0, 1, 1], [2, 0, 4]), ([0, 1, 1, 1], [0, 2, 3, 4]), ([0, 0, 1, 1, 1, 1], [13, 0, 2, 3, 4]), ([1, 0, 1, 1, 1, 1], [3, 2, 0, 4]), ([0, 0, 0, 1, 0, 1, 1, 1, 1], [15, 2, 0]), ([1, 0, 0, 1, 0, 1, 1, 1, 1], [0, 2]), ([0, 0, 1, 0, 0, 1, 0, 1, 1, 1, 1], [2, 3, 0]), ([1, 0, 1, 0, 0, 1, 0, 1, 1, 1, 1], [2, 3, 0]), ([0, 1, 0, 1, 0, 1, 1, 1, 1], [0, 2, 4]), ([1, 1, 0, 1, 0, 1, 1, 1, 1], [3, 2, 0, 4]), (zm0, [26, 0, 4, 2, 3]), (zx2, [0, 2, 3]), (zug, [0, 2, 3]), (zx1, [2, 3, 0]), (zx3, [2, 3, 0]), (zzo, [2, 3, 0])]

def z1gb (N : Nat) : Env := z1x tys glob [(86, z68 N), (57, z1c N), (87, z1d N)] [] [] [0] false [] []

theorem z1f4 (N : Nat) : EnvOk Tryd.prog (z1gb N) := zg mixed zw (FnsOk.cons (zb5 N) (FnsOk.cons (z1o N) (FnsOk.cons (z1p N) (FnsOk.nil)))) (ItsOk.nil)

def z8h (N : Nat) (p : DT2) (low : Int) (high : Int) (from_ : Int) (k0 : DT2 -> Int -> Option ((Int × Int × Unit) × (DT2 × Unit))) (k1 : DT2 -> Int -> Int -> Option ((Int × Int × Unit) × (DT2 × Unit))) : Option ((Int × Int × Unit) × (DT2 × Unit)) :=
 (zy N p (44 : Int)).bind fun y =>
 cond y.1
 ((zy N y.2.1 (125 : Int)).bind fun y1 =>
 cond y1.1
 (k0 y1.2.1 (-(1 : Int)))
 ((z3l N y1.2.1).bind fun y2 =>
 k1 y2.2.1 y2.1 y1.2.1.2.1))
 (k1 y.2.1 high from_)

def z1cz (N : Nat) (x : z17 SQ5) (K : Ex -> List A -> Option ((Int × Int × Unit) × (DT2 × Unit))) : Option ((Int × Int × Unit) × (DT2 × Unit)) :=
 z8h N x.1 x.2.1 x.2.2.1 x.2.2.2.1 (fun a0 a2 => (K .ret (mkS SQ40 30 (a0, x.2.1, a2, ())))) (fun a0 a2 a3 => (K .normal (mkS SQ5 29 (a0, x.2.1, a2, a3, ()))))

def z1a5 (N : Nat) : Hd ((Int × Int × Unit) × (DT2 × Unit)) := fun st K => (unS SQ5 29 (restr [0, 2, 3, 4] 0 st)).bind fun x => z1cz N x K

def t1_49 (N : Nat) : Tab ((Int × Int × Unit) × (DT2 × Unit)) := []

theorem z16r {N : Nat} {c : Ctx} (hb : Base Tryd.prog (z1gb N) c) : zi Tryd.prog c (ze zlq [0, 1, 1, 1, 1]) (z1a5 N) :=
  zo (s := SQ5) (m := 29) (g := z1cz N) [0, 2, 3, 4] (zd hb N (t1_49 N) L_49 zlq TabOk.nil [0, 1, 1, 1, 1] _ rfl) (fun x K => by kernel_rfl)

def z8g (N : Nat) (p : DT2) (low : Int) (high : Int) (from_ : Int) (k0 : Option ((Int × Int × Unit) × (DT2 × Unit))) : Option ((Int × Int × Unit) × (DT2 × Unit)) :=
 cond (decide (high < (if ((1 : Int) > low) then (1 : Int) else low)))
 (none)
 (k0)

def z1bz (N : Nat) (x : z17 SQ5) (K : Ex -> List A -> Option ((Int × Int × Unit) × (DT2 × Unit))) : Option ((Int × Int × Unit) × (DT2 × Unit)) :=
 z8g N x.1 x.2.1 x.2.2.1 x.2.2.2.1 (K .normal (mkS SQ40 30 (x.1, x.2.1, x.2.2.1, ())))

def z195 (N : Nat) : Hd ((Int × Int × Unit) × (DT2 × Unit)) := fun st K => (unS SQ5 29 (restr [3, 2, 0, 4] 0 st)).bind fun x => z1bz N x K

def t2_49 (N : Nat) : Tab ((Int × Int × Unit) × (DT2 × Unit)) := []

theorem z15r {N : Nat} {c : Ctx} (hb : Base Tryd.prog (z1gb N) c) : zi Tryd.prog c (ze zlq [0, 1, 1, 1, 1, 1]) (z195 N) :=
  zo (s := SQ5) (m := 29) (g := z1bz N) [3, 2, 0, 4] (zd hb N (t2_49 N) L_49 zlq TabOk.nil [0, 1, 1, 1, 1, 1] _ rfl) (fun x K => by kernel_rfl)

def z4k (N : Nat) (p : DT2) : Option ((Int × Int × Unit) × (DT2 × Unit)) :=
 (z3l N p).bind fun y =>
 z8h N y.2.1 y.1 y.1 p.2.1
 (fun p1 high => some ((y.1, (high, ())), (p1, ())))
 (fun p2 high1 from_ => z8g N p2 y.1 high1 from_
 ((z1a N p2 (125 : Int)).bind fun y1 =>
 some ((y.1, (high1, ())), (y1.2.1, ()))))

def t_49 (N : Nat) : Tab ((Int × Int × Unit) × (DT2 × Unit)) := [([0, 1, 1, 1, 1], z1a5 N), ([0, 1, 1, 1, 1, 1], z195 N)]

theorem z11d (N : Nat) (x : z17 SQ0) : z7p (z1gb N) N (t_49 N) L_49 Tryd.f72 (mkS SQ0 0 x) (z43 (.tup [(.int .i64), (.int .i64)]) SQ0 0) = z4k N x.1 := by kernel_rfl

def z4i (N : Nat) : List A -> Res := z13 SQ0 (fun x => z4k N x.1) (z4d (.tup [(.int .i64), (.int .i64)]) SQ0 0)

theorem z8i (N : Nat) : Contract Tryd.prog glob 72 (z4i N) :=
  Contract.of (E := z1gb N) (H := t_49 N) (L := L_49) (N := N) (body := zlq) (K := (z43 (.tup [(.int .i64), (.int .i64)]) SQ0 0)) (z1f4 N) Tryd.func72 (by kernel_rfl) (by decide) (fun _ hb => (TabOk.cons (z16r hb) (TabOk.cons (z15r hb) TabOk.nil))) (fun x y h => by rw [z11d]; exact h) (z31 (s := (.tup [(.int .i64), (.int .i64)])) (os := SQ0) (m := 0))

def zrd : Code := (Tryd.f66.body).getD .skip

def L_50 : List (List Nat × List Nat) := [([0], [0, 2]), ([0, 1], [0, 3, 2]), ([0, 0, 1, 1], [16, 3, 2, 0]), ([1, 0, 1, 1], [3, 0, 2]), ([0, 0, 1, 0, 1, 1], [2, 0]), ([1, 0, 1, 0, 1, 1], [2, 0]), ([0, 1, 1, 1], [0, 4, 2, 3]), ([0, 0, 1, 1, 1, 1], [29, 4, 0, 2, 3]), ([0, 0, 0, 0, 0, 0, 0, 0, 0, 0, 0, 0, 0, 0, 1, 0, 1, 1, 1, 1], [30, 4, 0, 2, 29, 3]), ([1, 0, 0, 0, 0, 0, 0, 0, 0, 0, 0, 0, 0, 0, 1, 0, 1, 1, 1, 1], [29, 0, 4, 2, 3]), ([0, 1, 0, 0, 0, 0, 0, 0, 0, 0, 0, 0, 0, 0, 0, 1, 0, 1, 1, 1, 1], [4, 0, 2]), ([0, 0, 1, 0, 0, 0, 0, 0, 0, 0, 0, 0, 0, 0, 0, 1, 0, 1, 1, 1, 1], [32, 0, 4, 2, 29, 3]), ([1, 0, 1, 0, 0, 0, 0, 0, 0, 0, 0, 0, 0, 0, 0, 1, 0, 1, 1, 1, 1], [29, 0, 4, 2, 3]), ([0, 1, 0, 1, 0, 0, 0, 0, 0, 0, 0, 0, 0, 0, 0, 0, 1, 0, 1, 1, 1, 1], [0, 4, 2]), ([0, 0, 1, 1, 0, 0, 0, 0, 0, 0, 0, 0, 0, 0, 0, 0, 1, 0, 1, 1, 1, 1], [34, 0, 4, 2, 29, 3]), ([1, 0, 1, 1, 0, 0, 0, 0, 0, 0, 0, 0, 0, 0, 0, 0, 1, 0, 1, 1, 1, 1], [29, 0, 4, 2, 3]), ([0, 1, 0, 1, 1, 0, 0, 0, 0, 0, 0, 0, 0, 0, 0, 0, 0, 1, 0, 1, 1, 1, 1], [0, 4, 2]), ([0, 1, 1, 1, 0, 0, 0, 0, 0, 0, 0, 0, 0, 0, 0, 0, 1, 0, 1, 1, 1, 1], [36, 0, 4, 2, 3]), ([1, 1, 1, 1, 0, 0, 0, 0, 0, 0, 0, 0, 0, 0, 0, 0, 1, 0, 1, 1, 1, 1], [3, 2, 0]), ([0, 1, 1, 1, 1, 0, 0, 0, 0, 0, 0, 0, 0, 0, 0, 0, 0, 1, 0, 1, 1, 1, 1], [0, 4, 2]), ([1, 0, 0, 0, 0, 0, 0, 0, 0, 0, 0, 0, 1, 0, 1, 1, 1, 1], [3, 2, 0]), ([0, 0, 0, 0, 0, 0, 0, 0, 0, 0, 1, 0, 1, 1, 1, 1], [4, 0, 2]), ([1, 0, 0, 0, 0, 0, 0, 0, 0, 0, 1, 0, 1, 1, 1, 1], [0, 4, 2]), (zzr, [0, 4, 2]), ([0, 1, 0, 0, 0, 0, 0, 0, 0, 1, 0, 1, 1, 1, 1], [4, 2, 0]), ([1, 1, 0, 0, 0, 0, 0, 0, 0, 1, 0, 1, 1, 1, 1], [4, 2, 0]), ([0, 0, 0, 0, 0, 0, 1, 0, 1, 1, 1, 1], [0, 4, 2]), ([0, 0, 1, 0, 0, 0, 0, 0, 1, 0, 1, 1, 1, 1], [4, 2, 0]), ([1, 0, 1, 0, 0, 0, 0, 0, 1, 0, 1, 1, 1, 1], [4, 2, 0]), ([1, 1, 0, 0, 0, 0, 0, 1, 0, 1, 1, 1, 1], [4, 2, 0]), ([0, 0, 0, 0, 1, 0, 1, 1, 1, 1], [0, 4, 2]), ([0, 0, 1, 0, 0, 0, 1, 0, 1, 1, 1, 1], [0, 4, 2]), ([1, 0, 1, 0, 0, 0, 1, 0, 1, 1, 1, 1], [4, 2, 0]), ([1, 1, 0, 0, 0, 1, 0, 1, 1, 1, 1], [4, 2, 0]), ([0, 0, 1, 0, 1, 1, 1, 1], [3, 2, 0]), ([0, 0, 1, 0, 1, 0, 1, 1, 1, 1], [2, 0]), ([1, 0, 1, 0, 1, 0, 1, 1, 1, 1], [2, 0]), ([1, 1, 0, 1, 0, 1, 1, 1, 1], [4, 2, 0]), ([1, 0, 1, 1, 1, 1], [4, 2, 0]), ([0, 1, 1, 1, 1, 1], [2, 0]), ([1, 1, 1, 1, 1, 1], [2, 0])]

def E_50 (N : Nat) (self : z7) : Env := z1x tys glob [(72, z4i N), (71, z5j N self), (40, z13 SQ0 (fun x => self x.1) (z4d (.v TT1) SQ0 0))] [] [] [0] false [] []

theorem z1f3 (N : Nat) (self : z7) (hself : Contract Tryd.prog glob 40 (z13 SQ0 (fun x => self x.1) (z4d (.v TT1) SQ0 0))) : EnvOk Tryd.prog (E_50 N self) := zg mixed zw (FnsOk.cons (z8i N) (FnsOk.cons (za9 N self hself) (FnsOk.cons (hself) (FnsOk.nil)))) (ItsOk.nil)

def z9a (N : Nat) (self : z7) (p : DT2) (x2 : DT4) (kid : DT4) (rep : DT4) (x29 : Int) (k0 : DT4 -> Option (DT4 × (DT2 × Unit))) (k1 : Option (DT4 × (DT2 × Unit))) (k2 : Option (DT4 × (DT2 × Unit))) (k3 : Option (DT4 × (DT2 × Unit))) : Option (DT4 × (DT2 × Unit)) :=
 cond (x29 == (43 : Int))
 (k0 (rep.1, (rep.2.1, (rep.2.2.1, ((1 : Int), rep.2.2.2.2)))))
 (cond (x29 == (42 : Int))
 (k0 rep)
 (cond (x29 == (63 : Int))
 (k1)
 (cond (x29 == (123 : Int))
 (k2)
 (k3))))

def z1cy (N : Nat) (self : z7) (x : z17 z13u) (K : Ex -> List A -> Option (DT4 × (DT2 × Unit))) : Option (DT4 × (DT2 × Unit)) :=
 z9a N self x.1 x.2.1 x.2.2.1 x.2.2.2.1 x.2.2.2.2.1 (fun a2 => (K .normal (mkS z13t 65 (x.1, x.2.1, a2, ())))) (K (.exit 3) (mkS z13t 65 (x.1, x.2.1, x.2.2.2.1, ()))) (K (.exit 4) (mkS z13t 65 (x.1, x.2.1, x.2.2.2.1, ()))) (K (.exit 5) (mkS [(0, .box (.pair .str TT0)), (1, .box TT1), (0, .box TT1)] 66 (x.1, x.2.1, x.2.2.1, ())))

def z1a4 (N : Nat) (self : z7) : Hd (DT4 × (DT2 × Unit)) := fun st K => (unS z13u 40 (restr [29, 4, 0, 2, 3] 0 st)).bind fun x => z1cy N self x K

def t1_50 (N : Nat) (self : z7) : Tab (DT4 × (DT2 × Unit)) := []

theorem z16q {N : Nat} {self : z7} {c : Ctx} (hb : Base Tryd.prog (E_50 N self) c) : zi Tryd.prog c (ze zrd zzr) (z1a4 N self) :=
  zo (s := z13u) (m := 40) (g := z1cy N self) [29, 4, 0, 2, 3] (zd hb N (t1_50 N self) L_50 zrd TabOk.nil zzr _ rfl) (fun x K => by kernel_rfl)

def z56 (N : Nat) (self : z7) (p : DT2) : Option (DT4 × (DT2 × Unit)) :=
 (z5u N self p).bind fun y =>
 cond (y.2.1.2.1 == (((List.length y.2.1.1) : Nat) : Int))
 (some (y.1, (y.2.1, ())))
 (cond (inR y.2.1.2.1 (List.length y.2.1.1))
 (z9a N self y.2.1 ((0 : Int), (([(0 : Int), (0 : Int), (0 : Int), (0 : Int)] : List Int), (([] : List Tree), ((0 : Int), ((0 : Int), ()))))) y.1 ((4 : Int), (([(0 : Int), (0 : Int), (0 : Int), (0 : Int)] : List Int), ((List.map foN ([y.1] : List zt7)), ((0 : Int), ((-(1 : Int)), ()))))) (((UInt8.toNat (List.getD y.2.1.1 (Int.toNat y.2.1.2.1) (0 : UInt8))) : Nat) : Int)
 (fun rep => some (rep, ((y.2.1.1, ((IntKind.wrap IntKind.i64 (y.2.1.2.1 + (1 : Int))), y.2.1.2.2)), ())))
 (some (((4 : Int), (([(0 : Int), (0 : Int), (0 : Int), (0 : Int)] : List Int), ((List.map foN ([y.1] : List zt7)), ((0 : Int), ((1 : Int), ()))))), ((y.2.1.1, ((IntKind.wrap IntKind.i64 (y.2.1.2.1 + (1 : Int))), y.2.1.2.2)), ())))
 ((z4k N (y.2.1.1, ((IntKind.wrap IntKind.i64 (y.2.1.2.1 + (1 : Int))), y.2.1.2.2))).bind fun y1 =>
 some (((4 : Int), (([(0 : Int), (0 : Int), (0 : Int), (0 : Int)] : List Int), ((List.map foN ([y.1] : List zt7)), (y1.1.1, (y1.1.2.1, ()))))), (y1.2.1, ())))
 (some (y.1, (y.2.1, ()))))
 (none))

def t_50 (N : Nat) (self : z7) : Tab (DT4 × (DT2 × Unit)) := [(zzr, z1a4 N self)]

theorem z11c (N : Nat) (self : z7) (x : z17 SQ0) : z7p (E_50 N self) N (t_50 N self) L_50 Tryd.f66 (mkS SQ0 0 x) (z43 (.v TT1) SQ0 0) = z56 N self x.1 := by kernel_rfl

def z50 (N : Nat) (self : z7) : List A -> Res := z13 SQ0 (fun x => z56 N self x.1) (z4d (.v TT1) SQ0 0)

theorem z9b (N : Nat) (self : z7) (hself : Contract Tryd.prog glob 40 (z13 SQ0 (fun x => self x.1) (z4d (.v TT1) SQ0 0))) : Contract Tryd.prog glob 66 (z50 N self) :=
  Contract.of (E := E_50 N self) (H := t_50 N self) (L := L_50) (N := N) (body := zrd) (K := (z43 (.v TT1) SQ0 0)) (z1f3 N self hself) Tryd.func66 (by kernel_rfl) (by decide) (fun _ hb => (TabOk.cons (z16q hb) TabOk.nil)) (fun x y h => by rw [z11c]; exact h) (z31 (s := (.v TT1)) (os := SQ0) (m := 0))

def zrc : Code := (Tryd.f58.body).getD .skip

def L_51 : List (List Nat × List Nat) := [([0], [1, 0, 4]), ([0, 1], [1, 0, 5, 4]), ([0, 0, 1, 1], [10, 9, 8, 0, 5, 4]), ([0, 1, 0, 1, 1], [10, 9, 8, 0, 5, 4]), ([0, 0, 0, 1, 0, 1, 1], [11, 8, 10, 0, 5, 9, 4]), (zuh, [8, 10, 0, 5, 9, 4]), (zxe, [5, 4, 0]), (z1e9, [7, 0, 5, 10, 9, 8, 4]), (z1ea, [17, 5, 7, 10, 9, 8, 0, 4]), ([1, 1, 0, 0, 1, 1, 0, 0, 1, 0, 1, 1], [10, 9, 8, 0, 5, 4]), ([1, 1, 1, 0, 0, 1, 1, 0, 0, 1, 0, 1, 1], [10, 9, 8, 0, 5, 4]), ([0, 1, 1, 0, 0, 1, 1, 0, 0, 1, 0, 1, 1], [10, 9, 8, 0, 5, 4]), (zxd, [10, 9, 8, 0, 5, 4]), (zxc, [10, 9, 8, 0, 5, 4]), ([1, 0, 1, 1], [5, 4, 0]), ([0, 0, 1, 1, 1], [29, 5, 4, 0]), ([1, 0, 1, 1, 1], [0, 5, 4]), (zxh, [4]), (zue, [4]), ([0, 1, 1, 1, 1], [4]), ([1, 1, 1, 1, 1], [4])]

def E_51 (N : Nat) : Env := z1x tys glob [] [(5, TT1)] [] [] false [] []

theorem z1f2 (N : Nat) : EnvOk Tryd.prog (E_51 N) := zg mixed zw (FnsOk.nil) (ItsOk.nil)

def zht (N : Nat) (kind : Int) (x4 : DT4) (x8 : (List Tree)) (x9 : Int) (kids : (List DT4)) (x10 : Int) (rec : (List DT4) -> Int -> Option DT4) (k0 : (List DT4) -> Option DT4) : Option DT4 :=
 cond (decide (x10 < x9))
 (cond (inR x10 (List.length x8))
 (cond ((unN (List.getD x8 (Int.toNat x10) (Tree.mk (0 : Int) ([] : List Int) ([] : List Tree) (0 : Int) (0 : Int)))).1 == kind)
 (cond (decide ((((List.length kids) + (List.length (List.map unN (unN (List.getD x8 (Int.toNat x10) (Tree.mk (0 : Int) ([] : List Int) ([] : List Tree) (0 : Int) (0 : Int)))).2.2.1))) * 80) <= 70368744177664))
 (rec (kids ++ (List.map unN (unN (List.getD x8 (Int.toNat x10) (Tree.mk (0 : Int) ([] : List Int) ([] : List Tree) (0 : Int) (0 : Int)))).2.2.1)) (IntKind.wrap IntKind.i64 (x10 + (1 : Int))))
 (none))
 (cond (decide ((((List.length kids) + 1) * 80) <= 70368744177664))
 (rec (kids ++ ([(unN (List.getD x8 (Int.toNat x10) (Tree.mk (0 : Int) ([] : List Int) ([] : List Tree) (0 : Int) (0 : Int))))] : List zt7)) (IntKind.wrap IntKind.i64 (x10 + (1 : Int))))
 (none)))
 (none))
 (k0 kids)

def znm (N : Nat) (kind : Int) (x4 : DT4) (kids : (List DT4)) (x8 : (List Tree)) (x9 : Int) (x10 : Int) (k0 : (List DT4) -> Option DT4) : Option DT4 :=
 iter (fun (v : ((List DT4) × Int)) r => zht N kind x4 x8 x9 v.1 v.2 (fun kids x10 => (r (kids, x10))) k0) N (kids, x10)

def z1cx (N : Nat) (i : (Int × DT4 × (List Tree) × Int)) (v : ((List DT4) × Int)) (r : ((List DT4) × Int) -> Option DT4) (K : Ex -> List A -> Option DT4) : Option DT4 :=
 zht N i.1 i.2.1 i.2.2.1 i.2.2.2 v.1 v.2 (fun kids x10 => (r (kids, x10))) (fun a2 => (K (.exit 0) (mkS [(0, .v (.int .i64)), (3, .box TT1), (0, .row TT1)] 30 (i.1, i.2.1, a2, ()))))

def z1a3 (N : Nat) : Hd DT4 := fun st K => (unS SQ57 25 (restr [10, 9, 8, 0, 5, 4] 0 st)).bind fun x => iter (fun v r => z1cx N ((fun x => (x.1, x.2.1, x.2.2.2.1, x.2.2.2.2.1)) x) v r K) N ((fun x => (x.2.2.1, x.2.2.2.2.2.1)) x)

def t1_51 (N : Nat) : Tab DT4 := []

theorem z16p {N : Nat} {c : Ctx} (hb : Base Tryd.prog (E_51 N) c) : zi Tryd.prog c (ze zrc [0, 1, 0, 1, 1]) (z1a3 N) :=
  z1q (s := SQ57) (m := 25) (z1cx N) [10, 9, 8, 0, 5, 4] N (fun x => (x.1, x.2.1, x.2.2.2.1, x.2.2.2.2.1)) (fun x => (x.2.2.1, x.2.2.2.2.2.1)) (fun i v => (i.1, i.2.1, v.1, i.2.2.1, i.2.2.2, v.2, ())) (fun _ => rfl) (zd hb N (t1_51 N) L_51 zrc TabOk.nil [0, 0, 1, 0, 1, 1] _ rfl) (fun i v r K => by kernel_rfl)

def zap (N : Nat) (kind : Int) (parts : (List Tree)) : Option DT4 :=
 znm N kind ((0 : Int), (([(0 : Int), (0 : Int), (0 : Int), (0 : Int)] : List Int), (([] : List Tree), ((0 : Int), ((0 : Int), ()))))) ([] : List zt7) parts (((List.length parts) : Nat) : Int) (0 : Int)
 (fun kids => cond ((((List.length kids) : Nat) : Int) == (1 : Int))
 (cond (inR (0 : Int) (List.length kids))
 (cond (decide (0 < (List.length kids)))
 (some (List.getD kids 0 ((0 : Int), (([] : List Int), (([] : List Tree), ((0 : Int), ((0 : Int), ())))))))
 (none))
 (none))
 (some (kind, (([(0 : Int), (0 : Int), (0 : Int), (0 : Int)] : List Int), ((List.map foN kids), ((0 : Int), ((0 : Int), ())))))))

def t_51 (N : Nat) : Tab DT4 := [([0, 1, 0, 1, 1], z1a3 N)]

theorem z11b (N : Nat) (x : z17 [(0, .v (.int .i64)), (0, .v (.sl .nod))]) : z7p (E_51 N) N (t_51 N) L_51 Tryd.f58 (mkS [(0, .v (.int .i64)), (0, .v (.sl .nod))] 0 x) (z5a (.v TT1) 2) = zap N x.1 x.2.1 := by kernel_rfl

def z6x (N : Nat) : List A -> Res := z13 [(0, .v (.int .i64)), (0, .v (.sl .nod))] (fun x => zap N x.1 x.2.1) (zbr (.v TT1) 2)

theorem zah (N : Nat) : Contract Tryd.prog glob 58 (z6x N) :=
  Contract.of (E := E_51 N) (H := t_51 N) (L := L_51) (N := N) (body := zrc) (K := (z5a (.v TT1) 2)) (z1f2 N) Tryd.func58 (by kernel_rfl) (by decide) (fun _ hb => (TabOk.cons (z16p hb) TabOk.nil)) (fun x y h => by rw [z11b]; exact h) (z1s (s := (.v TT1)) (m := 2))

def zh8 : Code := (Tryd.f56.body).getD .skip

def z1ed : List (List Nat × List Nat) := [([0], [0, 2]), ([0, 1], [0, 3, 2]), ([0, 0, 1, 1], [0, 3, 2]), ([0, 0, 0, 0, 0, 1, 1], [37, 3, 0, 2]), ([1, 0, 0, 0, 0, 1, 1], [3, 0, 2]), (zx5, [3, 2, 0]), ([0, 1, 0, 0, 0, 1, 1], [0, 3, 2]), ([1, 0, 0, 0, 1, 1], [0, 3, 2]), ([0, 1, 1], [3, 2, 0]), ([0, 1, 1, 1], [2, 0]), ([1, 1, 1, 1], [2, 0])]

def z147 (N : Nat) (self : z7) : Env := z1x tys glob [(58, z6x N), (66, z50 N self), (40, z13 SQ0 (fun x => self x.1) (z4d (.v TT1) SQ0 0))] [(3, TT1)] [] [0] false [] []

theorem z1f1 (N : Nat) (self : z7) (hself : Contract Tryd.prog glob 40 (z13 SQ0 (fun x => self x.1) (z4d (.v TT1) SQ0 0))) : EnvOk Tryd.prog (z147 N self) := zg mixed zw (FnsOk.cons (zah N) (FnsOk.cons (z9b N self hself) (FnsOk.cons (hself) (FnsOk.nil)))) (ItsOk.nil)

def zba (N : Nat) (self : z7) (p : DT2) (x2 : DT4) (parts : (List DT4)) (k0 : Option (DT4 × (DT2 × Unit))) (k1 : Option (DT4 × (DT2 × Unit))) : Option (DT4 × (DT2 × Unit)) :=
 cond (decide (p.2.1 < (((List.length p.1) : Nat) : Int)))
 (cond (inR p.2.1 (List.length p.1))
 (cond ((((UInt8.toNat (List.getD p.1 (Int.toNat p.2.1) (0 : UInt8))) : Nat) : Int) != (124 : Int))
 (cond (inR p.2.1 (List.length p.1))
 (cond ((((UInt8.toNat (List.getD p.1 (Int.toNat p.2.1) (0 : UInt8))) : Nat) : Int) != (41 : Int))
 (k0)
 (k1))
 (none))
 (k1))
 (none))
 (k1)

def z1bh (N : Nat) (self : z7) (x : z17 SQ3) (K : Ex -> List A -> Option (DT4 × (DT2 × Unit))) : Option (DT4 × (DT2 × Unit)) :=
 zba N self x.1 x.2.1 x.2.2.1 (K .normal (mkS SQ3 41 (x.1, x.2.1, x.2.2.1, ()))) (K (.exit 0) (mkS SQ3 41 (x.1, x.2.1, x.2.2.1, ())))

def z18n (N : Nat) (self : z7) : Hd (DT4 × (DT2 × Unit)) := fun st K => (unS SQ3 41 (restr [0, 3, 2] 0 st)).bind fun x => z1bh N self x K

def t3_52 (N : Nat) (self : z7) : Tab (DT4 × (DT2 × Unit)) := []

theorem z159 {N : Nat} {self : z7} {c : Ctx} (hb : Base Tryd.prog (z147 N self) c) : zi Tryd.prog c (ze zh8 [0, 0, 0, 0, 1, 1]) (z18n N self) :=
  zo (s := SQ3) (m := 41) (g := z1bh N self) [0, 3, 2] (zd hb N (t3_52 N self) z1ed zh8 TabOk.nil [0, 0, 0, 0, 1, 1] _ rfl) (fun x K => by kernel_rfl)

def zb9 (N : Nat) (self : z7) (x2 : DT4) (p : DT2) (parts : (List DT4)) (rec : DT2 -> (List DT4) -> Option (DT4 × (DT2 × Unit))) (k0 : DT2 -> (List DT4) -> Option (DT4 × (DT2 × Unit))) : Option (DT4 × (DT2 × Unit)) :=
 zba N self p x2 parts
 ((z56 N self p).bind fun y =>
 cond (decide ((((List.length parts) + 1) * 80) <= 70368744177664))
 (rec y.2.1 (parts ++ ([y.1] : List zt7)))
 (none))
 (k0 p parts)

def zgu (N : Nat) (self : z7) (p : DT2) (x2 : DT4) (parts : (List DT4)) (k0 : DT2 -> (List DT4) -> Option (DT4 × (DT2 × Unit))) : Option (DT4 × (DT2 × Unit)) :=
 iter (fun (v : (DT2 × (List DT4))) r => zb9 N self x2 v.1 v.2 (fun p parts => (r (p, parts))) k0) N (p, parts)

def z1by (N : Nat) (self : z7) (i : DT4) (v : (DT2 × (List DT4))) (r : (DT2 × (List DT4)) -> Option (DT4 × (DT2 × Unit))) (K : Ex -> List A -> Option (DT4 × (DT2 × Unit))) : Option (DT4 × (DT2 × Unit)) :=
 zb9 N self i v.1 v.2 (fun p parts => (r (p, parts))) (fun a0 a2 => (K (.exit 0) (mkS SQ3 41 (a0, i, a2, ()))))

def z194 (N : Nat) (self : z7) : Hd (DT4 × (DT2 × Unit)) := fun st K => (unS SQ3 41 (restr [0, 3, 2] 0 st)).bind fun x => iter (fun v r => z1by N self ((fun x => x.2.1) x) v r K) N ((fun x => (x.1, x.2.2.1)) x)

def t2_52 (N : Nat) (self : z7) : Tab (DT4 × (DT2 × Unit)) := [([0, 0, 0, 0, 1, 1], z18n N self)]

theorem z15q {N : Nat} {self : z7} {c : Ctx} (hb : Base Tryd.prog (z147 N self) c) : zi Tryd.prog c (ze zh8 [0, 0, 1, 1]) (z194 N self) :=
  z1q (s := SQ3) (m := 41) (z1by N self) [0, 3, 2] N (fun x => x.2.1) (fun x => (x.1, x.2.2.1)) (fun i v => (v.1, i, v.2, ())) (fun _ => rfl) (zd hb N (t2_52 N self) z1ed zh8 (TabOk.cons (z159 hb) TabOk.nil) [0, 0, 0, 1, 1] _ rfl) (fun i v r K => by kernel_rfl)

def zbb (N : Nat) (self : z7) (p : DT2) (x2 : DT4) (parts : (List DT4)) (k0 : DT2 -> (List DT4) -> Option (DT4 × (DT2 × Unit))) : Option (DT4 × (DT2 × Unit)) :=
 zgu N self p x2 parts
 (fun p1 zhy => k0 p1 zhy)

def z1cw (N : Nat) (self : z7) (x : z17 SQ3) (K : Ex -> List A -> Option (DT4 × (DT2 × Unit))) : Option (DT4 × (DT2 × Unit)) :=
 zbb N self x.1 x.2.1 x.2.2.1 (fun a0 a2 => (K .normal (mkS SQ3 41 (a0, x.2.1, a2, ()))))

def z1a2 (N : Nat) (self : z7) : Hd (DT4 × (DT2 × Unit)) := fun st K => (unS SQ3 41 (restr [0, 3, 2] 0 st)).bind fun x => z1cw N self x K

def t1_52 (N : Nat) (self : z7) : Tab (DT4 × (DT2 × Unit)) := [([0, 0, 1, 1], z194 N self)]

theorem z16o {N : Nat} {self : z7} {c : Ctx} (hb : Base Tryd.prog (z147 N self) c) : zi Tryd.prog c (ze zh8 [0, 1, 1]) (z1a2 N self) :=
  zo (s := SQ3) (m := 41) (g := z1cw N self) [0, 3, 2] (zd hb N (t1_52 N self) z1ed zh8 (TabOk.cons (z15q hb) TabOk.nil) [0, 1, 1] _ rfl) (fun x K => by kernel_rfl)

def z3n (N : Nat) (self : z7) (p : DT2) : Option (DT4 × (DT2 × Unit)) :=
 zbb N self p ((0 : Int), (([(0 : Int), (0 : Int), (0 : Int), (0 : Int)] : List Int), (([] : List Tree), ((0 : Int), ((0 : Int), ()))))) ([] : List zt7)
 (fun p1 parts => (zap N (2 : Int) (List.map foN parts)).bind fun y =>
 some (y, (p1, ())))

def t_52 (N : Nat) (self : z7) : Tab (DT4 × (DT2 × Unit)) := [([0, 1, 1], z1a2 N self)]

theorem z11a (N : Nat) (self : z7) (x : z17 SQ0) : z7p (z147 N self) N (t_52 N self) z1ed Tryd.f56 (mkS SQ0 0 x) (z43 (.v TT1) SQ0 0) = z3n N self x.1 := by kernel_rfl

def z6a (N : Nat) (self : z7) : List A -> Res := z13 SQ0 (fun x => z3n N self x.1) (z4d (.v TT1) SQ0 0)

theorem zbc (N : Nat) (self : z7) (hself : Contract Tryd.prog glob 40 (z13 SQ0 (fun x => self x.1) (z4d (.v TT1) SQ0 0))) : Contract Tryd.prog glob 56 (z6a N self) :=
  Contract.of (E := z147 N self) (H := t_52 N self) (L := z1ed) (N := N) (body := zh8) (K := (z43 (.v TT1) SQ0 0)) (z1f1 N self hself) Tryd.func56 (by kernel_rfl) (by decide) (fun _ hb => (TabOk.cons (z16o hb) TabOk.nil)) (fun x y h => by rw [z11a]; exact h) (z31 (s := (.v TT1)) (os := SQ0) (m := 0))

def zo9 : Code := (Tryd.f40.body).getD .skip

def L_53 : List (List Nat × List Nat) := [([0], [0, 2]), ([0, 1], [0, 3, 2]), ([0, 0, 1, 1], [0, 3, 2]), ([0, 0, 0, 0, 0, 1, 1], [8, 3, 0, 2]), ([1, 0, 0, 0, 0, 1, 1], [3, 0, 2]), (zx5, [3, 2, 0]), ([0, 1, 0, 0, 0, 1, 1], [0, 3, 2]), ([1, 0, 0, 0, 1, 1], [0, 3, 2]), ([0, 1, 1], [3, 2, 0]), ([0, 1, 1, 1], [2, 0]), ([1, 1, 1, 1], [2, 0])]

def E_53 (N : Nat) (self : DT2 -> Option (DT4 × (DT2 × Unit))) : Env := z1x tys glob [(56, z6a N self), (58, z6x N), (57, z1c N), (40, z13 SQ0 (fun x => self x.1) (z4d (.v TT1) SQ0 0))] [(3, TT1)] [] [0] false [] []

theorem z1f0 (N : Nat) (self : DT2 -> Option (DT4 × (DT2 × Unit))) (hself : Contract Tryd.prog glob 40 (z13 SQ0 (fun x => self x.1) (z4d (.v TT1) SQ0 0))) : EnvOk Tryd.prog (E_53 N self) := zg mixed zw (FnsOk.cons (zbc N self hself) (FnsOk.cons (zah N) (FnsOk.cons (z1o N) (FnsOk.cons (hself) (FnsOk.nil))))) (ItsOk.nil)

def zbd (N : Nat) (self : DT2 -> Option (DT4 × (DT2 × Unit))) (x2 : DT4) (p : DT2) (parts : (List DT4)) (rec : DT2 -> (List DT4) -> Option (DT4 × (DT2 × Unit))) (k0 : DT2 -> (List DT4) -> Option (DT4 × (DT2 × Unit))) : Option (DT4 × (DT2 × Unit)) :=
 (zy N p (124 : Int)).bind fun y =>
 cond y.1
 ((z3n N self y.2.1).bind fun y1 =>
 cond (decide ((((List.length parts) + 1) * 80) <= 70368744177664))
 (rec y1.2.1 (parts ++ ([y1.1] : List zt7)))
 (none))
 (k0 y.2.1 parts)

def zgv (N : Nat) (self : DT2 -> Option (DT4 × (DT2 × Unit))) (p : DT2) (x2 : DT4) (parts : (List DT4)) (k0 : DT2 -> (List DT4) -> Option (DT4 × (DT2 × Unit))) : Option (DT4 × (DT2 × Unit)) :=
 iter (fun (v : (DT2 × (List DT4))) r => zbd N self x2 v.1 v.2 (fun p parts => (r (p, parts))) k0) N (p, parts)

def z1cv (N : Nat) (self : DT2 -> Option (DT4 × (DT2 × Unit))) (i : DT4) (v : (DT2 × (List DT4))) (r : (DT2 × (List DT4)) -> Option (DT4 × (DT2 × Unit))) (K : Ex -> List A -> Option (DT4 × (DT2 × Unit))) : Option (DT4 × (DT2 × Unit)) :=
 zbd N self i v.1 v.2 (fun p parts => (r (p, parts))) (fun a0 a2 => (K (.exit 0) (mkS SQ3 12 (a0, i, a2, ()))))

def z1a1 (N : Nat) (self : DT2 -> Option (DT4 × (DT2 × Unit))) : Hd (DT4 × (DT2 × Unit)) := fun st K => (unS SQ3 12 (restr [0, 3, 2] 0 st)).bind fun x => iter (fun v r => z1cv N self ((fun x => x.2.1) x) v r K) N ((fun x => (x.1, x.2.2.1)) x)

def t1_53 (N : Nat) (self : DT2 -> Option (DT4 × (DT2 × Unit))) : Tab (DT4 × (DT2 × Unit)) := []

theorem z16n {N : Nat} {self : DT2 -> Option (DT4 × (DT2 × Unit))} {c : Ctx} (hb : Base Tryd.prog (E_53 N self) c) : zi Tryd.prog c (ze zo9 [0, 0, 1, 1]) (z1a1 N self) :=
  z1q (s := SQ3) (m := 12) (z1cv N self) [0, 3, 2] N (fun x => x.2.1) (fun x => (x.1, x.2.2.1)) (fun i v => (v.1, i, v.2, ())) (fun _ => rfl) (zd hb N (t1_53 N self) L_53 zo9 TabOk.nil [0, 0, 0, 1, 1] _ rfl) (fun i v r K => by kernel_rfl)

def zc2 (N : Nat) (self : DT2 -> Option (DT4 × (DT2 × Unit))) (p : DT2) : Option (DT4 × (DT2 × Unit)) :=
 (z3n N self p).bind fun y =>
 zgv N self y.2.1 ((0 : Int), (([(0 : Int), (0 : Int), (0 : Int), (0 : Int)] : List Int), (([] : List Tree), ((0 : Int), ((0 : Int), ()))))) ([y.1] : List zt7)
 (fun p1 parts => (zap N (3 : Int) (List.map foN parts)).bind fun y1 =>
 some (y1, (p1, ())))

def t_53 (N : Nat) (self : DT2 -> Option (DT4 × (DT2 × Unit))) : Tab (DT4 × (DT2 × Unit)) := [([0, 0, 1, 1], z1a1 N self)]

theorem z119 (N : Nat) (self : DT2 -> Option (DT4 × (DT2 × Unit))) (x : z17 SQ0) : z7p (E_53 N self) N (t_53 N self) L_53 Tryd.f40 (mkS SQ0 0 x) (z43 (.v TT1) SQ0 0) = zc2 N self x.1 := by kernel_rfl

def zj : Nat -> DT2 -> Option (DT4 × (DT2 × Unit))
  | 0 => fun _ => none
  | N + 1 => zc2 (N + 1) (zj N)

def zaa (N : Nat) : List A -> Res := z13 SQ0 (fun x => zj N x.1) (z4d (.v TT1) SQ0 0)

theorem z27 : ∀ N : Nat, Contract Tryd.prog glob 40 (zaa N)
  | 0 => Contract.zero Tryd.func40 (body := zo9) (by kernel_rfl) (by decide) (fun _ => rfl)
  | N + 1 => Contract.of (E := E_53 (N + 1) (zj N)) (H := t_53 (N + 1) (zj N)) (L := L_53) (N := (N + 1)) (body := zo9) (K := (z43 (.v TT1) SQ0 0)) (z1f0 (N + 1) (zj N) (z27 N)) Tryd.func40 (by kernel_rfl) (by decide) (fun _ hb => (TabOk.cons (z16n hb) TabOk.nil)) (fun x y h => by rw [z119]; exact h) (z31 (s := (.v TT1)) (os := SQ0) (m := 0))

end
end Go.Proofs.YtmeecjkimeiogaaDoorLg
