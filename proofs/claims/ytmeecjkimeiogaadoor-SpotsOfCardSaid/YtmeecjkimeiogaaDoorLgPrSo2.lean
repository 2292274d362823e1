import Derived.Test.YtmeecjkimeiogaaDoorLgPrSo1
import Derived.Test.YtmeecjkimeiogaaDoorLgW
import Derived.Test.YtmeecjkimeiogaaDoorChecked
import Derived.Shelf.Strings.Search1
import Derived.KernelRfl
import Derived.Test.YtmeecjkimeiogaaDoorLgOr
set_option linter.all false
namespace Go.Proofs.YtmeecjkimeiogaaDoorLg
noncomputable section
open Go Go.Lift Go.Proofs Go.Shelf

def zty : Go.Shelf.Ren := ⟨fun | 217 => 95 | 266 => 99 | n => n, fun | 9 => 9 | 5 => 5 | 3 => 3 | n => n, fun | n => n⟩
theorem z16s : Lays.n217 Tryd.prog zty where
  mixed := by kernel_rfl
  f217 := Tryd.func95.trans (congrArg some (by kernel_rfl))
  f266 := Tryd.func99.trans (congrArg some (by kernel_rfl))
  t3 := Tryd.underlying3
  a3 := Tryd.isAgg3
  z3 := Tryd.sizeOf3
  v3 := Tryd.zeroValue3
  t5 := Tryd.underlying5
  a5 := Tryd.isAgg5
  z5 := Tryd.sizeOf5
  v5 := Tryd.zeroValue5
  t9 := Tryd.underlying9
  a9 := Tryd.isAgg9
  z9 := Tryd.sizeOf9
  v9 := Tryd.zeroValue9

def z1d1 (x : zz [(0, .v .str), (0, .v (.int .u8))]) : Option Int := some (Lib.indexByte x.1 x.2.1.toNat.toUInt8)

def zzm : List A -> Res := zu [(0, .v .str), (0, .v (.int .u8))] z1d1 (z75 (.v (.int .i64)) 2)

theorem z1d0 (glob : Nat -> Option Dat) : Contract Tryd.prog glob 95 zzm := by
  refine Contract.hand ⟨_, Tryd.func95, by kernel_rfl, by decide⟩ ?_
  intro w S vals ob x y har hS hg hy
  obtain ⟨s, c, u⟩ := x
  cases u
  unfold z1d1 at hy
  dsimp only at hy s c
  cases hy
  obtain ⟨⟨v0, hv0, hA0, ho0⟩, _⟩ := har.rel 0 _ rfl
  obtain ⟨⟨v1, hv1, hA1, ho1⟩, _⟩ := har.rel 1 _ rfl
  have hlen := har.len
  obtain ⟨u0, u1, rfl⟩ : ∃ u0 u1, vals = [u0, u1] := by
    have : vals.length = 2 := by simpa [mkS, zgj] using hlen.symm
    match vals, this with
    | [a, b], _ => exact ⟨a, b, rfl⟩
  simp at hv0 hv1
  subst hv0; subst hv1
  have e0 := hA0.str_inv
  subst e0
  have e1 := hA1.int_inv
  subst e1
  have hnone : ∀ i, ob i = [] := by
    intro i
    match i with
    | 0 => exact ho0
    | 1 => exact ho1
    | i + 2 => exact har.out _ (by simp [mkS, zgj])
  refine (Any.stringslite_IndexByte z16s ⟨⟨s⟩⟩ c w).mono ?_
  rintro e w' ⟨rfl, rfl⟩
  refine ⟨_, S, [], ob, rfl, WF.refl _ _, Lift.Sub.refl _, hS, fun k hk => .inl hk, ⟨⟨VR.int, rfl⟩, rfl⟩, (fun k hk => by cases hk), .nil, ?_, ?_, har.inj, har.nd, fun i hi => hi⟩
  . intro i z hz hbx
    match i with
    | 0 => simp [mkS, zgj, AS.mk] at hz; subst hz; cases hbx
    | 1 => simp [mkS, zgj, AS.mk] at hz; subst hz; cases hbx
    | i + 2 => simp [mkS, zgj] at hz
  . intro i k hk
    rw [hnone i] at hk; cases hk

end
end Go.Proofs.YtmeecjkimeiogaaDoorLg

set_option linter.all false
set_option maxRecDepth 100000
namespace Go.Proofs.YtmeecjkimeiogaaDoorLg
noncomputable section
open Go Go.Lift

abbrev TT0 : T := (.pair (.int .i64) (.pair (.arr 4 (.int .u64)) (.pair (.sl .nod) (.pair (.int .i64) (.pair (.int .i64) .unit)))))

abbrev DT1 : Type := (Int × ((List Int) × ((List Tree) × (Int × (Int × Unit)))))

abbrev TT2 : T := (.pair .str (.pair (.int .i64) (.pair (.int .i64) .unit)))

abbrev DT3 : Type := ((List (List Int)) × ((List (List Int)) × ((List Int) × ((List Int) × (Bool × Unit)))))

abbrev DT4 : Type := ((List UInt8) × (Int × (Int × Unit)))

abbrev TT5 : T := (.pair (.sl (.arr 4 (.int .u64))) (.pair (.sl (.sl (.int .i64))) (.pair (.sl (.int .i64)) (.pair (.sl (.int .i64)) (.pair .bool .unit)))))

abbrev TT6 : T := (.pair (.sl (.arr 4 (.int .u64))) (.pair .bool (.pair (.sl (.int .i64)) (.pair (.sl (.int .i64)) (.pair (.sl (.sl (.int .i64))) .unit)))))

abbrev DT7 : Type := ((Bool × ((List Int) × ((List Int) × Unit))) × (((List (List Int)) × ((List (List Int)) × Unit)) × Unit))

abbrev TT8 : T := (.pair .bool (.pair (.sl (.int .i64)) (.pair (.sl (.int .i64)) .unit)))

abbrev DT9 : Type := ((List (List Int)) × (Bool × ((List Int) × ((List Int) × ((List (List Int)) × Unit)))))

abbrev zf3 : T := (.pair (.own (.arr 4 (.int .u64))) (.pair (.own (.sl (.int .i64))) .unit))

abbrev z4y : Type := ((List (List Int)) × ((List (List Int)) × Unit))

abbrev z4x : Type := (Bool × ((List Int) × ((List Int) × Unit)))

abbrev z6j : T := (.pair (.int .i64) (.pair (.int .i64) .unit))

abbrev zmn : Type := (((List Int) × Bool × Unit) × (DT4 × Unit))

abbrev zg2 : Type := ((List Int) × (DT4 × Unit))

abbrev zwj : Type := (Int × ((List Int) × ((List Tree) × (Int × (Int × Unit)))))

abbrev zv8 : List Nat := [16, 15, 14, 7, 3, 2]

abbrev z17k : List Nat := [52, 51, 50, 0, 6, 4]

abbrev z17l : List Nat := [70, 69, 68, 9, 0, 4]

abbrev z13d : List Nat := [1, 0, 1, 0, 1, 1, 1]

abbrev z12a : List Nat := [1, 1, 1, 1, 1, 1, 1]

abbrev z12b : List Nat := [16, 15, 14, 2, 5, 6]

abbrev z12c : List Nat := [0, 1, 0, 1, 1, 1, 1]

abbrev zxv : List Nat := [0, 1, 1, 1, 1, 1, 1]

abbrev zxw : List Nat := [1, 0, 1, 1, 1, 1, 1]

abbrev zxx : List Nat := [0, 0, 1, 0, 1, 1, 1]

abbrev zkp : List Nat := [0, 0, 1, 1, 1, 1, 1]

abbrev z10l : List Nat := [1, 0, 0, 0, 1, 1, 1, 1]

abbrev z10m : List Nat := [1, 1, 0, 0, 0, 0, 1, 1]

abbrev z10n : List Nat := [1, 0, 1, 1, 1, 1, 1, 1]

abbrev z10o : List Nat := [0, 0, 1, 1, 1, 1, 1, 1]

abbrev zxy : List Nat := [0, 0, 0, 0, 1, 1, 1, 1]

abbrev zxz : List Nat := [1, 1, 0, 0, 1, 0, 1, 1]

abbrev zy0 : List Nat := [1, 0, 0, 0, 1, 0, 1, 1]

abbrev zy1 : List Nat := [0, 0, 0, 0, 1, 0, 1, 1]

abbrev z17m : List Nat := [79, 78, 77, 0, 9, 7, 4]

abbrev z17n : List Nat := [0, 1, 1, 0, 1, 0, 1, 1]

abbrev z13e : List Nat := [1, 1, 1, 1, 1, 1, 1, 1]

abbrev z10k : List Nat := [0, 1, 1, 1, 1, 1, 1, 1]

abbrev zy5 : List Nat := [0, 1, 0, 1, 1, 1, 1, 1]

abbrev zq9 : List Nat := [0, 1, 0, 0, 1, 0, 1, 1]

abbrev z136 : List (Nat × AS) := [(0, .v TT0), (0, .v TT5)]

abbrev z10p : List Nat := [1, 0, 0, 0, 0, 1, 1, 1, 1]

abbrev z10q : List Nat := [0, 0, 0, 0, 0, 1, 1, 1, 1]

abbrev z10r : List Nat := [1, 0, 1, 0, 1, 1, 1, 1, 1]

abbrev z10s : List Nat := [0, 1, 0, 0, 1, 0, 1, 1, 1]

abbrev z10t : List Nat := [1, 1, 1, 0, 0, 1, 0, 1, 1]

abbrev z10u : List Nat := [0, 1, 1, 0, 0, 1, 0, 1, 1]

abbrev z10v : List Nat := [1, 0, 1, 0, 0, 1, 0, 1, 1]

abbrev z18g : List Nat := [1, 1, 0, 0, 0, 1, 0, 1, 1]

abbrev z17o : List Nat := [0, 0, 1, 0, 1, 1, 1, 1, 1]

abbrev z13f : List Nat := [0, 1, 0, 1, 1, 1, 1, 1, 1]

abbrev z10j : List (Nat × AS) := [(0, .box zf3), (0, .v TT0)]

abbrev z12d : List Nat := [1, 0, 0, 1, 0, 0, 1, 0, 1, 1]

abbrev z12e : List Nat := [0, 1, 0, 0, 1, 0, 1, 1, 1, 1]

abbrev z12f : List Nat := [1, 0, 1, 0, 0, 1, 0, 1, 1, 1]

abbrev z1k0 : List Nat := [1, 1, 0, 0, 0, 0, 1, 1, 1, 1]

abbrev z13g : List Nat := [0, 0, 0, 1, 0, 0, 1, 0, 1, 1]

abbrev z137 : List (Nat × AS) := [(0, .box TT2), (1, .box TT0)]

abbrev z138 : List (Nat × AS) := [(2, .box TT6), (0, .box TT6)]

abbrev z127 : List (Nat × AS) := [(0, .v (.arr 4 (.int .u64)))]

abbrev z1k1 : List Nat := [0, 1, 0, 0, 1, 0, 1, 1, 1, 1, 1]

abbrev z1k2 : List Nat := [0, 0, 0, 1, 1, 0, 0, 1, 0, 1, 1]

abbrev z13h : List Nat := [29, 28, 27, 5, 6, 16, 15, 14, 2]

abbrev zpb : List (Nat × AS) := [(0, .box TT2), (0, .v (.int .u8))]

abbrev z1k3 : List Nat := [0, 1, 0, 0, 1, 0, 1, 1, 1, 1, 1, 1]

abbrev z1k4 : List Nat := [0, 1, 0, 0, 1, 1, 0, 0, 1, 0, 1, 1]

abbrev z185 : List (Nat × AS) := [(0, .box TT2), (0, .v (.int .i64))]

abbrev z17i : List (Nat × AS) := [(1, .box TT0), (2, .v (.int .i64))]

abbrev z139 : List (Nat × AS) := [(0, .box TT2), (2, .v (.int .i64))]

abbrev zv7 : List (Nat × AS) := [(1, .box TT0), (1, .v (.int .i64))]

abbrev PQ96 : List Nat := [0, 0, 1, 0, 0, 1, 1, 0, 0, 1, 0, 1, 1]

abbrev z18h : List Nat := [0, 1, 1, 1, 1, 1, 1, 1, 1, 0, 1, 1, 1]

abbrev z17p : List Nat := [0, 1, 0, 1, 0, 1, 1, 1, 1, 1, 0, 1, 0, 1]

abbrev z1k5 : List Nat := [0, 0, 0, 1, 0, 0, 1, 0, 1, 1, 1, 1, 1, 1]

abbrev z13i : List Nat := [0, 0, 0, 0, 0, 0, 0, 0, 1, 0, 1, 1, 1, 1]

abbrev SQ6 : List (Nat × AS) := [(0, .v (.int .i64)), (0, .v (.int .i64))]

abbrev z17q : List Nat := [0, 1, 1, 1, 0, 0, 1, 1, 0, 0, 1, 0, 1, 1, 1]

abbrev z186 : List (Nat × AS) := [(0, .box TT2), (1, .box TT0), (1, .box TT0)]

abbrev z13a : List (Nat × AS) := [(2, .box TT0), (1, .box TT5), (1, .box TT5)]

abbrev SQ2 : List (Nat × AS) := [(0, .box TT2), (1, .box TT0), (0, .row TT0)]

abbrev z1jv : List (Nat × AS) := [(0, .v TT0), (0, .v TT5), (0, .v (.int .i64))]

abbrev z187 : List (Nat × AS) := [(1, .box TT0), (1, .box (.arr 4 (.int .u64)))]

abbrev z17j : List (Nat × AS) := [(0, .v (.sl (.int .i64))), (0, .v (.int .i64))]

abbrev z188 : List (Nat × AS) := [(0, .v (.arr 4 (.int .u64))), (0, .v (.int .u8))]

abbrev z13b : List (Nat × AS) := [(0, .box TT2), (1, .box TT0), (0, .v (.int .u8))]

abbrev SQ95 : List (Nat × AS) := [(1, .box (.arr 4 (.int .u64))), (1, .v (.int .i64))]

abbrev z189 : List (Nat × AS) := [(0, .v (.sl (.int .i64))), (0, .v (.sl (.int .i64)))]

abbrev zy4 : List (Nat × AS) := [(0, .box TT2), (0, .v (.int .i64)), (3, .v (.int .u8))]

abbrev SQ58 : List (Nat × AS) := [(0, .box TT2), (1, .v (.int .i64)), (0, .v (.int .i64))]

abbrev z128 : List (Nat × AS) := [(1, .box TT0), (2, .v (.int .i64)), (0, .v (.int .i64))]

abbrev SQ0 : List (Nat × AS) := [(0, .box TT2), (2, .v (.int .i64)), (0, .v (.int .i64))]

abbrev SQ86 : List (Nat × AS) := [(0, .v (.arr 4 (.int .u64))), (0, .v (.arr 4 (.int .u64)))]

abbrev SQ85 : List (Nat × AS) := [(0, .v TT6), (0, .v (.sl (.int .i64))), (0, .v (.int .u8))]

abbrev SQ83 : List (Nat × AS) := [(0, .box zf3), (2, .box TT0), (0, .box TT8), (1, .row TT8)]

abbrev SQ82 : List (Nat × AS) := [(0, .box zf3), (3, .box TT8), (0, .box TT8), (0, .box TT8)]

abbrev SQ48 : List (Nat × AS) := [(0, .box TT2), (1, .box (.arr 4 (.int .u64))), (0, .v .bool)]

abbrev SQ72 : List (Nat × AS) := [(2, .box TT5), (0, .box TT5), (0, .box TT5), (0, .v (.int .i64))]

abbrev z18a : List (Nat × AS) := [(2, .box TT0), (1, .box TT5), (1, .box TT5), (2, .v (.int .i64))]

abbrev z13c : List (Nat × AS) := [(0, .box TT2), (1, .box (.arr 4 (.int .u64))), (1, .v (.int .u8))]

abbrev SQ67 : List (Nat × AS) := [(0, .box zf3), (0, .v (.sl (.int .i64))), (0, .v (.sl (.int .i64)))]

abbrev SQ60 : List (Nat × AS) := [(0, .v (.sl (.int .i64))), (0, .v (.sl (.int .i64))), (0, .v (.int .i64))]

abbrev z1jw : List (Nat × AS) := [(0, .box zf3), (2, .box TT0), (0, .box TT8), (1, .row TT8), (0, .box TT8)]

abbrev z1jx : List (Nat × AS) := [(0, .box zf3), (3, .box TT8), (0, .box TT8), (0, .box TT8), (0, .box TT8)]

abbrev SQ7 : List (Nat × AS) := [(0, .v (.sl (.int .i64))), (0, .v (.sl (.int .i64))), (3, .row (.int .i64))]

abbrev z18b : List (Nat × AS) := [(1, .box TT0), (2, .v (.int .i64)), (0, .v (.int .i64)), (0, .v (.int .i64))]

abbrev SQ4 : List (Nat × AS) := [(0, .box TT2), (1, .v (.int .i64)), (0, .v (.int .i64)), (0, .v (.int .i64))]

abbrev z1jy : List (Nat × AS) := [(2, .box TT5), (0, .box TT5), (0, .box TT5), (0, .v (.int .i64)), (0, .box TT5)]

abbrev z18c : List (Nat × AS) := [(0, .box TT2), (1, .box TT0), (0, .box TT0), (0, .box TT0), (24, .v (.int .u8))]

abbrev SQ46 : List (Nat × AS) := [(0, .v (.sl (.sl (.int .i64)))), (0, .v (.sl (.int .i64))), (0, .v (.sl (.int .i64)))]

abbrev z18d : List (Nat × AS) := [(0, .box TT2), (1, .box (.arr 4 (.int .u64))), (1, .v (.int .u8)), (2, .v (.int .u8))]

abbrev z18e : List (Nat × AS) := [(0, .box TT2), (1, .box (.arr 4 (.int .u64))), (1, .v (.int .i64)), (0, .v (.int .u8))]

abbrev SQ84 : List (Nat × AS) := [(5, .v (.sl .bool)), (33, .v (.sl (.int .i64))), (0, .v (.int .i64)), (0, .v (.int .i64))]

abbrev SQ81 : List (Nat × AS) := [(1, .v .str), (0, .box TT6), (2, .v (.sl .bool)), (18, .v (.int .i64)), (0, .v (.int .i64))]

abbrev z18f : List (Nat × AS) := [(0, .box TT2), (1, .box (.arr 4 (.int .u64))), (0, .v .bool), (0, .box (.arr 4 (.int .u64)))]

abbrev SQ3 : List (Nat × AS) := [(0, .box TT2), (1, .box (.arr 4 (.int .u64))), (0, .box (.arr 4 (.int .u64))), (0, .v .bool)]

abbrev SQ76 : List (Nat × AS) := [(0, .box TT2), (1, .box (.arr 4 (.int .u64))), (0, .box (.arr 4 (.int .u64))), (13, .v .bool)]

abbrev SQ74 : List (Nat × AS) := [(0, .box zf3), (2, .box TT0), (0, .box TT8), (1, .row TT8), (0, .box TT8), (0, .v (.int .i64))]

abbrev SQ73 : List (Nat × AS) := [(1, .box TT0), (1, .v (.int .i64)), (6, .v (.sl .nod)), (0, .v (.int .i64)), (0, .v (.int .i64))]

abbrev SQ25 : List (Nat × AS) := [(0, .v (.sl (.int .i64))), (0, .v (.sl (.int .i64))), (3, .row (.int .i64)), (0, .v (.int .i64))]

abbrev SQ69 : List (Nat × AS) := [(1, .v (.int .u8)), (2, .box (.arr 4 (.int .u64))), (0, .box (.arr 4 (.int .u64))), (0, .v (.int .i64))]

abbrev SQ68 : List (Nat × AS) := [(1, .box TT6), (2, .v (.int .i64)), (2, .v (.sl (.int .i64))), (0, .v (.int .i64)), (0, .v (.int .i64))]

abbrev SQ64 : List (Nat × AS) := [(0, .box zf3), (3, .box TT8), (4, .box TT8), (58, .v (.sl .nod)), (0, .v (.int .i64)), (0, .v (.int .i64))]

abbrev SQ63 : List (Nat × AS) := [(0, .box zf3), (3, .box TT8), (1, .box TT8), (43, .v (.sl .nod)), (0, .v (.int .i64)), (0, .v (.int .i64))]

abbrev SQ62 : List (Nat × AS) := [(0, .box TT2), (1, .box (.arr 4 (.int .u64))), (0, .box (.arr 4 (.int .u64))), (2, .box (.arr 4 (.int .u64)))]

abbrev SQ61 : List (Nat × AS) := [(0, .box zf3), (1, .v (.sl (.int .i64))), (5, .v (.sl (.int .i64))), (0, .v (.int .i64)), (0, .v (.int .i64))]

abbrev SQ59 : List (Nat × AS) := [(0, .v (.int .i64)), (3, .box TT0), (0, .row TT0), (2, .v (.sl .nod)), (0, .v (.int .i64)), (0, .v (.int .i64))]

abbrev SQ56 : List (Nat × AS) := [(2, .box (.arr 4 (.int .u64))), (0, .box (.arr 4 (.int .u64))), (0, .box (.arr 4 (.int .u64))), (1, .v (.int .i64))]

abbrev SQ30 : List (Nat × AS) := [(2, .box TT6), (2, .row .bool), (0, .row (.int .i64)), (7, .v (.sl .bool)), (0, .v (.int .i64)), (0, .v (.int .i64))]

abbrev SQ5 : List (Nat × AS) := [(0, .v (.sl (.int .i64))), (0, .v (.sl (.int .i64))), (0, .v (.int .i64)), (4, .row (.int .i64)), (0, .v (.int .i64))]

abbrev SQ53 : List (Nat × AS) := [(0, .v .str), (1, .box (.arr 4 (.int .u64))), (0, .box (.arr 4 (.int .u64))), (2, .v (.int .i64)), (0, .v (.int .i64))]

abbrev SQ50 : List (Nat × AS) := [(2, .v (.int .u8)), (0, .box TT6), (3, .row .bool), (6, .v (.sl (.int .i64))), (0, .v (.int .i64)), (0, .v (.int .i64))]

abbrev SQ49 : List (Nat × AS) := [(0, .box zf3), (3, .box TT8), (2, .box TT8), (1, .box TT8), (67, .v (.sl TT8)), (0, .v (.int .i64)), (0, .v (.int .i64))]

abbrev SQ9 : List (Nat × AS) := [(1, .box TT6), (2, .v (.int .i64)), (1, .v (.int .i64)), (0, .v (.sl (.int .i64))), (0, .v (.int .i64)), (0, .v (.int .i64))]

abbrev SQ8 : List (Nat × AS) := [(0, .v (.sl (.sl (.int .i64)))), (0, .v (.sl (.int .i64))), (0, .v (.sl (.int .i64))), (4, .row (.sl (.int .i64))), (0, .v (.int .i64))]

abbrev SQ1 : List (Nat × AS) := [(0, .box TT2), (1, .box (.arr 4 (.int .u64))), (0, .box (.arr 4 (.int .u64))), (0, .v .bool), (0, .v (.int .i64)), (0, .box (.arr 4 (.int .u64)))]

abbrev SQ35 : List (Nat × AS) := [(0, .box TT2), (1, .box (.arr 4 (.int .u64))), (0, .box (.arr 4 (.int .u64))), (1, .v (.int .i64)), (0, .box (.arr 4 (.int .u64))), (28, .v .bool)]

abbrev SQ28 : List (Nat × AS) := [(2, .box TT6), (2, .row .bool), (0, .row (.int .i64)), (7, .v (.sl .bool)), (0, .v (.int .i64)), (0, .v (.int .i64)), (10, .v (.sl (.int .i64))), (0, .v (.int .i64)), (0, .v (.int .i64))]

def ty3 : TyI := ⟨(Go.TypeDesc.int IntKind.i64), 1, 8, (.int .i64), (0 : Int), false⟩

theorem z18x : TyOk Tryd.prog 3 ty3 := TyOk.of (by kernel_rfl) (by kernel_rfl) (by kernel_rfl) (by kernel_rfl)

def ty4 : TyI := ⟨Go.TypeDesc.bool, 1, 1, .bool, false, false⟩

theorem z18w : TyOk Tryd.prog 4 ty4 := TyOk.of (by kernel_rfl) (by kernel_rfl) (by kernel_rfl) (by kernel_rfl)

def ty5 : TyI := ⟨(Go.TypeDesc.int IntKind.u8), 1, 1, (.int .u8), (0 : Int), false⟩

theorem z18v : TyOk Tryd.prog 5 ty5 := TyOk.of (by kernel_rfl) (by kernel_rfl) (by kernel_rfl) (by kernel_rfl)

def ty9 : TyI := ⟨Go.TypeDesc.string, 1, 16, .str, ([] : List UInt8), false⟩

theorem z18u : TyOk Tryd.prog 9 ty9 := TyOk.of (by kernel_rfl) (by kernel_rfl) (by kernel_rfl) (by kernel_rfl)

def ty22 : TyI := ⟨(Go.TypeDesc.int IntKind.u64), 1, 8, (.int .u64), (0 : Int), false⟩

theorem z14a : TyOk Tryd.prog 22 ty22 := TyOk.of (by kernel_rfl) (by kernel_rfl) (by kernel_rfl) (by kernel_rfl)

def ty24 : TyI := ⟨(Go.TypeDesc.array 4 22), 4, 32, (.arr 4 (.int .u64)), ([(0 : Int), (0 : Int), (0 : Int), (0 : Int)] : List Int), true⟩

theorem z149 : TyOk Tryd.prog 24 ty24 := TyOk.of (by kernel_rfl) (by kernel_rfl) (by kernel_rfl) (by kernel_rfl)

def ty25 : TyI := ⟨(Go.TypeDesc.slice 27), 1, 24, (.sl .nod), ([] : List Tree), false⟩

theorem z148 : TyOk Tryd.prog 25 ty25 := TyOk.of (by kernel_rfl) (by kernel_rfl) (by kernel_rfl) (by kernel_rfl)

def ty27 : TyI := ⟨(Go.TypeDesc.struct (List.toArray ([(Go.Field.mk "Kind" 3 0 false "" "" 0), (Go.Field.mk "Set" 24 1 false "" "" 8), (Go.Field.mk "Kids" 25 5 false "" "" 40), (Go.Field.mk "Min" 3 6 false "" "" 64), (Go.Field.mk "Max" 3 7 false "" "" 72)] : List Go.Field))), 8, 80, TT0, ((0 : Int), ([(0 : Int), (0 : Int), (0 : Int), (0 : Int)] : List Int), ([] : List Tree), (0 : Int), (0 : Int), ()), true⟩

theorem z147 : TyOk Tryd.prog 27 ty27 := TyOk.of (by kernel_rfl) (by kernel_rfl) (by kernel_rfl) (by kernel_rfl)

def ty31 : TyI := ⟨(Go.TypeDesc.slice 24), 1, 24, (.sl (.arr 4 (.int .u64))), ([] : List (List Int)), false⟩

theorem z146 : TyOk Tryd.prog 31 ty31 := TyOk.of (by kernel_rfl) (by kernel_rfl) (by kernel_rfl) (by kernel_rfl)

def ty32 : TyI := ⟨(Go.TypeDesc.slice 3), 1, 24, (.sl (.int .i64)), ([] : List Int), false⟩

theorem z145 : TyOk Tryd.prog 32 ty32 := TyOk.of (by kernel_rfl) (by kernel_rfl) (by kernel_rfl) (by kernel_rfl)

def ty33 : TyI := ⟨(Go.TypeDesc.slice 32), 1, 24, (.sl (.sl (.int .i64))), ([] : List (List Int)), false⟩

theorem z144 : TyOk Tryd.prog 33 ty33 := TyOk.of (by kernel_rfl) (by kernel_rfl) (by kernel_rfl) (by kernel_rfl)

def ty35 : TyI := ⟨(Go.TypeDesc.struct (List.toArray ([(Go.Field.mk "Sets" 31 0 false "" "" 0), (Go.Field.mk "None" 4 1 false "" "" 24), (Go.Field.mk "First" 32 2 false "" "" 32), (Go.Field.mk "Last" 32 3 false "" "" 56), (Go.Field.mk "Next" 33 4 false "" "" 80)] : List Go.Field))), 5, 104, TT6, (([] : List (List Int)), false, ([] : List Int), ([] : List Int), ([] : List (List Int)), ()), true⟩

theorem z143 : TyOk Tryd.prog 35 ty35 := TyOk.of (by kernel_rfl) (by kernel_rfl) (by kernel_rfl) (by kernel_rfl)

def ty36 : TyI := ⟨(Go.TypeDesc.int IntKind.i64), 1, 8, (.int .i64), (0 : Int), false⟩

theorem z142 : TyOk Tryd.prog 36 ty36 := TyOk.of (by kernel_rfl) (by kernel_rfl) (by kernel_rfl) (by kernel_rfl)

def ty46 : TyI := ⟨(Go.TypeDesc.struct (List.toArray ([(Go.Field.mk "E" 36 0 false "" "" 0), (Go.Field.mk "At" 3 1 false "" "" 8)] : List Go.Field))), 2, 16, z6j, ((0 : Int), (0 : Int), ()), true⟩

theorem z141 : TyOk Tryd.prog 46 ty46 := TyOk.of (by kernel_rfl) (by kernel_rfl) (by kernel_rfl) (by kernel_rfl)

def ty49 : TyI := ⟨(Go.TypeDesc.pointer 51), 1, 8, .opq, (Go.Value.pointer none), false⟩

theorem z140 : TyOk Tryd.prog 49 ty49 := TyOk.of (by kernel_rfl) (by kernel_rfl) (by kernel_rfl) (by kernel_rfl)

def ty51 : TyI := ⟨(Go.TypeDesc.struct (List.toArray ([(Go.Field.mk "sets" 31 0 false "" "porter/spots" 0), (Go.Field.mk "next" 33 1 false "" "porter/spots" 24)] : List Go.Field))), 2, 48, (.pair (.sl (.arr 4 (.int .u64))) (.pair (.sl (.sl (.int .i64))) .unit)), (([] : List (List Int)), ([] : List (List Int)), ()), true⟩

theorem z13z : TyOk Tryd.prog 51 ty51 := TyOk.of (by kernel_rfl) (by kernel_rfl) (by kernel_rfl) (by kernel_rfl)

def ty53 : TyI := ⟨(Go.TypeDesc.struct (List.toArray ([(Go.Field.mk "none" 4 0 false "" "porter/spots" 0), (Go.Field.mk "first" 32 1 false "" "porter/spots" 8), (Go.Field.mk "last" 32 2 false "" "porter/spots" 32)] : List Go.Field))), 3, 56, TT8, (false, ([] : List Int), ([] : List Int), ()), true⟩

theorem z13y : TyOk Tryd.prog 53 ty53 := TyOk.of (by kernel_rfl) (by kernel_rfl) (by kernel_rfl) (by kernel_rfl)

def ty56 : TyI := ⟨(Go.TypeDesc.struct (List.toArray ([(Go.Field.mk "Sets" 31 0 false "" "" 0), (Go.Field.mk "Next" 33 1 false "" "" 24), (Go.Field.mk "First" 32 2 false "" "" 48), (Go.Field.mk "Last" 32 3 false "" "" 72), (Go.Field.mk "None" 4 4 false "" "" 96)] : List Go.Field))), 5, 104, TT5, (([] : List (List Int)), ([] : List (List Int)), ([] : List Int), ([] : List Int), false, ()), true⟩

theorem z13x : TyOk Tryd.prog 56 ty56 := TyOk.of (by kernel_rfl) (by kernel_rfl) (by kernel_rfl) (by kernel_rfl)

def ty61 : TyI := ⟨(Go.TypeDesc.slice 4), 1, 24, (.sl .bool), ([] : List Bool), false⟩

theorem z13w : TyOk Tryd.prog 61 ty61 := TyOk.of (by kernel_rfl) (by kernel_rfl) (by kernel_rfl) (by kernel_rfl)

def ty72 : TyI := ⟨(Go.TypeDesc.pointer 74), 1, 8, .opq, (Go.Value.pointer none), false⟩

theorem z13v : TyOk Tryd.prog 72 ty72 := TyOk.of (by kernel_rfl) (by kernel_rfl) (by kernel_rfl) (by kernel_rfl)

def ty74 : TyI := ⟨(Go.TypeDesc.struct (List.toArray ([(Go.Field.mk "s" 9 0 false "" "porter/regex" 0), (Go.Field.mk "at" 3 1 false "" "porter/regex" 16), (Go.Field.mk "open" 3 2 false "" "porter/regex" 24)] : List Go.Field))), 3, 32, TT2, (([] : List UInt8), (0 : Int), (0 : Int), ()), true⟩

theorem z13u : TyOk Tryd.prog 74 ty74 := TyOk.of (by kernel_rfl) (by kernel_rfl) (by kernel_rfl) (by kernel_rfl)

def ty97 : TyI := ⟨(Go.TypeDesc.slice 53), 1, 24, (.sl TT8), ([] : List z4x), false⟩

theorem z13t : TyOk Tryd.prog 97 ty97 := TyOk.of (by kernel_rfl) (by kernel_rfl) (by kernel_rfl) (by kernel_rfl)

def z18z : TyI := ⟨(Go.TypeDesc.int IntKind.u64), 1, 8, (.int .u64), (0 : Int), false⟩

theorem z111 : TyOk Tryd.prog 107 z18z := TyOk.of (by kernel_rfl) (by kernel_rfl) (by kernel_rfl) (by kernel_rfl)

def z18y : TyI := ⟨(Go.TypeDesc.array 64 5), 64, 64, (.arr 64 (.int .u8)), ((0 : Int) :: (0 : Int) :: (0 : Int) :: (0 : Int) :: (0 : Int) :: (0 : Int) :: (0 : Int) :: (0 : Int) :: (0 : Int) :: (0 : Int) :: (0 : Int) :: (0 : Int) :: (0 : Int) :: (0 : Int) :: (0 : Int) :: (0 : Int) :: (0 : Int) :: (0 : Int) :: (0 : Int) :: (0 : Int) :: (0 : Int) :: (0 : Int) :: (0 : Int) :: (0 : Int) :: (0 : Int) :: (0 : Int) :: (0 : Int) :: (0 : Int) :: (0 : Int) :: (0 : Int) :: (0 : Int) :: (0 : Int) :: (0 : Int) :: (0 : Int) :: (0 : Int) :: (0 : Int) :: (0 : Int) :: (0 : Int) :: (0 : Int) :: (0 : Int) :: (0 : Int) :: (0 : Int) :: (0 : Int) :: (0 : Int) :: (0 : Int) :: (0 : Int) :: (0 : Int) :: (0 : Int) :: (0 : Int) :: (0 : Int) :: (0 : Int) :: (0 : Int) :: (0 : Int) :: (0 : Int) :: (0 : Int) :: (0 : Int) :: (0 : Int) :: (0 : Int) :: (0 : Int) :: (0 : Int) :: (0 : Int) :: (0 : Int) :: (0 : Int) :: (0 : Int) :: ([] : List Int)), true⟩

theorem z110 : TyOk Tryd.prog 124 z18y := TyOk.of (by kernel_rfl) (by kernel_rfl) (by kernel_rfl) (by kernel_rfl)

def tys : List (Nat × TyI) := [(3, ty3), (4, ty4), (5, ty5), (9, ty9), (22, ty22), (24, ty24), (25, ty25), (27, ty27), (31, ty31), (32, ty32), (33, ty33), (35, ty35), (36, ty36), (46, ty46), (49, ty49), (51, ty51), (53, ty53), (56, ty56), (61, ty61), (72, ty72), (74, ty74), (97, ty97), (107, z18z), (124, z18y)]

theorem zq : TysOk Tryd.prog tys := TysOk.cons z18x (TysOk.cons z18w (TysOk.cons z18v (TysOk.cons z18u (TysOk.cons z14a (TysOk.cons z149 (TysOk.cons z148 (TysOk.cons z147 (TysOk.cons z146 (TysOk.cons z145 (TysOk.cons z144 (TysOk.cons z143 (TysOk.cons z142 (TysOk.cons z141 (TysOk.cons z140 (TysOk.cons z13z (TysOk.cons z13y (TysOk.cons z13x (TysOk.cons z13w (TysOk.cons z13v (TysOk.cons z13u (TysOk.cons z13t (TysOk.cons z111 (TysOk.cons z110 (TysOk.nil))))))))))))))))))))))))

theorem mixed : Tryd.prog.follows .mixedOrders = true := by kernel_rfl

def glob0 : List Int := [0, 1, 56, 2, 57, 49, 28, 3, 61, 58, 42, 50, 38, 29, 17, 4, 62, 47, 59, 36, 45, 43, 51, 22, 53, 39, 33, 30, 24, 18, 12, 5, 63, 55, 48, 27, 60, 41, 37, 16, 46, 35, 44, 21, 52, 32, 23, 11, 54, 26, 40, 15, 34, 20, 31, 10, 25, 14, 19, 9, 13, 8, 7, 6]

def glob : Nat -> Option Dat := lk [(0, ⟨(.arr 64 (.int .u8)), glob0⟩)]

def z10g : Code := (Tryd.f50.body).getD .skip

def L_0 : List (List Nat × List Nat) := [([0], [2, 1]), ([0, 0, 1], [10, 9, 8, 1]), ([0, 1, 0, 1], [10, 9, 8, 1]), ([0, 0, 0, 1, 0, 1], [11, 8, 10, 1, 9]), ([0, 1, 0, 0, 1, 0, 1], [8, 10, 1, 9]), ([1, 0, 1, 0, 0, 1, 0, 1], []), ([0, 0, 0, 1, 1, 0, 0, 1, 0, 1], [6, 1, 10, 9, 8]), ([0, 1, 0, 0, 1, 1, 0, 0, 1, 0, 1], [17, 10, 9, 8, 1]), ([1, 1, 0, 0, 1, 1, 0, 0, 1, 0, 1], [10, 9, 8, 1]), ([0, 0, 1, 1, 0, 0, 1, 1, 0, 0, 1, 0, 1], [4]), ([1, 0, 1, 1, 0, 0, 1, 1, 0, 0, 1, 0, 1], [4]), ([0, 1, 1, 0, 0, 1, 0, 1], [10, 9, 8, 1]), ([1, 1, 1, 0, 0, 1, 0, 1], [10, 9, 8, 1]), ([1, 0, 1], []), ([0, 1, 1], [4]), ([1, 1, 1], [4])]

def E_0 (N : Nat) : Env := z1s tys glob [] [] [] [] false [] []

theorem Eok_0 (N : Nat) : EnvOk Tryd.prog (E_0 N) := zf mixed zq (FnsOk.nil) (ItsOk.nil)

def zcq (N : Nat) (kind : Int) (x8 : (List Tree)) (x9 : Int) (x10 : Int) (rec : Int -> Option Bool) (k0 : Bool -> Option Bool) (k1 : Option Bool) : Option Bool :=
 cond (decide (x10 < x9))
 (cond (inR x10 (List.length x8))
 (cond ((unN (List.getD x8 (Int.toNat x10) (Tree.mk (0 : Int) ([] : List Int) ([] : List Tree) (0 : Int) (0 : Int)))).1 == kind)
 (k0 true)
 (rec (IntKind.wrap IntKind.i64 (x10 + (1 : Int)))))
 (none))
 (k1)

def zgy (N : Nat) (kind : Int) (x8 : (List Tree)) (x9 : Int) (x10 : Int) (k0 : Bool -> Option Bool) (k1 : Option Bool) : Option Bool :=
 iter (fun (v : Int) r => zcq N kind x8 x9 v (fun x10 => (r x10)) k0 k1) N x10

def g1_0 (N : Nat) (i : (Int × (List Tree) × Int)) (v : Int) (r : Int -> Option Bool) (K : Ex -> List A -> Option Bool) : Option Bool :=
 zcq N i.1 i.2.1 i.2.2 v (fun x10 => (r x10)) (fun a0 => (K .ret (mkS [(4, .v .bool)] 14 (a0, ())))) (K (.exit 0) (mkS [] 19 ()))

def h1_0 (N : Nat) : Hd Bool := fun st K => (unS [(1, .v (.int .i64)), (6, .v (.sl .nod)), (0, .v (.int .i64)), (0, .v (.int .i64))] 8 (restr [10, 9, 8, 1] 0 st)).bind fun x => iter (fun v r => g1_0 N ((fun x => (x.1, x.2.1, x.2.2.1)) x) v r K) N ((fun x => x.2.2.2.1) x)

def t1_0 (N : Nat) : Tab Bool := []

theorem ok1_0 {N : Nat} {c : Ctx} (hb : Base Tryd.prog (E_0 N) c) : zh Tryd.prog c (ze z10g [0, 1, 0, 1]) (h1_0 N) :=
  z1w (s := [(1, .v (.int .i64)), (6, .v (.sl .nod)), (0, .v (.int .i64)), (0, .v (.int .i64))]) (m := 8) (g1_0 N) [10, 9, 8, 1] N (fun x => (x.1, x.2.1, x.2.2.1)) (fun x => x.2.2.2.1) (fun i v => (i.1, i.2.1, i.2.2, v, ())) (fun _ => rfl) (zd hb N (t1_0 N) L_0 z10g TabOk.nil [0, 0, 1, 0, 1] _ rfl) (fun i v r K => by kernel_rfl)

def z91 (N : Nat) (n : DT1) (kind : Int) : Option Bool :=
 zgy N kind n.2.2.1 (((List.length n.2.2.1) : Nat) : Int) (0 : Int)
 (fun x4 => some x4)
 (some false)

def t_0 (N : Nat) : Tab Bool := [([0, 1, 0, 1], h1_0 N)]

theorem z1cx (N : Nat) (x : zz [(0, .v TT0), (0, .v (.int .i64))]) : z6k (E_0 N) N (t_0 N) L_0 Tryd.f50 (mkS [(0, .v TT0), (0, .v (.int .i64))] 0 x) (z4b (.v .bool) 2) = z91 N x.1 x.2.1 := by kernel_rfl

def zg8 (N : Nat) : List A -> Res := zu [(0, .v TT0), (0, .v (.int .i64))] (fun x => z91 N x.1 x.2.1) (z75 (.v .bool) 2)

theorem zn3 (N : Nat) : Contract Tryd.prog glob 50 (zg8 N) :=
  Contract.of (E := E_0 N) (H := t_0 N) (L := L_0) (N := N) (body := z10g) (K := (z4b (.v .bool) 2)) (Eok_0 N) Tryd.func50 (by kernel_rfl) (by decide) (fun _ hb => (TabOk.cons (ok1_0 hb) TabOk.nil)) (fun x y h => by rw [z1cx]; exact h) (z1b (s := (.v .bool)) (m := 2))

def zt1 : Code := (Tryd.f51.body).getD .skip

def L_1 : List (List Nat × List Nat) := [([0], [0, 1]), ([0, 0, 1], [10, 1, 0]), ([1, 0, 1], [1, 0]), ([0, 0, 1, 0, 1], [4]), ([1, 0, 1, 0, 1], [4]), ([0, 1, 1], [4]), ([1, 1, 1], [4])]

def E_1 (N : Nat) : Env := z1s tys glob [] [] [] [] false [] []

theorem Eok_1 (N : Nat) : EnvOk Tryd.prog (E_1 N) := zf mixed zq (FnsOk.nil) (ItsOk.nil)

def ze6 (N : Nat) (low : Int) (high : Int) (k0 : Bool -> Option Bool) : Option Bool :=
 cond (decide (low < (0 : Int)))
 (k0 true)
 (k0 (decide ((16 : Int) < low)))

def g2_1 (N : Nat) (x : zz SQ6) (K : Ex -> List A -> Option Bool) : Option Bool :=
 ze6 N x.1 x.2.1 (fun a2 => (K .normal (mkS [(0, .v (.int .i64)), (0, .v (.int .i64)), (8, .v .bool)] 12 (x.1, x.2.1, a2, ()))))

def h2_1 (N : Nat) : Hd Bool := fun st K => (unS SQ6 21 (restr [0, 1] 0 st)).bind fun x => g2_1 N x K

def t2_1 (N : Nat) : Tab Bool := []

theorem ok2_1 {N : Nat} {c : Ctx} (hb : Base Tryd.prog (E_1 N) c) : zh Tryd.prog c (ze zt1 [0, 0, 1]) (h2_1 N) :=
  zi (s := SQ6) (m := 21) (g := g2_1 N) [0, 1] (zd hb N (t2_1 N) L_1 zt1 TabOk.nil [0, 0, 1] _ rfl) (fun x K => by kernel_rfl)

def ze7 (N : Nat) (low : Int) (high : Int) (k0 : Bool -> Option Bool) (k1 : Option Bool) : Option Bool :=
 ze6 N low high
 (fun x10 => cond x10
 (k0 false)
 (k1))

def g1_1 (N : Nat) (x : zz SQ6) (K : Ex -> List A -> Option Bool) : Option Bool :=
 ze7 N x.1 x.2.1 (fun a0 => (K .ret (mkS [(4, .v .bool)] 18 (a0, ())))) (K .normal (mkS SQ6 21 (x.1, x.2.1, ())))

def h1_1 (N : Nat) : Hd Bool := fun st K => (unS SQ6 21 (restr [0, 1] 0 st)).bind fun x => g1_1 N x K

def t1_1 (N : Nat) : Tab Bool := [([0, 0, 1], h2_1 N)]

theorem ok1_1 {N : Nat} {c : Ctx} (hb : Base Tryd.prog (E_1 N) c) : zh Tryd.prog c (ze zt1 [0, 1]) (h1_1 N) :=
  zi (s := SQ6) (m := 21) (g := g1_1 N) [0, 1] (zd hb N (t1_1 N) L_1 zt1 (TabOk.cons (ok2_1 hb) TabOk.nil) [0, 1] _ rfl) (fun x K => by kernel_rfl)

def zcr (N : Nat) (low : Int) (high : Int) : Option Bool :=
 ze7 N low high
 (fun x4 => some x4)
 (cond (high == (-(1 : Int)))
 (some true)
 (cond (decide ((if ((1 : Int) > low) then (1 : Int) else low) <= high))
 (some (decide (high <= (16 : Int))))
 (some false)))

def t_1 (N : Nat) : Tab Bool := [([0, 1], h1_1 N)]

theorem z1cw (N : Nat) (x : zz SQ6) : z6k (E_1 N) N (t_1 N) L_1 Tryd.f51 (mkS SQ6 0 x) (z4b (.v .bool) 2) = zcr N x.1 x.2.1 := by kernel_rfl

def zgz (N : Nat) : List A -> Res := zu SQ6 (fun x => zcr N x.1 x.2.1) (z75 (.v .bool) 2)

theorem zoz (N : Nat) : Contract Tryd.prog glob 51 (zgz N) :=
  Contract.of (E := E_1 N) (H := t_1 N) (L := L_1) (N := N) (body := zt1) (K := (z4b (.v .bool) 2)) (Eok_1 N) Tryd.func51 (by kernel_rfl) (by decide) (fun _ hb => (TabOk.cons (ok1_1 hb) TabOk.nil)) (fun x y h => by rw [z1cw]; exact h) (z1b (s := (.v .bool)) (m := 2))

def z10f : Code := (Tryd.f34.body).getD .skip

def L_2 : List (List Nat × List Nat) := [([0], [1]), ([0, 1], [1, 4, 3]), ([0, 0, 1, 1], [18, 1, 4, 3]), ([0, 0, 1, 0, 1, 1], [19, 1, 4, 18, 3]), ([1, 0, 1, 0, 1, 1], []), (z17n, [28, 3, 4, 1, 18]), ([1, 1, 1, 0, 1, 0, 1, 1], []), ([0, 1, 1, 1, 1, 0, 1, 0, 1, 1], [45, 3, 4, 1, 18]), ([1, 1, 1, 1, 1, 0, 1, 0, 1, 1], []), ([0, 1, 1, 1, 1, 1, 1, 0, 1, 0, 1, 1], [62, 3, 1]), ([1, 1, 1, 1, 1, 1, 1, 0, 1, 0, 1, 1], []), ([0, 0, 1, 1, 1, 1, 1, 1, 1, 0, 1, 0, 1, 1], [2]), ([1, 0, 1, 1, 1, 1, 1, 1, 1, 0, 1, 0, 1, 1], [2]), ([0, 0, 1, 1, 1, 1, 1, 0, 1, 0, 1, 1], [2]), ([1, 0, 1, 1, 1, 1, 1, 0, 1, 0, 1, 1], [2]), ([0, 0, 1, 1, 1, 0, 1, 0, 1, 1], [2]), ([1, 0, 1, 1, 1, 0, 1, 0, 1, 1], [2]), ([0, 0, 1, 0, 1, 0, 1, 1], [2]), ([1, 0, 1, 0, 1, 0, 1, 1], [2]), ([1, 0, 1, 1], []), ([0, 1, 1, 1], [2]), ([1, 1, 1, 1], [2])]

def E_2 (N : Nat) : Env := z1s tys glob [(51, zgz N), (50, zg8 N)] [] [] [] false [] []

theorem Eok_2 (N : Nat) : EnvOk Tryd.prog (E_2 N) := zf mixed zq (FnsOk.cons (zoz N) (FnsOk.cons (zn3 N) (FnsOk.nil))) (ItsOk.nil)

def zcs (N : Nat) (n : DT1) (k0 : Bool -> Bool -> Option Bool) : Option Bool :=
 cond (n.2.2.2.1 == (0 : Int))
 (k0 (eqD (T.arr 4 (T.int IntKind.u64)) n.2.1 ([(0 : Int), (0 : Int), (0 : Int), (0 : Int)] : List Int)) (n.2.2.2.2.1 == (0 : Int)))
 (k0 (eqD (T.arr 4 (T.int IntKind.u64)) n.2.1 ([(0 : Int), (0 : Int), (0 : Int), (0 : Int)] : List Int)) false)

def g1_2 (N : Nat) (x : zz [(1, .box TT0)]) (K : Ex -> List A -> Option Bool) : Option Bool :=
 zcs N x.1 (fun a1 a2 => (K .normal (mkS [(1, .box TT0), (1, .v .bool), (0, .v .bool)] 73 (x.1, a1, a2, ()))))

def h1_2 (N : Nat) : Hd Bool := fun st K => (unS [(1, .box TT0)] 76 (restr [1] 0 st)).bind fun x => g1_2 N x K

def t1_2 (N : Nat) : Tab Bool := []

theorem ok1_2 {N : Nat} {c : Ctx} (hb : Base Tryd.prog (E_2 N) c) : zh Tryd.prog c (ze z10f [0, 1]) (h1_2 N) :=
  zi (s := [(1, .box TT0)]) (m := 76) (g := g1_2 N) [1] (zd hb N (t1_2 N) L_2 z10f TabOk.nil [0, 1] _ rfl) (fun x K => by kernel_rfl)

def zb0 (N : Nat) (n : DT1) : Option Bool :=
 zcs N n
 (fun empty once => cond (n.1 == (1 : Int))
 (cond ((((List.length n.2.2.1) : Nat) : Int) == (0 : Int))
 (some once)
 (some false))
 (cond (n.1 == (2 : Int))
 (cond empty
 (cond once
 (cond ((((List.length n.2.2.1) : Nat) : Int) != (1 : Int))
 ((z91 N n (2 : Int)).bind fun y =>
 some (!y))
 (some false))
 (some false))
 (some false))
 (cond (n.1 == (3 : Int))
 (cond empty
 (cond once
 (cond (decide ((2 : Int) <= (((List.length n.2.2.1) : Nat) : Int)))
 ((z91 N n (3 : Int)).bind fun y1 =>
 some (!y1))
 (some false))
 (some false))
 (some false))
 (cond (n.1 == (4 : Int))
 (cond empty
 (cond ((((List.length n.2.2.1) : Nat) : Int) == (1 : Int))
 ((zcr N n.2.2.2.1 n.2.2.2.2.1).bind fun y2 =>
 some y2)
 (some false))
 (some false))
 (some false)))))

def t_2 (N : Nat) : Tab Bool := [([0, 1], h1_2 N)]

theorem z1cv (N : Nat) (x : zz [(0, .v TT0)]) : z6k (E_2 N) N (t_2 N) L_2 Tryd.f34 (mkS [(0, .v TT0)] 0 x) (z4b (.v .bool) 1) = zb0 N x.1 := by kernel_rfl

def zg9 (N : Nat) : List A -> Res := zu [(0, .v TT0)] (fun x => zb0 N x.1) (z75 (.v .bool) 1)

theorem zn4 (N : Nat) : Contract Tryd.prog glob 34 (zg9 N) :=
  Contract.of (E := E_2 N) (H := t_2 N) (L := L_2) (N := N) (body := z10f) (K := (z4b (.v .bool) 1)) (Eok_2 N) Tryd.func34 (by kernel_rfl) (by decide) (fun _ hb => (TabOk.cons (ok1_2 hb) TabOk.nil)) (fun x y h => by rw [z1cv]; exact h) (z1b (s := (.v .bool)) (m := 1))

def zwg : Code := (Tryd.f17.body).getD .skip

def L_3 : List (List Nat × List Nat) := [([0], [1]), ([0, 0, 1], [7, 1]), ([1, 0, 1], [1]), ([0, 0, 1, 0, 1], [2]), ([1, 0, 1, 0, 1], [2]), ([0, 0, 1, 1], [11, 10, 9]), ([0, 1, 0, 1, 1], [11, 10, 9]), ([0, 0, 0, 1, 0, 1, 1], [12, 9, 11, 10]), (zq9, [9, 11, 10]), (z10v, []), (z1k2, [4, 11, 10, 9]), (z1k4, [17, 11, 10, 9]), ([1, 1, 0, 0, 1, 1, 0, 0, 1, 0, 1, 1], [11, 10, 9]), ([0, 0, 1, 1, 0, 0, 1, 1, 0, 0, 1, 0, 1, 1], [2]), ([1, 0, 1, 1, 0, 0, 1, 1, 0, 0, 1, 0, 1, 1], [2]), (z10u, [11, 10, 9]), (z10t, [11, 10, 9]), ([1, 0, 1, 1], []), ([0, 1, 1, 1], [2]), ([1, 1, 1, 1], [2])]

def E_3 (N : Nat) (self : DT1 -> Option Bool) : Env := z1s tys glob [(34, zg9 N), (17, zu [(0, .v TT0)] (fun x => self x.1) (z75 (.v .bool) 1))] [] [] [] false [] []

theorem Eok_3 (N : Nat) (self : DT1 -> Option Bool) (hself : Contract Tryd.prog glob 17 (zu [(0, .v TT0)] (fun x => self x.1) (z75 (.v .bool) 1))) : EnvOk Tryd.prog (E_3 N self) := zf mixed zq (FnsOk.cons (zn4 N) (FnsOk.cons (hself) (FnsOk.nil))) (ItsOk.nil)

def zea (N : Nat) (self : DT1 -> Option Bool) (x9 : (List Tree)) (x10 : Int) (x11 : Int) (rec : Int -> Option Bool) (k0 : Bool -> Option Bool) (k1 : Option Bool) : Option Bool :=
 cond (decide (x11 < x10))
 (cond (inR x11 (List.length x9))
 ((self (unN (List.getD x9 (Int.toNat x11) (Tree.mk (0 : Int) ([] : List Int) ([] : List Tree) (0 : Int) (0 : Int))))).bind fun y =>
 cond (!y)
 (k0 false)
 (rec (IntKind.wrap IntKind.i64 (x11 + (1 : Int)))))
 (none))
 (k1)

def zii (N : Nat) (self : DT1 -> Option Bool) (x9 : (List Tree)) (x10 : Int) (x11 : Int) (k0 : Bool -> Option Bool) (k1 : Option Bool) : Option Bool :=
 iter (fun (v : Int) r => zea N self x9 x10 v (fun x11 => (r x11)) k0 k1) N x11

def g1_3 (N : Nat) (self : DT1 -> Option Bool) (i : ((List Tree) × Int)) (v : Int) (r : Int -> Option Bool) (K : Ex -> List A -> Option Bool) : Option Bool :=
 zea N self i.1 i.2 v (fun x11 => (r x11)) (fun a0 => (K .ret (mkS [(2, .v .bool)] 16 (a0, ())))) (K (.exit 0) (mkS [] 19 ()))

def h1_3 (N : Nat) (self : DT1 -> Option Bool) : Hd Bool := fun st K => (unS [(9, .v (.sl .nod)), (0, .v (.int .i64)), (0, .v (.int .i64))] 7 (restr [11, 10, 9] 0 st)).bind fun x => iter (fun v r => g1_3 N self ((fun x => (x.1, x.2.1)) x) v r K) N ((fun x => x.2.2.1) x)

def t1_3 (N : Nat) (self : DT1 -> Option Bool) : Tab Bool := []

theorem ok1_3 {N : Nat} {self : DT1 -> Option Bool} {c : Ctx} (hb : Base Tryd.prog (E_3 N self) c) : zh Tryd.prog c (ze zwg [0, 1, 0, 1, 1]) (h1_3 N self) :=
  z1w (s := [(9, .v (.sl .nod)), (0, .v (.int .i64)), (0, .v (.int .i64))]) (m := 7) (g1_3 N self) [11, 10, 9] N (fun x => (x.1, x.2.1)) (fun x => x.2.2.1) (fun i v => (i.1, i.2, v, ())) (fun _ => rfl) (zd hb N (t1_3 N self) L_3 zwg TabOk.nil [0, 0, 1, 0, 1, 1] _ rfl) (fun i v r K => by kernel_rfl)

def zcb (N : Nat) (self : DT1 -> Option Bool) (n : DT1) : Option Bool :=
 (zb0 N n).bind fun y =>
 cond (!y)
 (some false)
 (zii N self n.2.2.1 (((List.length n.2.2.1) : Nat) : Int) (0 : Int)
 (fun x2 => some x2)
 (some true))

def t_3 (N : Nat) (self : DT1 -> Option Bool) : Tab Bool := [([0, 1, 0, 1, 1], h1_3 N self)]

theorem z1cu (N : Nat) (self : DT1 -> Option Bool) (x : zz [(0, .v TT0)]) : z6k (E_3 N self) N (t_3 N self) L_3 Tryd.f17 (mkS [(0, .v TT0)] 0 x) (z4b (.v .bool) 1) = zcb N self x.1 := by kernel_rfl

def z4t : Nat -> DT1 -> Option Bool
  | 0 => fun _ => none
  | N + 1 => zcb (N + 1) (z4t N)

def zd8 (N : Nat) : List A -> Res := zu [(0, .v TT0)] (fun x => z4t N x.1) (z75 (.v .bool) 1)

theorem zeb : ∀ N : Nat, Contract Tryd.prog glob 17 (zd8 N)
  | 0 => Contract.zero Tryd.func17 (body := zwg) (by kernel_rfl) (by decide) (fun _ => rfl)
  | N + 1 => Contract.of (E := E_3 (N + 1) (z4t N)) (H := t_3 (N + 1) (z4t N)) (L := L_3) (N := (N + 1)) (body := zwg) (K := (z4b (.v .bool) 1)) (Eok_3 (N + 1) (z4t N) (zeb N)) Tryd.func17 (by kernel_rfl) (by decide) (fun _ hb => (TabOk.cons (ok1_3 hb) TabOk.nil)) (fun x y h => by rw [z1cu]; exact h) (z1b (s := (.v .bool)) (m := 1))

def z1ju : Code := (Tryd.f37.body).getD .skip

def L_4 : List (List Nat × List Nat) := [([0], [1]), ([0, 0, 1], [5, 1]), ([1, 0, 1], [1]), ([0, 0, 1, 0, 1], [2]), ([1, 0, 1, 0, 1], [2]), ([0, 1, 1], [2]), ([1, 1, 1], [2])]

def E_4 (N : Nat) : Env := z1s tys glob [] [] [] [] false [] []

theorem Eok_4 (N : Nat) : EnvOk Tryd.prog (E_4 N) := zf mixed zq (FnsOk.nil) (ItsOk.nil)

def z8x (N : Nat) (n : DT1) : Option Int :=
 cond (n.2.2.2.2.1 == (-(1 : Int)))
 (some (IntKind.wrap IntKind.i64 (n.2.2.2.1 + (1 : Int))))
 (some n.2.2.2.2.1)

def t_4 (N : Nat) : Tab Int := []

theorem z1ct (N : Nat) (x : zz [(0, .v TT0)]) : z6k (E_4 N) N (t_4 N) L_4 Tryd.f37 (mkS [(0, .v TT0)] 0 x) (z4b (.v (.int .i64)) 1) = z8x N x.1 := by kernel_rfl

def zbd (N : Nat) : List A -> Res := zu [(0, .v TT0)] (fun x => z8x N x.1) (z75 (.v (.int .i64)) 1)

theorem zgn (N : Nat) : Contract Tryd.prog glob 37 (zbd N) :=
  Contract.of (E := E_4 N) (H := t_4 N) (L := L_4) (N := N) (body := z1ju) (K := (z4b (.v (.int .i64)) 1)) (Eok_4 N) Tryd.func37 (by kernel_rfl) (by decide) (fun _ hb => TabOk.nil) (fun x y h => by rw [z1ct]; exact h) (z1b (s := (.v (.int .i64))) (m := 1))

def zlz : Code := (Tryd.f20.body).getD .skip

def L_5 : List (List Nat × List Nat) := [([0], [1]), ([0, 1], [1, 3]), ([0, 0, 1, 1], [8, 1, 3]), ([1, 0, 1, 1], [1, 3]), ([0, 1, 0, 1, 1], [1, 3]), ([0, 0, 1, 1, 1], [12, 11, 10, 3, 1]), ([0, 1, 0, 1, 1, 1], [12, 11, 10, 3, 1]), ([0, 0, 0, 1, 0, 1, 1, 1], [13, 10, 12, 3, 11, 1]), (z10s, [10, 12, 3, 11, 1]), (z12f, [1, 3]), ([0, 0, 0, 1, 1, 0, 0, 1, 0, 1, 1, 1], [3, 5, 12, 11, 10, 1]), ([1, 0, 0, 1, 1, 0, 0, 1, 0, 1, 1, 1], [12, 11, 10, 3, 1]), ([0, 1, 1, 0, 0, 1, 0, 1, 1, 1], [12, 11, 10, 3, 1]), ([1, 1, 1, 0, 0, 1, 0, 1, 1, 1], [12, 11, 10, 3, 1]), ([1, 0, 1, 1, 1], [1, 3]), ([0, 0, 1, 1, 1, 1], [24, 3, 1]), ([1, 0, 1, 1, 1, 1], [3]), (z12c, [3]), ([0, 1, 1, 1, 1, 1], [2]), ([1, 1, 1, 1, 1, 1], [2])]

def E_5 (N : Nat) (self : DT1 -> Option Int) : Env := z1s tys glob [(37, zbd N), (20, zu [(0, .v TT0)] (fun x => self x.1) (z75 (.v (.int .i64)) 1))] [] [] [] false [] []

theorem Eok_5 (N : Nat) (self : DT1 -> Option Int) (hself : Contract Tryd.prog glob 20 (zu [(0, .v TT0)] (fun x => self x.1) (z75 (.v (.int .i64)) 1))) : EnvOk Tryd.prog (E_5 N self) := zf mixed zq (FnsOk.cons (zgn N) (FnsOk.cons (hself) (FnsOk.nil))) (ItsOk.nil)

def ze4 (N : Nat) (self : DT1 -> Option Int) (n : DT1) (total : Int) (k0 : Int -> Option Int) : Option Int :=
 cond (n.1 == (1 : Int))
 (k0 (1 : Int))
 (k0 total)

def g1_5 (N : Nat) (self : DT1 -> Option Int) (x : zz zv7) (K : Ex -> List A -> Option Int) : Option Int :=
 ze4 N self x.1 x.2.1 (fun a1 => (K .normal (mkS zv7 27 (x.1, a1, ()))))

def h1_5 (N : Nat) (self : DT1 -> Option Int) : Hd Int := fun st K => (unS zv7 27 (restr [1, 3] 0 st)).bind fun x => g1_5 N self x K

def t1_5 (N : Nat) (self : DT1 -> Option Int) : Tab Int := []

theorem ok1_5 {N : Nat} {self : DT1 -> Option Int} {c : Ctx} (hb : Base Tryd.prog (E_5 N self) c) : zh Tryd.prog c (ze zlz [0, 1, 1]) (h1_5 N self) :=
  zi (s := zv7) (m := 27) (g := g1_5 N self) [1, 3] (zd hb N (t1_5 N self) L_5 zlz TabOk.nil [0, 1, 1] _ rfl) (fun x K => by kernel_rfl)

def z61 (N : Nat) (self : DT1 -> Option Int) (n : DT1) (x10 : (List Tree)) (x11 : Int) (total : Int) (x12 : Int) (rec : Int -> Int -> Option Int) (k0 : Int -> Option Int) : Option Int :=
 cond (decide (x12 < x11))
 (cond (inR x12 (List.length x10))
 ((self (unN (List.getD x10 (Int.toNat x12) (Tree.mk (0 : Int) ([] : List Int) ([] : List Tree) (0 : Int) (0 : Int))))).bind fun y =>
 rec (if ((513 : Int) < (IntKind.wrap IntKind.i64 (total + y))) then (513 : Int) else (IntKind.wrap IntKind.i64 (total + y))) (IntKind.wrap IntKind.i64 (x12 + (1 : Int))))
 (none))
 (k0 total)

def zi8 (N : Nat) (self : DT1 -> Option Int) (n : DT1) (total : Int) (x10 : (List Tree)) (x11 : Int) (x12 : Int) (k0 : Int -> Option Int) : Option Int :=
 iter (fun (v : (Int × Int)) r => z61 N self n x10 x11 v.1 v.2 (fun total x12 => (r (total, x12))) k0) N (total, x12)

def g2_5 (N : Nat) (self : DT1 -> Option Int) (i : (DT1 × (List Tree) × Int)) (v : (Int × Int)) (r : (Int × Int) -> Option Int) (K : Ex -> List A -> Option Int) : Option Int :=
 z61 N self i.1 i.2.1 i.2.2 v.1 v.2 (fun total x12 => (r (total, x12))) (fun a1 => (K (.exit 0) (mkS zv7 27 (i.1, a1, ()))))

def h2_5 (N : Nat) (self : DT1 -> Option Int) : Hd Int := fun st K => (unS SQ73 18 (restr [12, 11, 10, 3, 1] 0 st)).bind fun x => iter (fun v r => g2_5 N self ((fun x => (x.1, x.2.2.1, x.2.2.2.1)) x) v r K) N ((fun x => (x.2.1, x.2.2.2.2.1)) x)

def t2_5 (N : Nat) (self : DT1 -> Option Int) : Tab Int := []

theorem ok2_5 {N : Nat} {self : DT1 -> Option Int} {c : Ctx} (hb : Base Tryd.prog (E_5 N self) c) : zh Tryd.prog c (ze zlz [0, 1, 0, 1, 1, 1]) (h2_5 N self) :=
  z1w (s := SQ73) (m := 18) (g2_5 N self) [12, 11, 10, 3, 1] N (fun x => (x.1, x.2.2.1, x.2.2.2.1)) (fun x => (x.2.1, x.2.2.2.2.1)) (fun i v => (i.1, v.1, i.2.1, i.2.2, v.2, ())) (fun _ => rfl) (zd hb N (t2_5 N self) L_5 zlz TabOk.nil zxx _ rfl) (fun i v r K => by kernel_rfl)

def ze3 (N : Nat) (self : DT1 -> Option Int) (n : DT1) (total : Int) (k0 : Int -> Option Int) : Option Int :=
 cond (n.1 == (4 : Int))
 ((z8x N n).bind fun y =>
 k0 (IntKind.wrap IntKind.i64 (total * y)))
 (k0 total)

def g3_5 (N : Nat) (self : DT1 -> Option Int) (x : zz zv7) (K : Ex -> List A -> Option Int) : Option Int :=
 ze3 N self x.1 x.2.1 (fun a0 => (K .normal (mkS [(3, .v (.int .i64))] 27 (a0, ()))))

def h3_5 (N : Nat) (self : DT1 -> Option Int) : Hd Int := fun st K => (unS zv7 27 (restr [1, 3] 0 st)).bind fun x => g3_5 N self x K

def t3_5 (N : Nat) (self : DT1 -> Option Int) : Tab Int := []

theorem ok3_5 {N : Nat} {self : DT1 -> Option Int} {c : Ctx} (hb : Base Tryd.prog (E_5 N self) c) : zh Tryd.prog c (ze zlz [0, 1, 1, 1, 1]) (h3_5 N self) :=
  zi (s := zv7) (m := 27) (g := g3_5 N self) [1, 3] (zd hb N (t3_5 N self) L_5 zlz TabOk.nil [0, 1, 1, 1, 1] _ rfl) (fun x K => by kernel_rfl)

def zc7 (N : Nat) (self : DT1 -> Option Int) (n : DT1) : Option Int :=
 ze4 N self n (0 : Int)
 (fun total => zi8 N self n total n.2.2.1 (((List.length n.2.2.1) : Nat) : Int) (0 : Int)
 (fun total1 => ze3 N self n total1
 (fun total2 => some (if ((513 : Int) < total2) then (513 : Int) else total2))))

def t_5 (N : Nat) (self : DT1 -> Option Int) : Tab Int := [([0, 1, 1], h1_5 N self), ([0, 1, 0, 1, 1, 1], h2_5 N self), ([0, 1, 1, 1, 1], h3_5 N self)]

theorem z1cs (N : Nat) (self : DT1 -> Option Int) (x : zz [(0, .v TT0)]) : z6k (E_5 N self) N (t_5 N self) L_5 Tryd.f20 (mkS [(0, .v TT0)] 0 x) (z4b (.v (.int .i64)) 1) = zc7 N self x.1 := by kernel_rfl

def z4p : Nat -> DT1 -> Option Int
  | 0 => fun _ => none
  | N + 1 => zc7 (N + 1) (z4p N)

def zco (N : Nat) : List A -> Res := zu [(0, .v TT0)] (fun x => z4p N x.1) (z75 (.v (.int .i64)) 1)

theorem ze5 : ∀ N : Nat, Contract Tryd.prog glob 20 (zco N)
  | 0 => Contract.zero Tryd.func20 (body := zlz) (by kernel_rfl) (by decide) (fun _ => rfl)
  | N + 1 => Contract.of (E := E_5 (N + 1) (z4p N)) (H := t_5 (N + 1) (z4p N)) (L := L_5) (N := (N + 1)) (body := zlz) (K := (z4b (.v (.int .i64)) 1)) (Eok_5 (N + 1) (z4p N) (ze5 N)) Tryd.func20 (by kernel_rfl) (by decide) (fun _ hb => (TabOk.cons (ok1_5 hb) (TabOk.cons (ok2_5 hb) (TabOk.cons (ok3_5 hb) TabOk.nil)))) (fun x y h => by rw [z1cs]; exact h) (z1b (s := (.v (.int .i64))) (m := 1))

def z1jt : Code := (Tryd.f42.body).getD .skip

def L_6 : List (List Nat × List Nat) := [([0], [0]), ([0, 1], [0]), ([1, 1], [0])]

def E_6 (N : Nat) : Env := z1s tys glob [] [] [] [] false [] []

theorem Eok_6 (N : Nat) : EnvOk Tryd.prog (E_6 N) := zf mixed zq (FnsOk.nil) (ItsOk.nil)

def zjp (N : Nat) : Option z4x :=
 some (true, (([] : List Int), (([] : List Int), ())))

def t_6 (N : Nat) : Tab z4x := []

theorem z1cr (N : Nat) (x : zz []) : z6k (E_6 N) N (t_6 N) L_6 Tryd.f42 (mkS [] 0 x) (z4b (.v TT8) 0) = zjp N := by kernel_rfl

def zag (N : Nat) : List A -> Res := zu [] (fun x => zjp N) (z75 (.v TT8) 0)

theorem zg3 (N : Nat) : Contract Tryd.prog glob 42 (zag N) :=
  Contract.of (E := E_6 N) (H := t_6 N) (L := L_6) (N := N) (body := z1jt) (K := (z4b (.v TT8) 0)) (Eok_6 N) Tryd.func42 (by kernel_rfl) (by decide) (fun _ hb => TabOk.nil) (fun x y h => by rw [z1cr]; exact h) (z1b (s := (.v TT8)) (m := 0))

def z1js : Code := (Tryd.f73.body).getD .skip

def L_7 : List (List Nat × List Nat) := [([0], [0]), ([0, 1], [2]), ([1, 1], [2])]

def E_7 (N : Nat) : Env := z1s tys glob [] [] [] [] false [] []

theorem Eok_7 (N : Nat) : EnvOk Tryd.prog (E_7 N) := zf mixed zq (FnsOk.nil) (ItsOk.nil)

def zkd (N : Nat) (x0 : Int) : Option Bool :=
 some (x0 != x0)

def t_7 (N : Nat) : Tab Bool := []

theorem z1cq (N : Nat) (x : zz [(0, .v (.int .i64))]) : z6k (E_7 N) N (t_7 N) L_7 Tryd.f73 (mkS [(0, .v (.int .i64))] 0 x) (z4b (.v .bool) 1) = zkd N x.1 := by kernel_rfl

def zf1 (N : Nat) : List A -> Res := zu [(0, .v (.int .i64))] (fun x => zkd N x.1) (z75 (.v .bool) 1)

theorem zm6 (N : Nat) : Contract Tryd.prog glob 73 (zf1 N) :=
  Contract.of (E := E_7 N) (H := t_7 N) (L := L_7) (N := N) (body := z1js) (K := (z4b (.v .bool) 1)) (Eok_7 N) Tryd.func73 (by kernel_rfl) (by decide) (fun _ hb => TabOk.nil) (fun x y h => by rw [z1cq]; exact h) (z1b (s := (.v .bool)) (m := 1))

def z1jr : Code := (Tryd.f67.body).getD .skip

def L_8 : List (List Nat × List Nat) := [([0], [0, 1]), ([0, 1], [1, 5, 0]), ([0, 1, 1], [5, 6, 0, 1]), ([0, 0, 1, 1, 1], [11, 6, 0, 1]), ([1, 0, 1, 1, 1], [6, 0, 1]), ([0, 0, 0, 1, 0, 1, 1, 1], [12]), ([1, 0, 0, 1, 0, 1, 1, 1], []), ([0, 0, 1, 0, 0, 1, 0, 1, 1, 1], [4]), (z12f, [4]), ([0, 1, 0, 1, 0, 1, 1, 1], [4]), ([1, 1, 0, 1, 0, 1, 1, 1], [4]), ([0, 0, 1, 1, 1, 1], [13, 0, 1]), ([1, 0, 1, 1, 1, 1], [0, 1]), ([0, 0, 1, 0, 1, 1, 1, 1], [4]), ([1, 0, 1, 0, 1, 1, 1, 1], [4]), (zkp, [16, 0, 1]), (zxw, [0, 1]), (z17o, [4]), (z10r, [4]), (z10o, [19]), (z10n, []), ([0, 0, 1, 0, 1, 1, 1, 1, 1, 1], [4]), ([1, 0, 1, 0, 1, 1, 1, 1, 1, 1], [4]), (z10k, [4]), (z13e, [4])]

def E_8 (N : Nat) : Env := z1s tys glob [(73, zf1 N)] [] [] [] false [] []

theorem Eok_8 (N : Nat) : EnvOk Tryd.prog (E_8 N) := zf mixed zq (FnsOk.cons (zm6 N) (FnsOk.nil)) (ItsOk.nil)

def z73 (N : Nat) (x0 : Int) (y : Int) : Option Int :=
 cond (x0 != x0)
 (cond (y != y)
 (some (0 : Int))
 (some (-(1 : Int))))
 (cond (y != y)
 (some (1 : Int))
 (cond (decide (x0 < y))
 (some (-(1 : Int)))
 (cond (decide (y < x0))
 (some (1 : Int))
 (some (0 : Int)))))

def t_8 (N : Nat) : Tab Int := []

theorem z1cp (N : Nat) (x : zz SQ6) : z6k (E_8 N) N (t_8 N) L_8 Tryd.f67 (mkS SQ6 0 x) (z4b (.v (.int .i64)) 2) = z73 N x.1 x.2.1 := by kernel_rfl

def zdp (N : Nat) : List A -> Res := zu SQ6 (fun x => z73 N x.1 x.2.1) (z75 (.v (.int .i64)) 2)

theorem zke (N : Nat) : Contract Tryd.prog glob 67 (zdp N) :=
  Contract.of (E := E_8 N) (H := t_8 N) (L := L_8) (N := N) (body := z1jr) (K := (z4b (.v (.int .i64)) 2)) (Eok_8 N) Tryd.func67 (by kernel_rfl) (by decide) (fun _ hb => TabOk.nil) (fun x y h => by rw [z1cp]; exact h) (z1b (s := (.v (.int .i64))) (m := 2))

def zkk : Code := (Tryd.f60.body).getD .skip

def L_9 : List (List Nat × List Nat) := [([0], [0, 1]), ([0, 1], [0, 1, 5]), ([0, 0, 1, 1], [0, 1, 5]), ([0, 0, 0, 0, 0, 1, 1], [20, 0, 1, 5]), ([1, 0, 0, 0, 0, 1, 1], [0, 1, 5]), (z10m, [5, 0, 1]), ([0, 0, 1, 0, 0, 0, 1, 1], [6, 5, 0, 1]), ([0, 0, 1, 0, 1, 0, 0, 0, 1, 1], [29, 5, 0, 6, 1]), ([1, 0, 1, 0, 1, 0, 0, 0, 1, 1], [6, 1, 0, 5]), ([1, 1, 0, 1, 0, 1, 0, 0, 0, 1, 1], [6, 1, 0, 5]), ([0, 0, 1, 0, 1, 0, 1, 0, 0, 0, 1, 1], [0, 6, 1, 5]), ([1, 0, 1, 0, 1, 0, 1, 0, 0, 0, 1, 1], [6, 1, 0, 5]), ([0, 1, 1, 0, 1, 0, 0, 0, 1, 1], [45, 1, 0, 5]), ([1, 1, 1, 0, 1, 0, 0, 0, 1, 1], [0, 1, 5]), ([0, 1, 1, 1, 0, 1, 0, 0, 0, 1, 1], [0, 1, 5]), ([1, 0, 0, 0, 1, 1], [0, 1, 5]), ([0, 1, 1], [5, 0, 1]), ([0, 1, 1, 1], [5, 1]), ([0, 1, 1, 1, 1], [4]), ([1, 1, 1, 1, 1], [4])]

def E_9 (N : Nat) : Env := z1s tys glob [(67, zdp N)] [(0, (.int .i64)), (1, (.int .i64)), (5, (.int .i64)), (4, (.int .i64))] [] [] false [] []

theorem Eok_9 (N : Nat) : EnvOk Tryd.prog (E_9 N) := zf mixed zq (FnsOk.cons (zke N) (FnsOk.nil)) (ItsOk.nil)

def z6c (N : Nat) (a : (List Int)) (b : (List Int)) (l : (List Int)) (k0 : Option (List Int)) (k1 : Option (List Int)) : Option (List Int) :=
 cond (decide ((0 : Int) < (((List.length a) : Nat) : Int)))
 (cond (decide ((0 : Int) < (((List.length b) : Nat) : Int)))
 (k0)
 (k1))
 (k1)

def g3_9 (N : Nat) (x : zz SQ7) (K : Ex -> List A -> Option (List Int)) : Option (List Int) :=
 z6c N x.1 x.2.1 x.2.2.1 (K .normal (mkS SQ7 48 (x.1, x.2.1, x.2.2.1, ()))) (K (.exit 0) (mkS SQ7 48 (x.1, x.2.1, x.2.2.1, ())))

def h3_9 (N : Nat) : Hd (List Int) := fun st K => (unS SQ7 48 (restr [0, 1, 5] 0 st)).bind fun x => g3_9 N x K

def t3_9 (N : Nat) : Tab (List Int) := []

theorem ok3_9 {N : Nat} {c : Ctx} (hb : Base Tryd.prog (E_9 N) c) : zh Tryd.prog c (ze zkk [0, 0, 0, 0, 1, 1]) (h3_9 N) :=
  zi (s := SQ7) (m := 48) (g := g3_9 N) [0, 1, 5] (zd hb N (t3_9 N) L_9 zkk TabOk.nil [0, 0, 0, 0, 1, 1] _ rfl) (fun x K => by kernel_rfl)

def z9m (N : Nat) (a : (List Int)) (b : (List Int)) (l : (List Int)) (order : Int) (k0 : (List Int) -> (List Int) -> Option (List Int)) : Option (List Int) :=
 cond (decide (order <= (0 : Int)))
 (cond (inR (0 : Int) (List.length a))
 (cond (decide ((((List.length l) + 1) * 8) <= 70368744177664))
 (cond (decide (((0 : Int) <= (1 : Int)) /\ ((1 : Int) <= (((List.length a) : Nat) : Int))))
 (k0 (cut a 1 (List.length a)) (l ++ ([(List.getD a 0 (0 : Int))] : List Int)))
 (none))
 (none))
 (none))
 (cond (inR (0 : Int) (List.length b))
 (cond (decide ((((List.length l) + 1) * 8) <= 70368744177664))
 (k0 a (l ++ ([(List.getD b 0 (0 : Int))] : List Int)))
 (none))
 (none))

def g4_9 (N : Nat) (x : zz SQ25) (K : Ex -> List A -> Option (List Int)) : Option (List Int) :=
 z9m N x.1 x.2.1 x.2.2.1 x.2.2.2.1 (fun a0 a2 => (K .normal (mkS SQ25 47 (a0, x.2.1, a2, x.2.2.2.1, ()))))

def h4_9 (N : Nat) : Hd (List Int) := fun st K => (unS SQ25 47 (restr [6, 5, 0, 1] 0 st)).bind fun x => g4_9 N x K

def t4_9 (N : Nat) : Tab (List Int) := []

theorem ok4_9 {N : Nat} {c : Ctx} (hb : Base Tryd.prog (E_9 N) c) : zh Tryd.prog c (ze zkk [0, 1, 0, 1, 0, 0, 0, 1, 1]) (h4_9 N) :=
  zi (s := SQ25) (m := 47) (g := g4_9 N) [6, 5, 0, 1] (zd hb N (t4_9 N) L_9 zkk TabOk.nil [0, 1, 0, 1, 0, 0, 0, 1, 1] _ rfl) (fun x K => by kernel_rfl)

def z4i (N : Nat) (a : (List Int)) (b : (List Int)) (l : (List Int)) (rec : (List Int) -> (List Int) -> (List Int) -> Option (List Int)) (k0 : (List Int) -> (List Int) -> (List Int) -> Option (List Int)) : Option (List Int) :=
 z6c N a b l
 (cond (inR (0 : Int) (List.length a))
 (cond (inR (0 : Int) (List.length b))
 ((z73 N (List.getD a 0 (0 : Int)) (List.getD b 0 (0 : Int))).bind fun y =>
 z9m N a b l y
 (fun a1 l1 => cond (decide ((0 : Int) <= y))
 (cond (decide (((0 : Int) <= (1 : Int)) /\ ((1 : Int) <= (((List.length b) : Nat) : Int))))
 (rec a1 (cut b 1 (List.length b)) l1)
 (none))
 (rec a1 b l1)))
 (none))
 (none))
 (k0 a b l)

def zdt (N : Nat) (a : (List Int)) (b : (List Int)) (l : (List Int)) (k0 : (List Int) -> (List Int) -> (List Int) -> Option (List Int)) : Option (List Int) :=
 iter (fun (v : ((List Int) × (List Int) × (List Int))) r => z4i N v.1 v.2.1 v.2.2 (fun a b l => (r (a, b, l))) k0) N (a, b, l)

def g2_9 (N : Nat) (i : Unit) (v : ((List Int) × (List Int) × (List Int))) (r : ((List Int) × (List Int) × (List Int)) -> Option (List Int)) (K : Ex -> List A -> Option (List Int)) : Option (List Int) :=
 z4i N v.1 v.2.1 v.2.2 (fun a b l => (r (a, b, l))) (fun a0 a1 a2 => (K (.exit 0) (mkS SQ7 48 (a0, a1, a2, ()))))

def h2_9 (N : Nat) : Hd (List Int) := fun st K => (unS SQ7 48 (restr [0, 1, 5] 0 st)).bind fun x => iter (fun v r => g2_9 N ((fun x => ()) x) v r K) N ((fun x => (x.1, x.2.1, x.2.2.1)) x)

def t2_9 (N : Nat) : Tab (List Int) := [([0, 0, 0, 0, 1, 1], h3_9 N), ([0, 1, 0, 1, 0, 0, 0, 1, 1], h4_9 N)]

theorem ok2_9 {N : Nat} {c : Ctx} (hb : Base Tryd.prog (E_9 N) c) : zh Tryd.prog c (ze zkk [0, 0, 1, 1]) (h2_9 N) :=
  z1w (s := SQ7) (m := 48) (g2_9 N) [0, 1, 5] N (fun x => ()) (fun x => (x.1, x.2.1, x.2.2.1)) (fun i v => (v.1, v.2.1, v.2.2, ())) (fun _ => rfl) (zd hb N (t2_9 N) L_9 zkk (TabOk.cons (ok3_9 hb) (TabOk.cons (ok4_9 hb) TabOk.nil)) [0, 0, 0, 1, 1] _ rfl) (fun i v r K => by kernel_rfl)

def z9n (N : Nat) (a : (List Int)) (b : (List Int)) (l : (List Int)) (k0 : (List Int) -> (List Int) -> (List Int) -> Option (List Int)) : Option (List Int) :=
 zdt N a b l
 (fun a1 b1 l1 => k0 a1 b1 l1)

def g1_9 (N : Nat) (x : zz SQ7) (K : Ex -> List A -> Option (List Int)) : Option (List Int) :=
 z9n N x.1 x.2.1 x.2.2.1 (fun a0 a1 a2 => (K .normal (mkS SQ7 48 (a0, a1, a2, ()))))

def h1_9 (N : Nat) : Hd (List Int) := fun st K => (unS SQ7 48 (restr [0, 1, 5] 0 st)).bind fun x => g1_9 N x K

def t1_9 (N : Nat) : Tab (List Int) := [([0, 0, 1, 1], h2_9 N)]

theorem ok1_9 {N : Nat} {c : Ctx} (hb : Base Tryd.prog (E_9 N) c) : zh Tryd.prog c (ze zkk [0, 1, 1]) (h1_9 N) :=
  zi (s := SQ7) (m := 48) (g := g1_9 N) [0, 1, 5] (zd hb N (t1_9 N) L_9 zkk (TabOk.cons (ok2_9 hb) TabOk.nil) [0, 1, 1] _ rfl) (fun x K => by kernel_rfl)

def z25 (N : Nat) (a : (List Int)) (b : (List Int)) : Option (List Int) :=
 cond (decide (((0 : Int) <= (0 : Int)) /\ (((0 : Int) <= (IntKind.wrap IntKind.i64 ((((List.length a) : Nat) : Int) + (((List.length b) : Nat) : Int)))) /\ ((((IntKind.wrap IntKind.i64 ((((List.length a) : Nat) : Int) + (((List.length b) : Nat) : Int))) * (8 : Int)) <= (281474976710656 : Int)) /\ ((IntKind.wrap IntKind.i64 ((((List.length a) : Nat) : Int) + (((List.length b) : Nat) : Int))) <= (9223372036854775807 : Int))))))
 (z9n N a b ([] : List Int)
 (fun a1 b1 l => cond (decide ((((List.length l) + (List.length a1)) * 8) <= 70368744177664))
 (cond (decide ((((List.length (l ++ a1)) + (List.length b1)) * 8) <= 70368744177664))
 (some ((l ++ a1) ++ b1))
 (none))
 (none)))
 (none)

def t_9 (N : Nat) : Tab (List Int) := [([0, 1, 1], h1_9 N)]

theorem z1co (N : Nat) (x : zz z189) : z6k (E_9 N) N (t_9 N) L_9 Tryd.f60 (mkS z189 0 x) (z4b (.v (.sl (.int .i64))) 2) = z25 N x.1 x.2.1 := by kernel_rfl

def z5j (N : Nat) : List A -> Res := zu z189 (fun x => z25 N x.1 x.2.1) (z75 (.v (.sl (.int .i64))) 2)

theorem z9o (N : Nat) : Contract Tryd.prog glob 60 (z5j N) :=
  Contract.of (E := E_9 N) (H := t_9 N) (L := L_9) (N := N) (body := zkk) (K := (z4b (.v (.sl (.int .i64))) 2)) (Eok_9 N) Tryd.func60 (by kernel_rfl) (by decide) (fun _ hb => (TabOk.cons (ok1_9 hb) TabOk.nil)) (fun x y h => by rw [z1co]; exact h) (z1b (s := (.v (.sl (.int .i64)))) (m := 2))

def zv2 : Code := (Tryd.f59.body).getD .skip

def L_10 : List (List Nat × List Nat) := [([0], [10, 9, 8, 0, 2]), ([0, 1], [10, 9, 8, 0, 2]), ([0, 0, 0, 1], [11, 8, 10, 0, 2, 9]), ([0, 1, 0, 0, 1], [8, 10, 0, 2, 9]), ([1, 0, 1, 0, 0, 1], [0]), ([0, 0, 0, 1, 1, 0, 0, 1], [0, 7, 2, 10, 9, 8]), ([1, 0, 0, 1, 1, 0, 0, 1], [10, 9, 8, 0, 2]), ([0, 1, 1, 0, 0, 1], [10, 9, 8, 0, 2]), ([1, 1, 1, 0, 0, 1], [10, 9, 8, 0, 2]), ([1], [0])]

def E_10 (N : Nat) : Env := z1s tys glob [(60, z5j N)] [] [] [0] false [] []

theorem z1ma (N : Nat) : EnvOk Tryd.prog (E_10 N) := zf mixed zq (FnsOk.cons (z9o N) (FnsOk.nil)) (ItsOk.nil)

def z3a (N : Nat) (first : (List Int)) (x8 : (List Int)) (x9 : Int) (b : z4y) (x10 : Int) (rec : z4y -> Int -> Option ((Unit) × (z4y × Unit))) (k0 : z4y -> Option ((Unit) × (z4y × Unit))) : Option ((Unit) × (z4y × Unit)) :=
 cond (decide (x10 < x9))
 (cond (inR x10 (List.length x8))
 (cond (inR (List.getD x8 (Int.toNat x10) (0 : Int)) (List.length b.2.1))
 (cond (decide ((Int.toNat (List.getD x8 (Int.toNat x10) (0 : Int))) < (List.length b.2.1)))
 ((z25 N (List.getD b.2.1 (Int.toNat (List.getD x8 (Int.toNat x10) (0 : Int))) ([] : List Int)) first).bind fun y =>
 cond (inR (List.getD x8 (Int.toNat x10) (0 : Int)) (List.length b.2.1))
 (cond (decide ((Int.toNat (List.getD x8 (Int.toNat x10) (0 : Int))) < (List.length b.2.1)))
 (rec (b.1, ((List.set b.2.1 (Int.toNat (List.getD x8 (Int.toNat x10) (0 : Int))) y), b.2.2)) (IntKind.wrap IntKind.i64 (x10 + (1 : Int))))
 (none))
 (none))
 (none))
 (none))
 (none))
 (k0 b)

def zay (N : Nat) (b : z4y) (first : (List Int)) (x8 : (List Int)) (x9 : Int) (x10 : Int) (k0 : z4y -> Option ((Unit) × (z4y × Unit))) : Option ((Unit) × (z4y × Unit)) :=
 iter (fun (v : (z4y × Int)) r => z3a N first x8 x9 v.1 v.2 (fun b x10 => (r (b, x10))) k0) N (b, x10)

def z1jm (N : Nat) (i : ((List Int) × (List Int) × Int)) (v : (z4y × Int)) (r : (z4y × Int) -> Option ((Unit) × (z4y × Unit))) (K : Ex -> List A -> Option ((Unit) × (z4y × Unit))) : Option ((Unit) × (z4y × Unit)) :=
 z3a N i.1 i.2.1 i.2.2 v.1 v.2 (fun b x10 => (r (b, x10))) (fun a0 => (K (.exit 0) (mkS [(0, .box zf3)] 29 (a0, ()))))

def z1gb (N : Nat) : Hd ((Unit) × (z4y × Unit)) := fun st K => (unS SQ61 19 (restr [10, 9, 8, 0, 2] 0 st)).bind fun x => iter (fun v r => z1jm N ((fun x => (x.2.1, x.2.2.1, x.2.2.2.1)) x) v r K) N ((fun x => (x.1, x.2.2.2.2.1)) x)

def t1_10 (N : Nat) : Tab ((Unit) × (z4y × Unit)) := []

theorem z1ck {N : Nat} {c : Ctx} (hb : Base Tryd.prog (E_10 N) c) : zh Tryd.prog c (ze zv2 [0, 1]) (z1gb N) :=
  z1w (s := SQ61) (m := 19) (z1jm N) [10, 9, 8, 0, 2] N (fun x => (x.2.1, x.2.2.1, x.2.2.2.1)) (fun x => (x.1, x.2.2.2.2.1)) (fun i v => (v.1, i.1, i.2.1, i.2.2, v.2, ())) (fun _ => rfl) (zd hb N (t1_10 N) L_10 zv2 TabOk.nil [0, 0, 1] _ rfl) (fun i v r K => by kernel_rfl)

def z3d (N : Nat) (b : z4y) (last : (List Int)) (first : (List Int)) : Option ((Unit) × (z4y × Unit)) :=
 zay N b first last (((List.length last) : Nat) : Int) (0 : Int)
 (fun b1 => some ((), (b1, ())))

def t_10 (N : Nat) : Tab ((Unit) × (z4y × Unit)) := [([0, 1], z1gb N)]

theorem z16q (N : Nat) (x : zz SQ67) : z6k (E_10 N) N (t_10 N) L_10 Tryd.f59 (mkS SQ67 0 x) (z4z (.tup []) [(0, .box zf3)] 2) = z3d N x.1 x.2.1 x.2.2.1 := by kernel_rfl

def z63 (N : Nat) : List A -> Res := zu SQ67 (fun x => z3d N x.1 x.2.1 x.2.2.1) (z5f (.tup []) [(0, .box zf3)] 2)

theorem zaz (N : Nat) : Contract Tryd.prog glob 59 (z63 N) :=
  Contract.of (E := E_10 N) (H := t_10 N) (L := L_10) (N := N) (body := zv2) (K := (z4z (.tup []) [(0, .box zf3)] 2)) (z1ma N) Tryd.func59 (by kernel_rfl) (by decide) (fun _ hb => (TabOk.cons (z1ck hb) TabOk.nil)) (fun x y h => by rw [z16q]; exact h) (z3k (s := (.tup [])) (os := [(0, .box zf3)]) (m := 2))

def zoj : Code := (Tryd.f43.body).getD .skip

def L_11 : List (List Nat × List Nat) := [([0], [0, 4, 5, 6]), ([0, 1], [4, 5, 6, 0]), ([0, 1, 1], [4, 5, 7, 6, 0]), ([0, 0, 1, 1, 1], [26, 4, 5, 7, 6, 0]), ([1, 0, 1, 1, 1], [5, 4, 7, 6, 0]), ([0, 1, 0, 1, 1, 1], [5, 4, 7, 6, 0]), ([0, 0, 1, 1, 1, 1], [34, 4, 5, 7, 6, 0]), ([1, 0, 1, 1, 1, 1], [7, 6, 0]), (z12c, [7, 6, 0]), ([0, 1, 1, 1, 1, 1], [6, 0]), ([1, 1, 1, 1, 1, 1], [6, 0])]

def z1mq (N : Nat) : Env := z1s tys glob [(59, z63 N), (60, z5j N)] [] [] [0] false [] []

theorem z1m9 (N : Nat) : EnvOk Tryd.prog (z1mq N) := zf mixed zq (FnsOk.cons (zaz N) (FnsOk.cons (z9o N) (FnsOk.nil))) (ItsOk.nil)

def z6n (N : Nat) (b : z4y) (x4 : z4x) (y : z4x) (x6 : z4x) (k0 : z4x -> Option DT7) : Option DT7 :=
 cond x4.1
 (k0 (y.1, (x4.2.1, (y.2.2.1, ()))))
 (k0 (false, (x4.2.1, (y.2.2.1, ()))))

def z1jl (N : Nat) (x : zz SQ82) (K : Ex -> List A -> Option DT7) : Option DT7 :=
 z6n N x.1 x.2.1 x.2.2.1 x.2.2.2.1 (fun a4 => (K .normal (mkS z1jx 34 (x.1, x.2.1, x.2.2.1, x.2.2.2.1, a4, ()))))

def z1ga (N : Nat) : Hd DT7 := fun st K => (unS SQ82 35 (restr [4, 5, 6, 0] 0 st)).bind fun x => z1jl N x K

def t1_11 (N : Nat) : Tab DT7 := []

theorem z1cj {N : Nat} {c : Ctx} (hb : Base Tryd.prog (z1mq N) c) : zh Tryd.prog c (ze zoj [0, 1, 1]) (z1ga N) :=
  zi (s := SQ82) (m := 35) (g := z1jl N) [4, 5, 6, 0] (zd hb N (t1_11 N) L_11 zoj TabOk.nil [0, 1, 1] _ rfl) (fun x K => by kernel_rfl)

def z6m (N : Nat) (b : z4y) (x4 : z4x) (y : z4x) (x6 : z4x) (whole : z4x) (k0 : z4x -> Option DT7) : Option DT7 :=
 cond x4.1
 ((z25 N x4.2.1 y.2.1).bind fun y1 =>
 k0 (whole.1, (y1, whole.2.2)))
 (k0 whole)

def z1i2 (N : Nat) (x : zz z1jx) (K : Ex -> List A -> Option DT7) : Option DT7 :=
 z6m N x.1 x.2.1 x.2.2.1 x.2.2.2.1 x.2.2.2.2.1 (fun a4 => (K .normal (mkS z1jx 34 (x.1, x.2.1, x.2.2.1, x.2.2.2.1, a4, ()))))

def z1er (N : Nat) : Hd DT7 := fun st K => (unS z1jx 34 (restr [4, 5, 7, 6, 0] 0 st)).bind fun x => z1i2 N x K

def t2_11 (N : Nat) : Tab DT7 := []

theorem z1b0 {N : Nat} {c : Ctx} (hb : Base Tryd.prog (z1mq N) c) : zh Tryd.prog c (ze zoj [0, 1, 1, 1]) (z1er N) :=
  zi (s := z1jx) (m := 34) (g := z1i2 N) [4, 5, 7, 6, 0] (zd hb N (t2_11 N) L_11 zoj TabOk.nil [0, 1, 1, 1] _ rfl) (fun x K => by kernel_rfl)

def z13 (N : Nat) (b : z4y) (x1 : z4x) (y : z4x) : Option DT7 :=
 (z3d N b x1.2.2.1 y.2.1).bind fun y1 =>
 z6n N y1.2.1 x1 y (false, (([] : List Int), (([] : List Int), ())))
 (fun whole => z6m N y1.2.1 x1 y (false, (([] : List Int), (([] : List Int), ()))) whole
 (fun whole1 => cond y.1
 ((z25 N x1.2.2.1 y.2.2.1).bind fun y2 =>
 some ((whole1.1, (whole1.2.1, (y2, whole1.2.2.2))), (y1.2.1, ())))
 (some (whole1, (y1.2.1, ())))))

def t_11 (N : Nat) : Tab DT7 := [([0, 1, 1], z1ga N), ([0, 1, 1, 1], z1er N)]

theorem z16p (N : Nat) (x : zz [(0, .box zf3), (0, .v TT8), (0, .v TT8)]) : z6k (z1mq N) N (t_11 N) L_11 Tryd.f43 (mkS [(0, .box zf3), (0, .v TT8), (0, .v TT8)] 0 x) (z4z (.v TT8) [(0, .box zf3)] 2) = z13 N x.1 x.2.1 x.2.2.1 := by kernel_rfl

def z62 (N : Nat) : List A -> Res := zu [(0, .box zf3), (0, .v TT8), (0, .v TT8)] (fun x => z13 N x.1 x.2.1 x.2.2.1) (z5f (.v TT8) [(0, .box zf3)] 2)

theorem zaw (N : Nat) : Contract Tryd.prog glob 43 (z62 N) :=
  Contract.of (E := z1mq N) (H := t_11 N) (L := L_11) (N := N) (body := zoj) (K := (z4z (.v TT8) [(0, .box zf3)] 2)) (z1m9 N) Tryd.func43 (by kernel_rfl) (by decide) (fun _ hb => (TabOk.cons (z1cj hb) (TabOk.cons (z1b0 hb) TabOk.nil))) (fun x y h => by rw [z16p]; exact h) (z3k (s := (.v TT8)) (os := [(0, .box zf3)]) (m := 2))

def z17g : Code := (Tryd.f44.body).getD .skip

def L_12 : List (List Nat × List Nat) := [([0], [2, 3, 4]), ([0, 1], [4]), ([1, 1], [4])]

def E_12 (N : Nat) : Env := z1s tys glob [(60, z5j N)] [] [] [] false [] []

theorem z1m8 (N : Nat) : EnvOk Tryd.prog (E_12 N) := zf mixed zq (FnsOk.cons (z9o N) (FnsOk.nil)) (ItsOk.nil)

def zav (N : Nat) (x0 : z4x) (y : z4x) : Option z4x :=
 cond x0.1
 ((z25 N x0.2.1 y.2.1).bind fun y1 =>
 (z25 N x0.2.2.1 y.2.2.1).bind fun y2 =>
 some (true, (y1, (y2, ()))))
 ((z25 N x0.2.1 y.2.1).bind fun y3 =>
 (z25 N x0.2.2.1 y.2.2.1).bind fun y4 =>
 some (y.1, (y3, (y4, ()))))

def t_12 (N : Nat) : Tab z4x := []

theorem z16o (N : Nat) (x : zz [(0, .v TT8), (0, .v TT8)]) : z6k (E_12 N) N (t_12 N) L_12 Tryd.f44 (mkS [(0, .v TT8), (0, .v TT8)] 0 x) (z4b (.v TT8) 2) = zav N x.1 x.2.1 := by kernel_rfl

def zg4 (N : Nat) : List A -> Res := zu [(0, .v TT8), (0, .v TT8)] (fun x => zav N x.1 x.2.1) (z75 (.v TT8) 2)

theorem zmq (N : Nat) : Contract Tryd.prog glob 44 (zg4 N) :=
  Contract.of (E := E_12 N) (H := t_12 N) (L := L_12) (N := N) (body := z17g) (K := (z4b (.v TT8) 2)) (z1m8 N) Tryd.func44 (by kernel_rfl) (by decide) (fun _ hb => TabOk.nil) (fun x y h => by rw [z16o]; exact h) (z1b (s := (.v TT8)) (m := 2))

abbrev zb : Type := z4y -> DT1 -> Option DT7

def zg0 : Code := (Tryd.f45.body).getD .skip

def z18l : List (List Nat × List Nat) := [([0], [0, 3, 4]), ([0, 1], [0, 3, 5, 4]), ([0, 1, 1], [0, 5, 4, 6, 3]), ([0, 0, 1, 1, 1], [30, 4, 0, 6, 3]), ([1, 0, 1, 1, 1], [6, 3, 0, 4]), (zxx, [4, 0]), (z13d, [4, 0]), ([0, 0, 1, 1, 1, 1], [6, 3, 0, 4]), (z10q, [36, 6, 0, 3, 4]), (z10p, [6, 0, 3, 4]), (z1k0, [6, 3, 0, 4]), ([0, 1, 0, 0, 0, 1, 1, 1, 1], [6, 3, 0, 4]), (z10l, [6, 3, 0, 4]), ([0, 1, 1, 1, 1], [6, 3, 0, 4]), ([0, 1, 1, 1, 1, 1], [6, 3, 0, 7, 4]), (z10o, [8, 3, 0, 6, 7, 4]), (z13f, [8, 3, 0, 6, 7, 4]), ([0, 0, 0, 0, 1, 0, 1, 1, 1, 1, 1, 1], [53, 0, 6, 8, 7, 3, 4]), ([1, 0, 0, 0, 1, 0, 1, 1, 1, 1, 1, 1], [0, 6, 8, 7, 3, 4]), ([1, 1, 0, 0, 0, 1, 0, 1, 1, 1, 1, 1, 1], [3, 0, 7, 6, 4]), (z1k5, [7, 8, 3, 0, 6, 4]), ([1, 0, 0, 1, 0, 0, 1, 0, 1, 1, 1, 1, 1, 1], [8, 3, 0, 6, 7, 4]), (z1k3, [8, 3, 0, 6, 7, 4]), ([1, 1, 0, 0, 1, 0, 1, 1, 1, 1, 1, 1], [8, 3, 0, 6, 7, 4]), (z10n, [3, 0, 7, 6, 4]), ([0, 0, 1, 1, 1, 1, 1, 1, 1], [66, 0, 7, 6, 3, 4]), ([1, 0, 1, 1, 1, 1, 1, 1, 1], [6, 3, 0, 7, 4]), ([0, 1, 0, 1, 1, 1, 1, 1, 1, 1], [6, 3, 0, 7, 4]), ([0, 1, 1, 1, 1, 1, 1, 1, 1], [6, 3, 0, 9, 7, 4]), ([0, 0, 1, 1, 1, 1, 1, 1, 1, 1, 1], z17m), ([0, 1, 0, 1, 1, 1, 1, 1, 1, 1, 1, 1], z17m), ([0, 0, 0, 1, 0, 1, 1, 1, 1, 1, 1, 1, 1, 1], [80, 77, 79, 0, 9, 78, 7, 4]), ([0, 1, 0, 0, 1, 0, 1, 1, 1, 1, 1, 1, 1, 1, 1], [77, 79, 0, 9, 78, 7, 4]), ([1, 0, 1, 0, 0, 1, 0, 1, 1, 1, 1, 1, 1, 1, 1, 1], [0, 9, 7, 4]), ([0, 0, 0, 1, 1, 0, 0, 1, 0, 1, 1, 1, 1, 1, 1, 1, 1, 1], [0, 9, 11, 79, 78, 77, 7, 4]), ([1, 0, 0, 1, 1, 0, 0, 1, 0, 1, 1, 1, 1, 1, 1, 1, 1, 1], z17m), ([0, 1, 1, 0, 0, 1, 0, 1, 1, 1, 1, 1, 1, 1, 1, 1], z17m), ([1, 1, 1, 0, 0, 1, 0, 1, 1, 1, 1, 1, 1, 1, 1, 1], z17m), ([1, 0, 1, 1, 1, 1, 1, 1, 1, 1, 1], [0, 9, 7, 4]), ([0, 1, 1, 1, 1, 1, 1, 1, 1, 1, 1], [4, 0]), ([1, 1, 1, 1, 1, 1, 1, 1, 1, 1, 1], [4, 0])]

def z17w (N : Nat) (self : zb) : Env := z1s tys glob [(43, z62 N), (59, z63 N), (42, zag N), (37, zbd N), (24, zu z10j (fun x => self x.1 x.2.1) (z5f (.v TT8) [(0, .box zf3)] 1))] [(6, TT8)] [] [0] false [] []

theorem z1m7 (N : Nat) (self : zb) (hself : Contract Tryd.prog glob 24 (zu z10j (fun x => self x.1 x.2.1) (z5f (.v TT8) [(0, .box zf3)] 1))) : EnvOk Tryd.prog (z17w N self) := zf mixed zq (FnsOk.cons (zaw N) (FnsOk.cons (zaz N) (FnsOk.cons (zg3 N) (FnsOk.cons (zgn N) (FnsOk.cons (hself) (FnsOk.nil)))))) (ItsOk.nil)

def z2v (N : Nat) (self : zb) (n : DT1) (x4 : z4x) (b : z4y) (parts : (List z4x)) (rec : z4y -> (List z4x) -> Option DT7) (k0 : z4y -> (List z4x) -> Option DT7) : Option DT7 :=
 (z8x N n).bind fun y =>
 cond (decide ((((List.length parts) : Nat) : Int) < y))
 (cond (inR (0 : Int) (List.length n.2.2.1))
 ((self b (unN (List.getD n.2.2.1 0 (Tree.mk (0 : Int) ([] : List Int) ([] : List Tree) (0 : Int) (0 : Int))))).bind fun y1 =>
 cond (decide ((((List.length parts) + 1) * 56) <= 70368744177664))
 (rec y1.2.1 (parts ++ ([y1.1] : List z4x)))
 (none))
 (none))
 (k0 b parts)

def zbh (N : Nat) (self : zb) (b : z4y) (n : DT1) (x4 : z4x) (parts : (List z4x)) (k0 : z4y -> (List z4x) -> Option DT7) : Option DT7 :=
 iter (fun (v : (z4y × (List z4x))) r => z2v N self n x4 v.1 v.2 (fun b parts => (r (b, parts))) k0) N (b, parts)

def z1jk (N : Nat) (self : zb) (i : (DT1 × z4x)) (v : (z4y × (List z4x))) (r : (z4y × (List z4x)) -> Option DT7) (K : Ex -> List A -> Option DT7) : Option DT7 :=
 z2v N self i.1 i.2 v.1 v.2 (fun b parts => (r (b, parts))) (fun a0 a3 => (K (.exit 0) (mkS SQ83 85 (a0, i.1, i.2, a3, ()))))

def z1g9 (N : Nat) (self : zb) : Hd DT7 := fun st K => (unS SQ83 85 (restr [6, 3, 0, 4] 0 st)).bind fun x => iter (fun v r => z1jk N self ((fun x => (x.2.1, x.2.2.1)) x) v r K) N ((fun x => (x.1, x.2.2.2.1)) x)

def t1_13 (N : Nat) (self : zb) : Tab DT7 := []

theorem z1ci {N : Nat} {self : zb} {c : Ctx} (hb : Base Tryd.prog (z17w N self) c) : zh Tryd.prog c (ze zg0 [0, 0, 1, 1, 1, 1]) (z1g9 N self) :=
  z1w (s := SQ83) (m := 85) (z1jk N self) [6, 3, 0, 4] N (fun x => (x.2.1, x.2.2.1)) (fun x => (x.1, x.2.2.2.1)) (fun i v => (v.1, i.1, i.2, v.2, ())) (fun _ => rfl) (zd hb N (t1_13 N self) z18l zg0 TabOk.nil [0, 0, 0, 1, 1, 1, 1] _ rfl) (fun i v r K => by kernel_rfl)

def z2u (N : Nat) (self : zb) (n : DT1) (x4 : z4x) (parts : (List z4x)) (b : z4y) (tail : z4x) (i : Int) (rec : z4y -> z4x -> Int -> Option DT7) (k0 : z4y -> z4x -> Option DT7) : Option DT7 :=
 cond (decide (n.2.2.2.1 <= i))
 (cond (inR i (List.length parts))
 (cond (decide ((Int.toNat i) < (List.length parts)))
 ((z13 N b (List.getD parts (Int.toNat i) (false, (([] : List Int), (([] : List Int), ())))) tail).bind fun y =>
 rec y.2.1 (true, y.1.2) (IntKind.wrap IntKind.i64 (i - (1 : Int))))
 (none))
 (none))
 (k0 b tail)

def z7l (N : Nat) (self : zb) (b : z4y) (n : DT1) (x4 : z4x) (parts : (List z4x)) (tail : z4x) (i : Int) (k0 : z4y -> z4x -> Option DT7) : Option DT7 :=
 iter (fun (v : (z4y × z4x × Int)) r => z2u N self n x4 parts v.1 v.2.1 v.2.2 (fun b tail i => (r (b, tail, i))) k0) N (b, tail, i)

def z1i1 (N : Nat) (self : zb) (i : (DT1 × z4x × (List z4x))) (v : (z4y × z4x × Int)) (r : (z4y × z4x × Int) -> Option DT7) (K : Ex -> List A -> Option DT7) : Option DT7 :=
 z2u N self i.1 i.2.1 i.2.2 v.1 v.2.1 v.2.2 (fun b tail i => (r (b, tail, i))) (fun a0 a4 => (K (.exit 2) (mkS z1jw 84 (a0, i.1, i.2.1, i.2.2, a4, ()))))

def z1eq (N : Nat) (self : zb) : Hd DT7 := fun st K => (unS SQ74 83 (restr [8, 3, 0, 6, 7, 4] 0 st)).bind fun x => iter (fun v r => z1i1 N self ((fun x => (x.2.1, x.2.2.1, x.2.2.2.1)) x) v r K) N ((fun x => (x.1, x.2.2.2.2.1, x.2.2.2.2.2.1)) x)

def t2_13 (N : Nat) (self : zb) : Tab DT7 := []

theorem z1az {N : Nat} {self : zb} {c : Ctx} (hb : Base Tryd.prog (z17w N self) c) : zh Tryd.prog c (ze zg0 z13f) (z1eq N self) :=
  z1w (s := SQ74) (m := 83) (z1i1 N self) [8, 3, 0, 6, 7, 4] N (fun x => (x.2.1, x.2.2.1, x.2.2.2.1)) (fun x => (x.1, x.2.2.2.2.1, x.2.2.2.2.2.1)) (fun i v => (v.1, i.1, i.2.1, i.2.2, v.2.1, v.2.2, ())) (fun _ => rfl) (zd hb N (t2_13 N self) z18l zg0 TabOk.nil [0, 0, 1, 0, 1, 1, 1, 1, 1, 1] _ rfl) (fun i v r K => by kernel_rfl)

def z3p (N : Nat) (self : zb) (b : z4y) (n : DT1) (x4 : z4x) (parts : (List z4x)) (tail : z4x) (k0 : z4y -> Option DT7) : Option DT7 :=
 cond (n.2.2.2.2.1 == (-(1 : Int)))
 ((z3d N b tail.2.2.1 tail.2.1).bind fun y =>
 k0 y.2.1)
 (k0 b)

def z1h8 (N : Nat) (self : zb) (x : zz z1jw) (K : Ex -> List A -> Option DT7) : Option DT7 :=
 z3p N self x.1 x.2.1 x.2.2.1 x.2.2.2.1 x.2.2.2.2.1 (fun a0 => (K .normal (mkS z1jw 84 (a0, x.2.1, x.2.2.1, x.2.2.2.1, x.2.2.2.2.1, ()))))

def z1dx (N : Nat) (self : zb) : Hd DT7 := fun st K => (unS z1jw 84 (restr [3, 0, 7, 6, 4] 0 st)).bind fun x => z1h8 N self x K

def t3_13 (N : Nat) (self : zb) : Tab DT7 := []

theorem z1a6 {N : Nat} {self : zb} {c : Ctx} (hb : Base Tryd.prog (z17w N self) c) : zh Tryd.prog c (ze zg0 z10k) (z1dx N self) :=
  zi (s := z1jw) (m := 84) (g := z1h8 N self) [3, 0, 7, 6, 4] (zd hb N (t3_13 N self) z18l zg0 TabOk.nil z10k _ rfl) (fun x K => by kernel_rfl)

def z2t (N : Nat) (self : zb) (x4 : z4x) (tail : z4x) (x77 : (List z4x)) (x78 : Int) (b : z4y) (whole : z4x) (x79 : Int) (rec : z4y -> z4x -> Int -> Option DT7) (k0 : z4y -> z4x -> Option DT7) : Option DT7 :=
 cond (decide (x79 < x78))
 (cond (inR x79 (List.length x77))
 ((z13 N b whole (List.getD x77 (Int.toNat x79) (false, (([] : List Int), (([] : List Int), ()))))).bind fun y =>
 rec y.2.1 y.1 (IntKind.wrap IntKind.i64 (x79 + (1 : Int))))
 (none))
 (k0 b whole)

def z3o (N : Nat) (self : zb) (b : z4y) (x4 : z4x) (tail : z4x) (whole : z4x) (x77 : (List z4x)) (x78 : Int) (x79 : Int) (k0 : z4y -> z4x -> Option DT7) : Option DT7 :=
 iter (fun (v : (z4y × z4x × Int)) r => z2t N self x4 tail x77 x78 v.1 v.2.1 v.2.2 (fun b whole x79 => (r (b, whole, x79))) k0) N (b, whole, x79)

def z1gu (N : Nat) (self : zb) (i : (z4x × z4x × (List z4x) × Int)) (v : (z4y × z4x × Int)) (r : (z4y × z4x × Int) -> Option DT7) (K : Ex -> List A -> Option DT7) : Option DT7 :=
 z2t N self i.1 i.2.1 i.2.2.1 i.2.2.2 v.1 v.2.1 v.2.2 (fun b whole x79 => (r (b, whole, x79))) (fun a0 a3 => (K (.exit 4) (mkS [(0, .box zf3), (3, .box TT8), (2, .box TT8), (1, .box TT8)] 82 (a0, i.1, i.2.1, a3, ()))))

def z1dj (N : Nat) (self : zb) : Hd DT7 := fun st K => (unS SQ49 12 (restr z17m 0 st)).bind fun x => iter (fun v r => z1gu N self ((fun x => (x.2.1, x.2.2.1, x.2.2.2.2.1, x.2.2.2.2.2.1)) x) v r K) N ((fun x => (x.1, x.2.2.2.1, x.2.2.2.2.2.2.1)) x)

def t4_13 (N : Nat) (self : zb) : Tab DT7 := []

theorem z19s {N : Nat} {self : zb} {c : Ctx} (hb : Base Tryd.prog (z17w N self) c) : zh Tryd.prog c (ze zg0 [0, 1, 0, 1, 1, 1, 1, 1, 1, 1, 1, 1]) (z1dj N self) :=
  z1w (s := SQ49) (m := 12) (z1gu N self) z17m N (fun x => (x.2.1, x.2.2.1, x.2.2.2.2.1, x.2.2.2.2.2.1)) (fun x => (x.1, x.2.2.2.1, x.2.2.2.2.2.2.1)) (fun i v => (v.1, i.1, i.2.1, v.2.1, i.2.2.1, i.2.2.2, v.2.2, ())) (fun _ => rfl) (zd hb N (t4_13 N self) z18l zg0 TabOk.nil [0, 0, 1, 0, 1, 1, 1, 1, 1, 1, 1, 1, 1] _ rfl) (fun i v r K => by kernel_rfl)

def z57 (N : Nat) (self : zb) (b : z4y) (n : DT1) : Option DT7 :=
 cond (inR (0 : Int) (List.length n.2.2.1))
 ((self b (unN (List.getD n.2.2.1 0 (Tree.mk (0 : Int) ([] : List Int) ([] : List Tree) (0 : Int) (0 : Int))))).bind fun y =>
 cond ((((List.length y.2.1.1) : Nat) : Int) == (((List.length b.1) : Nat) : Int))
 (some ((true, (([] : List Int), (([] : List Int), ()))), (y.2.1, ())))
 (zbh N self y.2.1 n (false, (([] : List Int), (([] : List Int), ()))) ([y.1] : List z4x)
 (fun b1 parts => z7l N self b1 n (false, (([] : List Int), (([] : List Int), ()))) parts (true, (([] : List Int), (([] : List Int), ()))) (IntKind.wrap IntKind.i64 ((((List.length parts) : Nat) : Int) - (1 : Int)))
 (fun b2 tail => z3p N self b2 n (false, (([] : List Int), (([] : List Int), ()))) parts tail
 (fun b3 => cond (decide (((0 : Int) <= n.2.2.2.1) /\ (n.2.2.2.1 <= (((List.length parts) : Nat) : Int))))
 (z3o N self b3 (false, (([] : List Int), (([] : List Int), ()))) tail (true, (([] : List Int), (([] : List Int), ()))) (cut parts 0 (Int.toNat n.2.2.2.1)) (((List.length (cut parts 0 (Int.toNat n.2.2.2.1))) : Nat) : Int) (0 : Int)
 (fun b4 whole => (z13 N b4 whole tail).bind fun y1 =>
 some (y1.1, (y1.2.1, ()))))
 (none))))))
 (none)

def t_13 (N : Nat) (self : zb) : Tab DT7 := [([0, 0, 1, 1, 1, 1], z1g9 N self), (z13f, z1eq N self), (z10k, z1dx N self), ([0, 1, 0, 1, 1, 1, 1, 1, 1, 1, 1, 1], z1dj N self)]

theorem z16n (N : Nat) (self : zb) (x : zz z10j) : z6k (z17w N self) N (t_13 N self) z18l Tryd.f45 (mkS z10j 0 x) (z4z (.v TT8) [(0, .box zf3)] 1) = z57 N self x.1 x.2.1 := by kernel_rfl

def zax (N : Nat) (self : zb) : List A -> Res := zu z10j (fun x => z57 N self x.1 x.2.1) (z5f (.v TT8) [(0, .box zf3)] 1)

theorem zi1 (N : Nat) (self : zb) (hself : Contract Tryd.prog glob 24 (zu z10j (fun x => self x.1 x.2.1) (z5f (.v TT8) [(0, .box zf3)] 1))) : Contract Tryd.prog glob 45 (zax N self) :=
  Contract.of (E := z17w N self) (H := t_13 N self) (L := z18l) (N := N) (body := zg0) (K := (z4z (.v TT8) [(0, .box zf3)] 1)) (z1m7 N self hself) Tryd.func45 (by kernel_rfl) (by decide) (fun _ hb => (TabOk.cons (z1ci hb) (TabOk.cons (z1az hb) (TabOk.cons (z1a6 hb) (TabOk.cons (z19s hb) TabOk.nil))))) (fun x y h => by rw [z16n]; exact h) (z3k (s := (.v TT8)) (os := [(0, .box zf3)]) (m := 1))

def zlh : Code := (Tryd.f24.body).getD .skip

def L_14 : List (List Nat × List Nat) := [([0], [3, 0, 4]), ([0, 0, 1], [13, 0, 3, 4]), ([0, 0, 1, 0, 1], [14, 0, 3, 4, 13]), ([1, 0, 1, 0, 1], [0, 3, 4]), ([0, 1, 1, 0, 1, 0, 1], [46, 3, 0, 4, 13]), ([1, 1, 1, 0, 1, 0, 1], [0, 3, 4]), ([0, 1, 1, 1, 1, 0, 1, 0, 1], [64, 3, 0, 4]), ([1, 1, 1, 1, 1, 0, 1, 0, 1], [0, 3, 4]), ([0, 0, 1, 1, 1, 1, 1, 0, 1, 0, 1], [3, 9, 0, 4]), ([0, 0, 1, 0, 1, 1, 1, 1, 1, 0, 1, 0, 1], z17l), (z17p, z17l), ([0, 0, 0, 1, 0, 1, 0, 1, 1, 1, 1, 1, 0, 1, 0, 1], [71, 68, 70, 9, 0, 69, 4]), ([0, 1, 0, 0, 1, 0, 1, 0, 1, 1, 1, 1, 1, 0, 1, 0, 1], [68, 70, 9, 0, 69, 4]), ([1, 0, 1, 0, 0, 1, 0, 1, 0, 1, 1, 1, 1, 1, 0, 1, 0, 1], [9, 4, 0]), ([0, 0, 0, 1, 1, 0, 0, 1, 0, 1, 0, 1, 1, 1, 1, 1, 0, 1, 0, 1], [9, 0, 11, 70, 69, 68, 4]), ([1, 0, 0, 1, 1, 0, 0, 1, 0, 1, 0, 1, 1, 1, 1, 1, 0, 1, 0, 1], z17l), ([0, 1, 1, 0, 0, 1, 0, 1, 0, 1, 1, 1, 1, 1, 0, 1, 0, 1], z17l), ([1, 1, 1, 0, 0, 1, 0, 1, 0, 1, 1, 1, 1, 1, 0, 1, 0, 1], z17l), ([1, 0, 1, 0, 1, 1, 1, 1, 1, 0, 1, 0, 1], [9, 4, 0]), ([0, 1, 1, 0, 1, 1, 1, 1, 1, 0, 1, 0, 1], [4, 0]), ([1, 1, 1, 0, 1, 1, 1, 1, 1, 0, 1, 0, 1], [4, 0]), ([0, 0, 1, 1, 1, 0, 1, 0, 1], [3, 0, 6, 4]), ([0, 0, 1, 0, 1, 1, 1, 0, 1, 0, 1], z17k), ([0, 1, 0, 1, 0, 1, 1, 1, 0, 1, 0, 1], z17k), ([0, 0, 0, 1, 0, 1, 0, 1, 1, 1, 0, 1, 0, 1], [53, 50, 52, 0, 6, 51, 4]), ([0, 1, 0, 0, 1, 0, 1, 0, 1, 1, 1, 0, 1, 0, 1], [50, 52, 0, 6, 51, 4]), ([1, 0, 1, 0, 0, 1, 0, 1, 0, 1, 1, 1, 0, 1, 0, 1], [6, 4, 0]), ([0, 0, 0, 1, 1, 0, 0, 1, 0, 1, 0, 1, 1, 1, 0, 1, 0, 1], [0, 6, 8, 52, 51, 50, 4]), ([1, 0, 0, 1, 1, 0, 0, 1, 0, 1, 0, 1, 1, 1, 0, 1, 0, 1], z17k), ([0, 1, 1, 0, 0, 1, 0, 1, 0, 1, 1, 1, 0, 1, 0, 1], z17k), ([1, 1, 1, 0, 0, 1, 0, 1, 0, 1, 1, 1, 0, 1, 0, 1], z17k), ([1, 0, 1, 0, 1, 1, 1, 0, 1, 0, 1], [6, 4, 0]), ([0, 1, 1, 0, 1, 1, 1, 0, 1, 0, 1], [4, 0]), ([1, 1, 1, 0, 1, 1, 1, 0, 1, 0, 1], [4, 0]), ([0, 0, 1, 0, 1, 0, 1], [0, 3, 5, 4]), ([0, 1, 0, 1, 0, 1, 0, 1], [0, 5, 4]), ([0, 1, 1, 0, 1, 0, 1, 0, 1], [5, 4, 0]), ([0, 1, 1, 1, 0, 1, 0, 1, 0, 1], [4, 0]), ([1, 1, 1, 1, 0, 1, 0, 1, 0, 1], [4, 0]), ([1, 0, 1], [0, 3, 4]), ([0, 1, 1], [4, 0]), ([1, 1, 1], [4, 0])]

def z1mp (N : Nat) (self : z4y -> DT1 -> Option DT7) : Env := z1s tys glob [(45, zax N self), (44, zg4 N), (43, z62 N), (42, zag N), (24, zu z10j (fun x => self x.1 x.2.1) (z5f (.v TT8) [(0, .box zf3)] 1))] [] [] [0] false [] []

theorem z1m6 (N : Nat) (self : z4y -> DT1 -> Option DT7) (hself : Contract Tryd.prog glob 24 (zu z10j (fun x => self x.1 x.2.1) (z5f (.v TT8) [(0, .box zf3)] 1))) : EnvOk Tryd.prog (z1mp N self) := zf mixed zq (FnsOk.cons (zi1 N self hself) (FnsOk.cons (zmq N) (FnsOk.cons (zaw N) (FnsOk.cons (zg3 N) (FnsOk.cons (hself) (FnsOk.nil)))))) (ItsOk.nil)

def z2o (N : Nat) (self : z4y -> DT1 -> Option DT7) (x4 : z4x) (x50 : (List Tree)) (x51 : Int) (b : z4y) (whole : z4x) (x52 : Int) (rec : z4y -> z4x -> Int -> Option DT7) (k0 : z4y -> z4x -> Option DT7) : Option DT7 :=
 cond (decide (x52 < x51))
 (cond (inR x52 (List.length x50))
 ((self b (unN (List.getD x50 (Int.toNat x52) (Tree.mk (0 : Int) ([] : List Int) ([] : List Tree) (0 : Int) (0 : Int))))).bind fun y =>
 (z13 N y.2.1 whole y.1).bind fun y1 =>
 rec y1.2.1 y1.1 (IntKind.wrap IntKind.i64 (x52 + (1 : Int))))
 (none))
 (k0 b whole)

def z9q (N : Nat) (self : z4y -> DT1 -> Option DT7) (b : z4y) (x4 : z4x) (whole : z4x) (x50 : (List Tree)) (x51 : Int) (x52 : Int) (k0 : z4y -> z4x -> Option DT7) : Option DT7 :=
 iter (fun (v : (z4y × z4x × Int)) r => z2o N self x4 x50 x51 v.1 v.2.1 v.2.2 (fun b whole x52 => (r (b, whole, x52))) k0) N (b, whole, x52)

def z1jj (N : Nat) (self : z4y -> DT1 -> Option DT7) (i : (z4x × (List Tree) × Int)) (v : (z4y × z4x × Int)) (r : (z4y × z4x × Int) -> Option DT7) (K : Ex -> List A -> Option DT7) : Option DT7 :=
 z2o N self i.1 i.2.1 i.2.2 v.1 v.2.1 v.2.2 (fun b whole x52 => (r (b, whole, x52))) (fun a0 a2 => (K (.exit 1) (mkS [(0, .box zf3), (3, .box TT8), (1, .box TT8)] 77 (a0, i.1, a2, ()))))

def z1g8 (N : Nat) (self : z4y -> DT1 -> Option DT7) : Hd DT7 := fun st K => (unS SQ63 31 (restr z17k 0 st)).bind fun x => iter (fun v r => z1jj N self ((fun x => (x.2.1, x.2.2.2.1, x.2.2.2.2.1)) x) v r K) N ((fun x => (x.1, x.2.2.1, x.2.2.2.2.2.1)) x)

def t1_14 (N : Nat) (self : z4y -> DT1 -> Option DT7) : Tab DT7 := []

theorem z1ch {N : Nat} {self : z4y -> DT1 -> Option DT7} {c : Ctx} (hb : Base Tryd.prog (z1mp N self) c) : zh Tryd.prog c (ze zlh [0, 1, 0, 1, 0, 1, 1, 1, 0, 1, 0, 1]) (z1g8 N self) :=
  z1w (s := SQ63) (m := 31) (z1jj N self) z17k N (fun x => (x.2.1, x.2.2.2.1, x.2.2.2.2.1)) (fun x => (x.1, x.2.2.1, x.2.2.2.2.2.1)) (fun i v => (v.1, i.1, v.2.1, i.2.1, i.2.2, v.2.2, ())) (fun _ => rfl) (zd hb N (t1_14 N self) L_14 zlh TabOk.nil [0, 0, 1, 0, 1, 0, 1, 1, 1, 0, 1, 0, 1] _ rfl) (fun i v r K => by kernel_rfl)

def z2n (N : Nat) (self : z4y -> DT1 -> Option DT7) (x4 : z4x) (x68 : (List Tree)) (x69 : Int) (b : z4y) (whole : z4x) (x70 : Int) (rec : z4y -> z4x -> Int -> Option DT7) (k0 : z4y -> z4x -> Option DT7) : Option DT7 :=
 cond (decide (x70 < x69))
 (cond (inR x70 (List.length x68))
 ((self b (unN (List.getD x68 (Int.toNat x70) (Tree.mk (0 : Int) ([] : List Int) ([] : List Tree) (0 : Int) (0 : Int))))).bind fun y =>
 (zav N whole y.1).bind fun y1 =>
 rec y.2.1 y1 (IntKind.wrap IntKind.i64 (x70 + (1 : Int))))
 (none))
 (k0 b whole)

def z9p (N : Nat) (self : z4y -> DT1 -> Option DT7) (b : z4y) (x4 : z4x) (whole : z4x) (x68 : (List Tree)) (x69 : Int) (x70 : Int) (k0 : z4y -> z4x -> Option DT7) : Option DT7 :=
 iter (fun (v : (z4y × z4x × Int)) r => z2n N self x4 x68 x69 v.1 v.2.1 v.2.2 (fun b whole x70 => (r (b, whole, x70))) k0) N (b, whole, x70)

def z1i0 (N : Nat) (self : z4y -> DT1 -> Option DT7) (i : (z4x × (List Tree) × Int)) (v : (z4y × z4x × Int)) (r : (z4y × z4x × Int) -> Option DT7) (K : Ex -> List A -> Option DT7) : Option DT7 :=
 z2n N self i.1 i.2.1 i.2.2 v.1 v.2.1 v.2.2 (fun b whole x70 => (r (b, whole, x70))) (fun a0 a2 => (K (.exit 3) (mkS [(0, .box zf3), (3, .box TT8), (4, .box TT8)] 74 (a0, i.1, a2, ()))))

def z1ep (N : Nat) (self : z4y -> DT1 -> Option DT7) : Hd DT7 := fun st K => (unS SQ64 13 (restr z17l 0 st)).bind fun x => iter (fun v r => z1i0 N self ((fun x => (x.2.1, x.2.2.2.1, x.2.2.2.2.1)) x) v r K) N ((fun x => (x.1, x.2.2.1, x.2.2.2.2.2.1)) x)

def t2_14 (N : Nat) (self : z4y -> DT1 -> Option DT7) : Tab DT7 := []

theorem z1ay {N : Nat} {self : z4y -> DT1 -> Option DT7} {c : Ctx} (hb : Base Tryd.prog (z1mp N self) c) : zh Tryd.prog c (ze zlh z17p) (z1ep N self) :=
  z1w (s := SQ64) (m := 13) (z1i0 N self) z17l N (fun x => (x.2.1, x.2.2.2.1, x.2.2.2.2.1)) (fun x => (x.1, x.2.2.1, x.2.2.2.2.2.1)) (fun i v => (v.1, i.1, v.2.1, i.2.1, i.2.2, v.2.2, ())) (fun _ => rfl) (zd hb N (t2_14 N self) L_14 zlh TabOk.nil [0, 0, 1, 0, 1, 0, 1, 1, 1, 1, 1, 0, 1, 0, 1] _ rfl) (fun i v r K => by kernel_rfl)

def z48 (N : Nat) (self : z4y -> DT1 -> Option DT7) (b : z4y) (n : DT1) : Option DT7 :=
 cond (n.1 == (1 : Int))
 (cond (decide ((((List.length b.1) + 1) * 32) <= 70368744177664))
 (cond (decide ((((List.length b.2.1) + 1) * 24) <= 70368744177664))
 (some ((false, (([(((List.length b.1) : Nat) : Int)] : List Int), (([(((List.length b.1) : Nat) : Int)] : List Int), ()))), (((b.1 ++ ([n.2.1] : List (List Int))), ((b.2.1 ++ ([([] : List Int)] : List (List Int))), b.2.2)), ())))
 (none))
 (none))
 (cond (n.1 == (2 : Int))
 (z9q N self b (false, (([] : List Int), (([] : List Int), ()))) (true, (([] : List Int), (([] : List Int), ()))) n.2.2.1 (((List.length n.2.2.1) : Nat) : Int) (0 : Int)
 (fun b1 whole => some (whole, (b1, ()))))
 (cond (n.1 == (3 : Int))
 (z9p N self b (false, (([] : List Int), (([] : List Int), ()))) (false, (([] : List Int), (([] : List Int), ()))) n.2.2.1 (((List.length n.2.2.1) : Nat) : Int) (0 : Int)
 (fun b2 whole1 => some (whole1, (b2, ()))))
 ((z57 N self b n).bind fun y =>
 some (y.1, (y.2.1, ())))))

def t_14 (N : Nat) (self : z4y -> DT1 -> Option DT7) : Tab DT7 := [([0, 1, 0, 1, 0, 1, 1, 1, 0, 1, 0, 1], z1g8 N self), (z17p, z1ep N self)]

theorem z16m (N : Nat) (self : z4y -> DT1 -> Option DT7) (x : zz z10j) : z6k (z1mp N self) N (t_14 N self) L_14 Tryd.f24 (mkS z10j 0 x) (z4z (.v TT8) [(0, .box zf3)] 1) = z48 N self x.1 x.2.1 := by kernel_rfl

def z16 : Nat -> z4y -> DT1 -> Option DT7
  | 0 => fun _ _ => none
  | N + 1 => z48 (N + 1) (z16 N)

def z8y (N : Nat) : List A -> Res := zu z10j (fun x => z16 N x.1 x.2.1) (z5f (.v TT8) [(0, .box zf3)] 1)

theorem z9r : ∀ N : Nat, Contract Tryd.prog glob 24 (z8y N)
  | 0 => Contract.zero Tryd.func24 (body := zlh) (by kernel_rfl) (by decide) (fun _ => rfl)
  | N + 1 => Contract.of (E := z1mp (N + 1) (z16 N)) (H := t_14 (N + 1) (z16 N)) (L := L_14) (N := (N + 1)) (body := zlh) (K := (z4z (.v TT8) [(0, .box zf3)] 1)) (z1m6 (N + 1) (z16 N) (z9r N)) Tryd.func24 (by kernel_rfl) (by decide) (fun _ hb => (TabOk.cons (z1ch hb) (TabOk.cons (z1ay hb) TabOk.nil))) (fun x y h => by rw [z16m]; exact h) (z3k (s := (.v TT8)) (os := [(0, .box zf3)]) (m := 1))

def z17f : Code := (Tryd.f10.body).getD .skip

def L_15 : List (List Nat × List Nat) := [([0], [1, 2]), ([0, 0, 1], [8, 2, 1]), ([1, 0, 1], [1, 2]), ([0, 0, 1, 0, 1], [2, 3]), ([1, 0, 1, 0, 1], [2, 3]), ([0, 0, 1, 1], [12, 2, 1]), ([1, 0, 1, 1], [1, 2]), ([0, 0, 1, 0, 1, 1], [2, 3]), ([1, 0, 1, 0, 1, 1], [2, 3]), ([0, 1, 1, 1], [4, 1, 2]), ([0, 1, 1, 1, 1], [4, 5, 2]), ([0, 1, 1, 1, 1, 1], [2, 3]), ([1, 1, 1, 1, 1, 1], [2, 3])]

def E_15 (N : Nat) : Env := z1s tys glob [(24, z8y N), (20, zco N), (17, zd8 N)] [] [] [] false [(14, zf3), (15, zf3)] []

theorem z1m5 (N : Nat) : EnvOk Tryd.prog (E_15 N) := zf mixed zq (FnsOk.cons (z9r N) (FnsOk.cons (ze5 N) (FnsOk.cons (zeb N) (FnsOk.nil)))) (ItsOk.nil)

def zhq (N : Nat) (n : DT1) : Option (DT9 × Int × Unit) :=
 (z4t N n).bind fun y =>
 cond (!y)
 (some ((([] : List (List Int)), (false, (([] : List Int), (([] : List Int), (([] : List (List Int)), ()))))), ((7 : Int), ())))
 ((z4p N n).bind fun y1 =>
 cond (decide ((512 : Int) < y1))
 (some ((([] : List (List Int)), (false, (([] : List Int), (([] : List Int), (([] : List (List Int)), ()))))), ((16 : Int), ())))
 ((z16 N (([] : List (List Int)), (([] : List (List Int)), ())) n).bind fun y2 =>
 some ((y2.2.1.1, (y2.1.1, (y2.1.2.1, (y2.1.2.2.1, (y2.2.1.2.1, ()))))), ((0 : Int), ()))))

def t_15 (N : Nat) : Tab (DT9 × Int × Unit) := []

theorem z16l (N : Nat) (x : zz [(0, .v TT0)]) : z6k (E_15 N) N (t_15 N) L_15 Tryd.f10 (mkS [(0, .v TT0)] 0 x) (z4b (.tup [TT6, (.int .i64)]) 1) = zhq N x.1 := by kernel_rfl

def zgq (N : Nat) : List A -> Res := zu [(0, .v TT0)] (fun x => zhq N x.1) (z75 (.tup [TT6, (.int .i64)]) 1)

theorem zmr (N : Nat) : Contract Tryd.prog glob 10 (zgq N) :=
  Contract.of (E := E_15 N) (H := t_15 N) (L := L_15) (N := N) (body := z17f) (K := (z4b (.tup [TT6, (.int .i64)]) 1)) (z1m5 N) Tryd.func10 (by kernel_rfl) (by decide) (fun _ hb => TabOk.nil) (fun x y h => by rw [z16l]; exact h) (z1b (s := (.tup [TT6, (.int .i64)])) (m := 1))

def z17e : Code := (Tryd.f7.body).getD .skip

def L_16 : List (List Nat × List Nat) := [([0], [1]), ([0, 0, 1], [5, 1]), ([1, 0, 1], [1]), ([0, 0, 1, 0, 1], [2]), ([1, 0, 1, 0, 1], [2]), ([0, 1, 1], [2]), ([1, 1, 1], [2])]

def E_16 (N : Nat) : Env := z1s tys glob [(20, zco N), (17, zd8 N)] [] [] [] false [] []

theorem z1m4 (N : Nat) : EnvOk Tryd.prog (E_16 N) := zf mixed zq (FnsOk.cons (ze5 N) (FnsOk.cons (zeb N) (FnsOk.nil))) (ItsOk.nil)

def z6o (N : Nat) (n : DT1) : Option Int :=
 (z4t N n).bind fun y =>
 cond (!y)
 (some (0 : Int))
 ((z4p N n).bind fun y1 =>
 some y1)

def t_16 (N : Nat) : Tab Int := []

theorem z16k (N : Nat) (x : zz [(0, .v TT0)]) : z6k (E_16 N) N (t_16 N) L_16 Tryd.f7 (mkS [(0, .v TT0)] 0 x) (z4b (.v (.int .i64)) 1) = z6o N x.1 := by kernel_rfl

def zgs (N : Nat) : List A -> Res := zu [(0, .v TT0)] (fun x => z6o N x.1) (z75 (.v (.int .i64)) 1)

theorem zox (N : Nat) : Contract Tryd.prog glob 7 (zgs N) :=
  Contract.of (E := E_16 N) (H := t_16 N) (L := L_16) (N := N) (body := z17e) (K := (z4b (.v (.int .i64)) 1)) (z1m4 N) Tryd.func7 (by kernel_rfl) (by decide) (fun _ hb => TabOk.nil) (fun x y h => by rw [z16k]; exact h) (z1b (s := (.v (.int .i64))) (m := 1))

def zjk : Code := (Tryd.f27.body).getD .skip

def z1kb : List (List Nat × List Nat) := [([0], [0, 1]), ([0, 1], [0, 4, 1]), ([0, 0, 1, 1], [9, 8, 7, 4, 1]), ([0, 1, 0, 1, 1], [9, 8, 7, 4, 1]), ([0, 0, 0, 1, 0, 1, 1], [10, 7, 9, 4, 1, 8]), (zq9, [7, 9, 4, 1, 8]), (z10v, [1]), (z1k2, [6, 4, 1, 9, 8, 7]), (PQ96, [22, 1, 6, 9, 8, 7]), ([1, 0, 1, 0, 0, 1, 1, 0, 0, 1, 0, 1, 1], [6, 9, 8, 7, 1]), ([0, 0, 1, 0, 1, 0, 0, 1, 1, 0, 0, 1, 0, 1, 1], [3, 1]), ([1, 0, 1, 0, 1, 0, 0, 1, 1, 0, 0, 1, 0, 1, 1], [3, 1]), ([1, 1, 0, 0, 1, 1, 0, 0, 1, 0, 1, 1], [9, 8, 7, 4, 1]), (z10u, [9, 8, 7, 4, 1]), (z10t, [9, 8, 7, 4, 1]), ([1, 0, 1, 1], [1]), ([0, 1, 1, 1], [3, 1]), ([1, 1, 1, 1], [3, 1])]

def z18r (N : Nat) : Env := z1s tys glob [] [] [] [1] false [] []

theorem z1m3 (N : Nat) : EnvOk Tryd.prog (z18r N) := zf mixed zq (FnsOk.nil) (ItsOk.nil)

def zg6 (N : Nat) (x1 : DT9) (low : Int) (i : Int) (x7 : (List Int)) (x8 : Int) (x9 : Int) (k0 : Bool -> Option (Bool × (DT9 × Unit))) : Option (Bool × (DT9 × Unit)) :=
 cond (decide (i < low))
 (k0 true)
 (k0 (decide ((((List.length x1.1) : Nat) : Int) <= i)))

def z1h7 (N : Nat) (x : zz SQ9) (K : Ex -> List A -> Option (Bool × (DT9 × Unit))) : Option (Bool × (DT9 × Unit)) :=
 zg6 N x.1 x.2.1 x.2.2.1 x.2.2.2.1 x.2.2.2.2.1 x.2.2.2.2.2.1 (fun a5 => (K .normal (mkS [(1, .box TT6), (4, .v (.int .i64)), (0, .v (.sl (.int .i64))), (0, .v (.int .i64)), (0, .v (.int .i64)), (12, .v .bool)] 3 (x.1, x.2.2.1, x.2.2.2.1, x.2.2.2.2.1, x.2.2.2.2.2.1, a5, ()))))

def z1dw (N : Nat) : Hd (Bool × (DT9 × Unit)) := fun st K => (unS SQ9 16 (restr [6, 4, 1, 9, 8, 7] 0 st)).bind fun x => z1h7 N x K

def t3_17 (N : Nat) : Tab (Bool × (DT9 × Unit)) := []

theorem z1a5 {N : Nat} {c : Ctx} (hb : Base Tryd.prog (z18r N) c) : zh Tryd.prog c (ze zjk PQ96) (z1dw N) :=
  zi (s := SQ9) (m := 16) (g := z1h7 N) [6, 4, 1, 9, 8, 7] (zd hb N (t3_17 N) z1kb zjk TabOk.nil PQ96 _ rfl) (fun x K => by kernel_rfl)

def zg7 (N : Nat) (x1 : DT9) (low : Int) (i : Int) (x7 : (List Int)) (x8 : Int) (x9 : Int) (k0 : Bool -> Option (Bool × (DT9 × Unit))) (k1 : Option (Bool × (DT9 × Unit))) : Option (Bool × (DT9 × Unit)) :=
 zg6 N x1 low i x7 x8 x9
 (fun x22 => cond x22
 (k0 false)
 (k1))

def z1hz (N : Nat) (x : zz SQ9) (K : Ex -> List A -> Option (Bool × (DT9 × Unit))) : Option (Bool × (DT9 × Unit)) :=
 zg7 N x.1 x.2.1 x.2.2.1 x.2.2.2.1 x.2.2.2.2.1 x.2.2.2.2.2.1 (fun a1 => (K .ret (mkS [(1, .box TT6), (1, .v .bool)] 22 (x.1, a1, ())))) (K .normal (mkS [(1, .box TT6), (4, .v (.int .i64)), (0, .v (.sl (.int .i64))), (0, .v (.int .i64)), (0, .v (.int .i64))] 16 (x.1, x.2.2.1, x.2.2.2.1, x.2.2.2.2.1, x.2.2.2.2.2.1, ())))

def z1eo (N : Nat) : Hd (Bool × (DT9 × Unit)) := fun st K => (unS SQ9 16 (restr [6, 4, 1, 9, 8, 7] 0 st)).bind fun x => z1hz N x K

def t2_17 (N : Nat) : Tab (Bool × (DT9 × Unit)) := [(PQ96, z1dw N)]

theorem z1ax {N : Nat} {c : Ctx} (hb : Base Tryd.prog (z18r N) c) : zh Tryd.prog c (ze zjk z1k4) (z1eo N) :=
  zi (s := SQ9) (m := 16) (g := z1hz N) [6, 4, 1, 9, 8, 7] (zd hb N (t2_17 N) z1kb zjk (TabOk.cons (z1a5 hb) TabOk.nil) z1k4 _ rfl) (fun x K => by kernel_rfl)

def zg5 (N : Nat) (x1 : DT9) (x7 : (List Int)) (x8 : Int) (low : Int) (x9 : Int) (rec : Int -> Int -> Option (Bool × (DT9 × Unit))) (k0 : Bool -> Option (Bool × (DT9 × Unit))) (k1 : Option (Bool × (DT9 × Unit))) : Option (Bool × (DT9 × Unit)) :=
 cond (decide (x9 < x8))
 (cond (inR x9 (List.length x7))
 (zg7 N x1 low (List.getD x7 (Int.toNat x9) (0 : Int)) x7 x8 x9
 (fun x3 => k0 x3)
 (rec (IntKind.wrap IntKind.i64 ((List.getD x7 (Int.toNat x9) (0 : Int)) + (1 : Int))) (IntKind.wrap IntKind.i64 (x9 + (1 : Int)))))
 (none))
 (k1)

def zm1 (N : Nat) (x1 : DT9) (low : Int) (x7 : (List Int)) (x8 : Int) (x9 : Int) (k0 : Bool -> Option (Bool × (DT9 × Unit))) (k1 : Option (Bool × (DT9 × Unit))) : Option (Bool × (DT9 × Unit)) :=
 iter (fun (v : (Int × Int)) r => zg5 N x1 x7 x8 v.1 v.2 (fun low x9 => (r (low, x9))) k0 k1) N (low, x9)

def z1ji (N : Nat) (i : (DT9 × (List Int) × Int)) (v : (Int × Int)) (r : (Int × Int) -> Option (Bool × (DT9 × Unit))) (K : Ex -> List A -> Option (Bool × (DT9 × Unit))) : Option (Bool × (DT9 × Unit)) :=
 zg5 N i.1 i.2.1 i.2.2 v.1 v.2 (fun low x9 => (r (low, x9))) (fun a1 => (K .ret (mkS [(1, .box TT6), (1, .v .bool)] 22 (i.1, a1, ())))) (K (.exit 0) (mkS [(1, .box TT6)] 24 (i.1, ())))

def z1g7 (N : Nat) : Hd (Bool × (DT9 × Unit)) := fun st K => (unS SQ68 16 (restr [9, 8, 7, 4, 1] 0 st)).bind fun x => iter (fun v r => z1ji N ((fun x => (x.1, x.2.2.1, x.2.2.2.1)) x) v r K) N ((fun x => (x.2.1, x.2.2.2.2.1)) x)

def t1_17 (N : Nat) : Tab (Bool × (DT9 × Unit)) := [(z1k4, z1eo N)]

theorem z1cg {N : Nat} {c : Ctx} (hb : Base Tryd.prog (z18r N) c) : zh Tryd.prog c (ze zjk [0, 1, 0, 1, 1]) (z1g7 N) :=
  z1w (s := SQ68) (m := 16) (z1ji N) [9, 8, 7, 4, 1] N (fun x => (x.1, x.2.2.1, x.2.2.2.1)) (fun x => (x.2.1, x.2.2.2.2.1)) (fun i v => (i.1, v.1, i.2.1, i.2.2, v.2, ())) (fun _ => rfl) (zd hb N (t1_17 N) z1kb zjk (TabOk.cons (z1ax hb) TabOk.nil) [0, 0, 1, 0, 1, 1] _ rfl) (fun i v r K => by kernel_rfl)

def z9s (N : Nat) (l : (List Int)) (x1 : DT9) : Option (Bool × (DT9 × Unit)) :=
 zm1 N x1 (0 : Int) l (((List.length l) : Nat) : Int) (0 : Int)
 (fun x3 => some (x3, (x1, ())))
 (some (true, (x1, ())))

def t_17 (N : Nat) : Tab (Bool × (DT9 × Unit)) := [([0, 1, 0, 1, 1], z1g7 N)]

theorem z16j (N : Nat) (x : zz [(0, .v (.sl (.int .i64))), (0, .box TT6)]) : z6k (z18r N) N (t_17 N) z1kb Tryd.f27 (mkS [(0, .v (.sl (.int .i64))), (0, .box TT6)] 0 x) (z4z (.v .bool) [(1, .box TT6)] 0) = z9s N x.1 x.2.1 := by kernel_rfl

def zeg (N : Nat) : List A -> Res := zu [(0, .v (.sl (.int .i64))), (0, .box TT6)] (fun x => z9s N x.1 x.2.1) (z5f (.v .bool) [(1, .box TT6)] 0)

theorem zm2 (N : Nat) : Contract Tryd.prog glob 27 (zeg N) :=
  Contract.of (E := z18r N) (H := t_17 N) (L := z1kb) (N := N) (body := zjk) (K := (z4z (.v .bool) [(1, .box TT6)] 0)) (z1m3 N) Tryd.func27 (by kernel_rfl) (by decide) (fun _ hb => (TabOk.cons (z1cg hb) TabOk.nil)) (fun x y h => by rw [z16j]; exact h) (z3k (s := (.v .bool)) (os := [(1, .box TT6)]) (m := 0))

def zjj : Code := (Tryd.f13.body).getD .skip

def z1ka : List (List Nat × List Nat) := [([0], [1]), ([0, 0, 1], [18, 1]), ([1, 0, 1], [1]), ([0, 0, 1, 0, 1], [2]), ([1, 0, 1, 0, 1], [2]), ([0, 1, 1], [1, 3]), ([0, 0, 1, 1, 1], [23, 22, 21, 3, 1]), ([0, 1, 0, 1, 1, 1], [23, 22, 21, 3, 1]), ([0, 0, 0, 1, 0, 1, 1, 1], [24, 21, 23, 3, 22, 1]), (z10s, [21, 23, 3, 22, 1]), (z12f, [3, 1]), ([0, 0, 0, 1, 1, 0, 0, 1, 0, 1, 1, 1], [3, 5, 23, 22, 21, 1]), ([0, 1, 0, 0, 1, 1, 0, 0, 1, 0, 1, 1, 1], [30, 23, 22, 21, 3, 1]), ([1, 1, 0, 0, 1, 1, 0, 0, 1, 0, 1, 1, 1], [23, 22, 21, 3, 1]), ([0, 0, 1, 1, 0, 0, 1, 1, 0, 0, 1, 0, 1, 1, 1], [2]), ([1, 0, 1, 1, 0, 0, 1, 1, 0, 0, 1, 0, 1, 1, 1], [2]), ([0, 1, 1, 0, 0, 1, 0, 1, 1, 1], [23, 22, 21, 3, 1]), ([1, 1, 1, 0, 0, 1, 0, 1, 1, 1], [23, 22, 21, 3, 1]), ([1, 0, 1, 1, 1], [3, 1]), ([0, 1, 1, 1, 1], [2]), ([1, 1, 1, 1, 1], [2])]

def z18q (N : Nat) : Env := z1s tys glob [(27, zeg N)] [(3, .unit)] [] [] false [] []

theorem z1m2 (N : Nat) : EnvOk Tryd.prog (z18q N) := zf mixed zq (FnsOk.cons (zm2 N) (FnsOk.nil)) (ItsOk.nil)

def zic (N : Nat) (p : DT9) (k0 : Bool -> Option Bool) : Option Bool :=
 cond ((((List.length p.2.2.2.2.1) : Nat) : Int) != (((List.length p.1) : Nat) : Int))
 (k0 true)
 (k0 (decide ((512 : Int) < (((List.length p.1) : Nat) : Int))))

def z1hy (N : Nat) (x : zz [(1, .box TT6)]) (K : Ex -> List A -> Option Bool) : Option Bool :=
 zic N x.1 (fun a1 => (K .normal (mkS [(1, .box TT6), (16, .v .bool)] 23 (x.1, a1, ()))))

def z1en (N : Nat) : Hd Bool := fun st K => (unS [(1, .box TT6)] 40 (restr [1] 0 st)).bind fun x => z1hy N x K

def t2_18 (N : Nat) : Tab Bool := []

theorem z1aw {N : Nat} {c : Ctx} (hb : Base Tryd.prog (z18q N) c) : zh Tryd.prog c (ze zjj [0, 0, 1]) (z1en N) :=
  zi (s := [(1, .box TT6)]) (m := 40) (g := z1hy N) [1] (zd hb N (t2_18 N) z1ka zjj TabOk.nil [0, 0, 1] _ rfl) (fun x K => by kernel_rfl)

def zid (N : Nat) (p : DT9) (k0 : Bool -> Option Bool) (k1 : Option Bool) : Option Bool :=
 zic N p
 (fun x18 => cond x18
 (k0 false)
 (k1))

def z1jh (N : Nat) (x : zz [(1, .box TT6)]) (K : Ex -> List A -> Option Bool) : Option Bool :=
 zid N x.1 (fun a0 => (K .ret (mkS [(2, .v .bool)] 39 (a0, ())))) (K .normal (mkS [(1, .box TT6)] 40 (x.1, ())))

def z1g6 (N : Nat) : Hd Bool := fun st K => (unS [(1, .box TT6)] 40 (restr [1] 0 st)).bind fun x => z1jh N x K

def t1_18 (N : Nat) : Tab Bool := [([0, 0, 1], z1en N)]

theorem z1cf {N : Nat} {c : Ctx} (hb : Base Tryd.prog (z18q N) c) : zh Tryd.prog c (ze zjj [0, 1]) (z1g6 N) :=
  zi (s := [(1, .box TT6)]) (m := 40) (g := z1jh N) [1] (zd hb N (t1_18 N) z1ka zjj (TabOk.cons (z1aw hb) TabOk.nil) [0, 1] _ rfl) (fun x K => by kernel_rfl)

def zib (N : Nat) (x21 : (List (List Int))) (x22 : Int) (p : DT9) (x23 : Int) (rec : DT9 -> Int -> Option Bool) (k0 : Bool -> Option Bool) (k1 : DT9 -> Option Bool) : Option Bool :=
 cond (decide (x23 < x22))
 (cond (inR x23 (List.length x21))
 ((z9s N (List.getD x21 (Int.toNat x23) ([] : List Int)) p).bind fun y =>
 cond (!y.1)
 (k0 false)
 (rec y.2.1 (IntKind.wrap IntKind.i64 (x23 + (1 : Int)))))
 (none))
 (k1 p)

def zos (N : Nat) (p : DT9) (x21 : (List (List Int))) (x22 : Int) (x23 : Int) (k0 : Bool -> Option Bool) (k1 : DT9 -> Option Bool) : Option Bool :=
 iter (fun (v : (DT9 × Int)) r => zib N x21 x22 v.1 v.2 (fun p x23 => (r (p, x23))) k0 k1) N (p, x23)

def z1h6 (N : Nat) (i : ((List (List Int)) × Int)) (v : (DT9 × Int)) (r : (DT9 × Int) -> Option Bool) (K : Ex -> List A -> Option Bool) : Option Bool :=
 zib N i.1 i.2 v.1 v.2 (fun p x23 => (r (p, x23))) (fun a0 => (K .ret (mkS [(2, .v .bool)] 39 (a0, ())))) (fun a0 => (K (.exit 0) (mkS [(1, .box TT6), (1, .clo 27 [1])] 38 (a0, (), ()))))

def z1dv (N : Nat) : Hd Bool := fun st K => (unS [(1, .box TT6), (1, .clo 27 [1]), (17, .v (.sl (.sl (.int .i64)))), (0, .v (.int .i64)), (0, .v (.int .i64))] 18 (restr [23, 22, 21, 3, 1] 0 st)).bind fun x => iter (fun v r => z1h6 N ((fun x => (x.2.2.1, x.2.2.2.1)) x) v r K) N ((fun x => (x.1, x.2.2.2.2.1)) x)

def t3_18 (N : Nat) : Tab Bool := []

theorem z1a4 {N : Nat} {c : Ctx} (hb : Base Tryd.prog (z18q N) c) : zh Tryd.prog c (ze zjj [0, 1, 0, 1, 1, 1]) (z1dv N) :=
  z1w (s := [(1, .box TT6), (1, .clo 27 [1]), (17, .v (.sl (.sl (.int .i64)))), (0, .v (.int .i64)), (0, .v (.int .i64))]) (m := 18) (z1h6 N) [23, 22, 21, 3, 1] N (fun x => (x.2.2.1, x.2.2.2.1)) (fun x => (x.1, x.2.2.2.2.1)) (fun i v => (v.1, (), i.1, i.2, v.2, ())) (fun _ => rfl) (zd hb N (t3_18 N) z1ka zjj TabOk.nil zxx _ rfl) (fun i v r K => by kernel_rfl)

def zit (N : Nat) (p : DT9) : Option Bool :=
 zid N p
 (fun x2 => some x2)
 (zos N p p.2.2.2.2.1 (((List.length p.2.2.2.2.1) : Nat) : Int) (0 : Int)
 (fun x21 => some x21)
 (fun p1 => (z9s N p1.2.2.1 p1).bind fun y =>
 cond y.1
 ((z9s N y.2.1.2.2.2.1 y.2.1).bind fun y1 =>
 some y1.1)
 (some false)))

def t_18 (N : Nat) : Tab Bool := [([0, 1], z1g6 N), ([0, 1, 0, 1, 1, 1], z1dv N)]

theorem z16i (N : Nat) (x : zz [(0, .v TT6)]) : z6k (z18q N) N (t_18 N) z1ka Tryd.f13 (mkS [(0, .v TT6)] 0 x) (z4b (.v .bool) 1) = zit N x.1 := by kernel_rfl

def zgp (N : Nat) : List A -> Res := zu [(0, .v TT6)] (fun x => zit N x.1) (z75 (.v .bool) 1)

theorem zot (N : Nat) : Contract Tryd.prog glob 13 (zgp N) :=
  Contract.of (E := z18q N) (H := t_18 N) (L := z1ka) (N := N) (body := zjj) (K := (z4b (.v .bool) 1)) (z1m2 N) Tryd.func13 (by kernel_rfl) (by decide) (fun _ hb => (TabOk.cons (z1cf hb) (TabOk.cons (z1a4 hb) TabOk.nil))) (fun x y h => by rw [z16i]; exact h) (z1b (s := (.v .bool)) (m := 1))

def z17d : Code := (Tryd.f49.body).getD .skip

def L_19 : List (List Nat × List Nat) := [([0], [1, 2]), ([0, 1], [4]), ([1, 1], [4])]

def E_19 (N : Nat) : Env := z1s tys glob [] [] [] [] false [] []

theorem z1m1 (N : Nat) : EnvOk Tryd.prog (E_19 N) := zf mixed zq (FnsOk.nil) (ItsOk.nil)

def zjf (N : Nat) (s : (List Int)) (b : Int) : Option Bool :=
 cond (inR (IntKind.wrap IntKind.u8 (Int.tdiv b (64 : Int))) 4)
 (cond (decide ((Int.toNat (IntKind.wrap IntKind.u8 (Int.tdiv b (64 : Int)))) < (List.length s)))
 (cond (decide ((0 : Int) <= (Int.tmod b (64 : Int))))
 (some ((zaa Go.BinOp.and IntKind.u64 (z191 IntKind.u64 (List.getD s (Int.toNat (IntKind.wrap IntKind.u8 (Int.tdiv b (64 : Int)))) (0 : Int)) (Int.tmod b (64 : Int))) (1 : Int)) == (1 : Int)))
 (none))
 (none))
 (none)

def t_19 (N : Nat) : Tab Bool := []

theorem z16h (N : Nat) (x : zz z188) : z6k (E_19 N) N (t_19 N) L_19 Tryd.f49 (mkS z188 0 x) (z4b (.v .bool) 2) = zjf N x.1 x.2.1 := by kernel_rfl

def zhf (N : Nat) : List A -> Res := zu z188 (fun x => zjf N x.1 x.2.1) (z75 (.v .bool) 2)

theorem zpa (N : Nat) : Contract Tryd.prog glob 49 (zhf N) :=
  Contract.of (E := E_19 N) (H := t_19 N) (L := L_19) (N := N) (body := z17d) (K := (z4b (.v .bool) 2)) (z1m1 N) Tryd.func49 (by kernel_rfl) (by decide) (fun _ hb => TabOk.nil) (fun x y h => by rw [z16h]; exact h) (z1b (s := (.v .bool)) (m := 2))

def zv1 : Code := (Tryd.f29.body).getD .skip

def L_20 : List (List Nat × List Nat) := [([0], [3, 1, 2]), ([0, 1], [1, 7, 3, 2]), ([0, 0, 1, 1], zv8), ([0, 1, 0, 1, 1], zv8), ([0, 0, 0, 1, 0, 1, 1], [17, 14, 16, 7, 3, 2, 15]), (zq9, [14, 16, 7, 3, 2, 15]), (z10v, [7]), (z1k2, [7, 9, 3, 2, 16, 15, 14]), ([1, 0, 0, 1, 1, 0, 0, 1, 0, 1, 1], zv8), (z10u, zv8), (z10t, zv8), ([1, 0, 1, 1], [7]), ([0, 1, 1, 1], [6]), ([1, 1, 1, 1], [6])]

def E_20 (N : Nat) : Env := z1s tys glob [(49, zhf N)] [(7, .bool), (6, .bool)] [] [] false [] []

theorem z1m0 (N : Nat) : EnvOk Tryd.prog (E_20 N) := zf mixed zq (FnsOk.cons (zpa N) (FnsOk.nil)) (ItsOk.nil)

def zjo (N : Nat) (b : Int) (p : DT9) (x14 : (List Int)) (x15 : Int) (at_ : (List Bool)) (x16 : Int) (rec : (List Bool) -> Int -> Option (List Bool)) (k0 : (List Bool) -> Option (List Bool)) : Option (List Bool) :=
 cond (decide (x16 < x15))
 (cond (inR x16 (List.length x14))
 (cond (inR (List.getD x14 (Int.toNat x16) (0 : Int)) (List.length p.1))
 ((zjf N (List.getD p.1 (Int.toNat (List.getD x14 (Int.toNat x16) (0 : Int))) ([] : List Int)) b).bind fun y =>
 cond (inR (List.getD x14 (Int.toNat x16) (0 : Int)) (List.length at_))
 (cond (decide ((Int.toNat (List.getD x14 (Int.toNat x16) (0 : Int))) < (List.length at_)))
 (rec (List.set at_ (Int.toNat (List.getD x14 (Int.toNat x16) (0 : Int))) y) (IntKind.wrap IntKind.i64 (x16 + (1 : Int))))
 (none))
 (none))
 (none))
 (none))
 (k0 at_)

def zqd (N : Nat) (b : Int) (p : DT9) (at_ : (List Bool)) (x14 : (List Int)) (x15 : Int) (x16 : Int) (k0 : (List Bool) -> Option (List Bool)) : Option (List Bool) :=
 iter (fun (v : ((List Bool) × Int)) r => zjo N b p x14 x15 v.1 v.2 (fun at_ x16 => (r (at_, x16))) k0) N (at_, x16)

def z1jg (N : Nat) (i : (Int × DT9 × (List Int) × Int)) (v : ((List Bool) × Int)) (r : ((List Bool) × Int) -> Option (List Bool)) (K : Ex -> List A -> Option (List Bool)) : Option (List Bool) :=
 zjo N i.1 i.2.1 i.2.2.1 i.2.2.2 v.1 v.2 (fun at_ x16 => (r (at_, x16))) (fun a0 => (K (.exit 0) (mkS [(7, .row .bool)] 24 (a0, ()))))

def z1g5 (N : Nat) : Hd (List Bool) := fun st K => (unS SQ50 15 (restr zv8 0 st)).bind fun x => iter (fun v r => z1jg N ((fun x => (x.1, x.2.1, x.2.2.2.1, x.2.2.2.2.1)) x) v r K) N ((fun x => (x.2.2.1, x.2.2.2.2.2.1)) x)

def t1_20 (N : Nat) : Tab (List Bool) := []

theorem z1ce {N : Nat} {c : Ctx} (hb : Base Tryd.prog (E_20 N) c) : zh Tryd.prog c (ze zv1 [0, 1, 0, 1, 1]) (z1g5 N) :=
  z1w (s := SQ50) (m := 15) (z1jg N) zv8 N (fun x => (x.1, x.2.1, x.2.2.2.1, x.2.2.2.2.1)) (fun x => (x.2.2.1, x.2.2.2.2.2.1)) (fun i v => (i.1, i.2.1, v.1, i.2.2.1, i.2.2.2, v.2, ())) (fun _ => rfl) (zd hb N (t1_20 N) L_20 zv1 TabOk.nil [0, 0, 1, 0, 1, 1] _ rfl) (fun i v r K => by kernel_rfl)

def zhp (N : Nat) (p : DT9) (l : (List Int)) (b : Int) : Option (List Bool) :=
 cond (decide (((0 : Int) <= (((List.length p.1) : Nat) : Int)) /\ (((((List.length p.1) : Nat) : Int) <= (((List.length p.1) : Nat) : Int)) /\ ((((((List.length p.1) : Nat) : Int) * (1 : Int)) <= (281474976710656 : Int)) /\ ((((List.length p.1) : Nat) : Int) <= (9223372036854775807 : Int))))))
 (zqd N b p (List.replicate (Int.toNat (((List.length p.1) : Nat) : Int)) false) l (((List.length l) : Nat) : Int) (0 : Int)
 (fun at_ => some at_))
 (none)

def t_20 (N : Nat) : Tab (List Bool) := [([0, 1, 0, 1, 1], z1g5 N)]

theorem z16g (N : Nat) (x : zz SQ85) : z6k (E_20 N) N (t_20 N) L_20 Tryd.f29 (mkS SQ85 0 x) (z4b (.v (.sl .bool)) 3) = zhp N x.1 x.2.1 x.2.2.1 := by kernel_rfl

def zi7 (N : Nat) : List A -> Res := zu SQ85 (fun x => zhp N x.1 x.2.1 x.2.2.1) (z75 (.v (.sl .bool)) 3)

theorem zqe (N : Nat) : Contract Tryd.prog glob 29 (zi7 N) :=
  Contract.of (E := E_20 N) (H := t_20 N) (L := L_20) (N := N) (body := zv1) (K := (z4b (.v (.sl .bool)) 3)) (z1m0 N) Tryd.func29 (by kernel_rfl) (by decide) (fun _ hb => (TabOk.cons (z1ce hb) TabOk.nil)) (fun x y h => by rw [z16g]; exact h) (z1b (s := (.v (.sl .bool))) (m := 3))

def zoi : Code := (Tryd.f30.body).getD .skip

def L_21 : List (List Nat × List Nat) := [([0], [1, 2]), ([0, 1], [1, 2, 5]), ([0, 1, 1], [1, 2, 5, 6]), ([0, 0, 1, 1, 1], z12b), ([0, 1, 0, 1, 1, 1], z12b), ([0, 0, 0, 1, 0, 1, 1, 1], [17, 16, 14, 15, 2, 5, 6]), (z10s, [16, 14, 15, 2, 5, 6]), (z12f, [6]), ([0, 0, 0, 1, 1, 0, 0, 1, 0, 1, 1, 1], [8, 16, 15, 14, 2, 5, 6, 7]), ([0, 0, 1, 0, 0, 1, 1, 0, 0, 1, 0, 1, 1, 1], [22, 16, 15, 14, 2, 5, 6, 7]), ([1, 0, 1, 0, 0, 1, 1, 0, 0, 1, 0, 1, 1, 1], [2, 7, 5, 6, 16, 15, 14]), ([0, 1, 0, 1, 0, 0, 1, 1, 0, 0, 1, 0, 1, 1, 1], z12b), ([0, 1, 1, 0, 0, 1, 1, 0, 0, 1, 0, 1, 1, 1], z13h), (z17q, z13h), ([0, 0, 0, 1, 1, 1, 0, 0, 1, 1, 0, 0, 1, 0, 1, 1, 1], [30, 27, 29, 5, 6, 28, 16, 15, 14, 2]), ([0, 1, 0, 0, 1, 1, 1, 0, 0, 1, 1, 0, 0, 1, 0, 1, 1, 1], [27, 29, 5, 6, 28, 16, 15, 14, 2]), ([1, 0, 1, 0, 0, 1, 1, 1, 0, 0, 1, 1, 0, 0, 1, 0, 1, 1, 1], z12b), ([0, 0, 0, 1, 1, 0, 0, 1, 1, 1, 0, 0, 1, 1, 0, 0, 1, 0, 1, 1, 1], [5, 10, 6, 29, 28, 27, 16, 15, 14, 2]), ([0, 1, 0, 0, 1, 1, 0, 0, 1, 1, 1, 0, 0, 1, 1, 0, 0, 1, 0, 1, 1, 1], [37, 5, 10, 6, 29, 28, 27, 16, 15, 14, 2]), ([1, 1, 0, 0, 1, 1, 0, 0, 1, 1, 1, 0, 0, 1, 1, 0, 0, 1, 0, 1, 1, 1], z13h), ([0, 0, 1, 1, 0, 0, 1, 1, 0, 0, 1, 1, 1, 0, 0, 1, 1, 0, 0, 1, 0, 1, 1, 1], [6, 10, 29, 28, 27, 5, 16, 15, 14, 2]), ([1, 0, 1, 1, 0, 0, 1, 1, 0, 0, 1, 1, 1, 0, 0, 1, 1, 0, 0, 1, 0, 1, 1, 1], z13h), ([0, 1, 1, 0, 0, 1, 1, 1, 0, 0, 1, 1, 0, 0, 1, 0, 1, 1, 1], z13h), ([1, 1, 1, 0, 0, 1, 1, 1, 0, 0, 1, 1, 0, 0, 1, 0, 1, 1, 1], z13h), ([1, 1, 1, 0, 0, 1, 1, 0, 0, 1, 0, 1, 1, 1], z12b), ([0, 1, 1, 0, 0, 1, 0, 1, 1, 1], z12b), ([1, 1, 1, 0, 0, 1, 0, 1, 1, 1], z12b), ([1, 0, 1, 1, 1], [6]), ([0, 1, 1, 1, 1], [4]), ([1, 1, 1, 1, 1], [4])]

def z1mo (N : Nat) : Env := z1s tys glob [] [(5, .bool), (6, (.int .i64)), (4, (.int .i64))] [] [] false [] []

theorem z1lz (N : Nat) : EnvOk Tryd.prog (z1mo N) := zf mixed zq (FnsOk.nil) (ItsOk.nil)

def zi9 (N : Nat) (p : DT9) (x14 : (List Bool)) (x15 : Int) (x16 : Int) (x27 : (List Int)) (x28 : Int) (seen : (List Bool)) (l : (List Int)) (x29 : Int) (rec : (List Bool) -> (List Int) -> Int -> Option (List Int)) (k0 : (List Bool) -> (List Int) -> Option (List Int)) : Option (List Int) :=
 cond (decide (x29 < x28))
 (cond (inR x29 (List.length x27))
 (cond (inR (List.getD x27 (Int.toNat x29) (0 : Int)) (List.length seen))
 (cond (decide ((Int.toNat (List.getD x27 (Int.toNat x29) (0 : Int))) < (List.length seen)))
 (cond (!(List.getD seen (Int.toNat (List.getD x27 (Int.toNat x29) (0 : Int))) false))
 (cond (inR (List.getD x27 (Int.toNat x29) (0 : Int)) (List.length seen))
 (cond (decide ((Int.toNat (List.getD x27 (Int.toNat x29) (0 : Int))) < (List.length seen)))
 (cond (decide ((((List.length l) + 1) * 8) <= 70368744177664))
 (rec (List.set seen (Int.toNat (List.getD x27 (Int.toNat x29) (0 : Int))) true) (l ++ ([(List.getD x27 (Int.toNat x29) (0 : Int))] : List Int)) (IntKind.wrap IntKind.i64 (x29 + (1 : Int))))
 (none))
 (none))
 (none))
 (rec seen l (IntKind.wrap IntKind.i64 (x29 + (1 : Int)))))
 (none))
 (none))
 (none))
 (k0 seen l)

def zop (N : Nat) (p : DT9) (seen : (List Bool)) (l : (List Int)) (x14 : (List Bool)) (x15 : Int) (x16 : Int) (x27 : (List Int)) (x28 : Int) (x29 : Int) (k0 : (List Bool) -> (List Int) -> Option (List Int)) : Option (List Int) :=
 iter (fun (v : ((List Bool) × (List Int) × Int)) r => zi9 N p x14 x15 x16 x27 x28 v.1 v.2.1 v.2.2 (fun seen l x29 => (r (seen, l, x29))) k0) N (seen, l, x29)

def z1hx (N : Nat) (i : (DT9 × (List Bool) × Int × Int × (List Int) × Int)) (v : ((List Bool) × (List Int) × Int)) (r : ((List Bool) × (List Int) × Int) -> Option (List Int)) (K : Ex -> List A -> Option (List Int)) : Option (List Int) :=
 zi9 N i.1 i.2.1 i.2.2.1 i.2.2.2.1 i.2.2.2.2.1 i.2.2.2.2.2 v.1 v.2.1 v.2.2 (fun seen l x29 => (r (seen, l, x29))) (fun a1 a2 => (K (.exit 2) (mkS SQ30 31 (i.1, a1, a2, i.2.1, i.2.2.1, i.2.2.2.1, ()))))

def z1em (N : Nat) : Hd (List Int) := fun st K => (unS SQ28 18 (restr z13h 0 st)).bind fun x => iter (fun v r => z1hx N ((fun x => (x.1, x.2.2.2.1, x.2.2.2.2.1, x.2.2.2.2.2.1, x.2.2.2.2.2.2.1, x.2.2.2.2.2.2.2.1)) x) v r K) N ((fun x => (x.2.1, x.2.2.1, x.2.2.2.2.2.2.2.2.1)) x)

def t2_21 (N : Nat) : Tab (List Int) := []

theorem z1av {N : Nat} {c : Ctx} (hb : Base Tryd.prog (z1mo N) c) : zh Tryd.prog c (ze zoi z17q) (z1em N) :=
  z1w (s := SQ28) (m := 18) (z1hx N) z13h N (fun x => (x.1, x.2.2.2.1, x.2.2.2.2.1, x.2.2.2.2.2.1, x.2.2.2.2.2.2.1, x.2.2.2.2.2.2.2.1)) (fun x => (x.2.1, x.2.2.1, x.2.2.2.2.2.2.2.2.1)) (fun i v => (i.1, v.1, v.2.1, i.2.1, i.2.2.1, i.2.2.2.1, i.2.2.2.2.1, i.2.2.2.2.2, v.2.2, ())) (fun _ => rfl) (zd hb N (t2_21 N) L_21 zoi TabOk.nil [0, 0, 1, 1, 1, 0, 0, 1, 1, 0, 0, 1, 0, 1, 1, 1] _ rfl) (fun i v r K => by kernel_rfl)

def zia (N : Nat) (p : DT9) (x14 : (List Bool)) (x15 : Int) (seen : (List Bool)) (l : (List Int)) (x16 : Int) (rec : (List Bool) -> (List Int) -> Int -> Option (List Int)) (k0 : (List Int) -> Option (List Int)) : Option (List Int) :=
 cond (decide (x16 < x15))
 (cond (inR x16 (List.length x14))
 (cond (!(List.getD x14 (Int.toNat x16) false))
 (rec seen l (IntKind.wrap IntKind.i64 (x16 + (1 : Int))))
 (cond (inR x16 (List.length p.2.2.2.2.1))
 (zop N p seen l x14 x15 x16 (List.getD p.2.2.2.2.1 (Int.toNat x16) ([] : List Int)) (((List.length (List.getD p.2.2.2.2.1 (Int.toNat x16) ([] : List Int))) : Nat) : Int) (0 : Int)
 (fun seen1 l1 => rec seen1 l1 (IntKind.wrap IntKind.i64 (x16 + (1 : Int)))))
 (none)))
 (none))
 (k0 l)

def zoq (N : Nat) (p : DT9) (seen : (List Bool)) (l : (List Int)) (x14 : (List Bool)) (x15 : Int) (x16 : Int) (k0 : (List Int) -> Option (List Int)) : Option (List Int) :=
 iter (fun (v : ((List Bool) × (List Int) × Int)) r => zia N p x14 x15 v.1 v.2.1 v.2.2 (fun seen l x16 => (r (seen, l, x16))) k0) N (seen, l, x16)

def z1jf (N : Nat) (i : (DT9 × (List Bool) × Int)) (v : ((List Bool) × (List Int) × Int)) (r : ((List Bool) × (List Int) × Int) -> Option (List Int)) (K : Ex -> List A -> Option (List Int)) : Option (List Int) :=
 zia N i.1 i.2.1 i.2.2 v.1 v.2.1 v.2.2 (fun seen l x16 => (r (seen, l, x16))) (fun a0 => (K (.exit 0) (mkS [(6, .row (.int .i64))] 41 (a0, ()))))

def z1g4 (N : Nat) : Hd (List Int) := fun st K => (unS SQ30 31 (restr z12b 0 st)).bind fun x => iter (fun v r => z1jf N ((fun x => (x.1, x.2.2.2.1, x.2.2.2.2.1)) x) v r K) N ((fun x => (x.2.1, x.2.2.1, x.2.2.2.2.2.1)) x)

def t1_21 (N : Nat) : Tab (List Int) := [(z17q, z1em N)]

theorem z1cd {N : Nat} {c : Ctx} (hb : Base Tryd.prog (z1mo N) c) : zh Tryd.prog c (ze zoi [0, 1, 0, 1, 1, 1]) (z1g4 N) :=
  z1w (s := SQ30) (m := 31) (z1jf N) z12b N (fun x => (x.1, x.2.2.2.1, x.2.2.2.2.1)) (fun x => (x.2.1, x.2.2.1, x.2.2.2.2.2.1)) (fun i v => (i.1, v.1, v.2.1, i.2.1, i.2.2, v.2.2, ())) (fun _ => rfl) (zd hb N (t1_21 N) L_21 zoi (TabOk.cons (z1av hb) TabOk.nil) zxx _ rfl) (fun i v r K => by kernel_rfl)

def zis (N : Nat) (p : DT9) (at_ : (List Bool)) : Option (List Int) :=
 cond (decide (((0 : Int) <= (((List.length at_) : Nat) : Int)) /\ (((((List.length at_) : Nat) : Int) <= (((List.length at_) : Nat) : Int)) /\ ((((((List.length at_) : Nat) : Int) * (1 : Int)) <= (281474976710656 : Int)) /\ ((((List.length at_) : Nat) : Int) <= (9223372036854775807 : Int))))))
 (zoq N p (List.replicate (Int.toNat (((List.length at_) : Nat) : Int)) false) ([] : List Int) at_ (((List.length at_) : Nat) : Int) (0 : Int)
 (fun l => some l))
 (none)

def t_21 (N : Nat) : Tab (List Int) := [([0, 1, 0, 1, 1, 1], z1g4 N)]

theorem z16f (N : Nat) (x : zz [(0, .v TT6), (0, .v (.sl .bool))]) : z6k (z1mo N) N (t_21 N) L_21 Tryd.f30 (mkS [(0, .v TT6), (0, .v (.sl .bool))] 0 x) (z4b (.v (.sl (.int .i64))) 2) = zis N x.1 x.2.1 := by kernel_rfl

def zgo (N : Nat) : List A -> Res := zu [(0, .v TT6), (0, .v (.sl .bool))] (fun x => zis N x.1 x.2.1) (z75 (.v (.sl (.int .i64))) 2)

theorem zor (N : Nat) : Contract Tryd.prog glob 30 (zgo N) :=
  Contract.of (E := z1mo N) (H := t_21 N) (L := L_21) (N := N) (body := zoi) (K := (z4b (.v (.sl (.int .i64))) 2)) (z1lz N) Tryd.func30 (by kernel_rfl) (by decide) (fun _ hb => (TabOk.cons (z1cd hb) TabOk.nil)) (fun x y h => by rw [z16f]; exact h) (z1b (s := (.v (.sl (.int .i64)))) (m := 2))

def zoh : Code := (Tryd.f15.body).getD .skip

def L_22 : List (List Nat × List Nat) := [([0], [2, 1]), ([0, 0, 1], [11, 1, 2]), ([1, 0, 1], [1, 2]), ([0, 0, 1, 0, 1], [4]), ([1, 0, 1, 0, 1], [4]), ([0, 0, 1, 1], [13, 2, 1]), ([1, 0, 1, 1], [2, 1]), ([0, 0, 1, 0, 1, 1], [4]), ([1, 0, 1, 0, 1, 1], [4]), ([0, 1, 1, 1], [1, 2, 5]), ([0, 0, 1, 1, 1, 1], [25, 24, 2, 5, 1]), (z12c, [25, 24, 2, 5, 1]), ([0, 0, 0, 1, 0, 1, 1, 1, 1], [26, 25, 2, 5, 1, 24]), (z12e, [25, 2, 5, 1, 24]), ([1, 0, 1, 0, 0, 1, 0, 1, 1, 1, 1], [2, 5]), ([0, 0, 0, 1, 1, 0, 0, 1, 0, 1, 1, 1, 1], [2, 5, 1, 6, 25, 24]), ([1, 0, 0, 1, 1, 0, 0, 1, 0, 1, 1, 1, 1], [25, 24, 2, 5, 1]), ([0, 1, 1, 0, 0, 1, 0, 1, 1, 1, 1], [25, 24, 2, 5, 1]), ([1, 1, 1, 0, 0, 1, 0, 1, 1, 1, 1], [25, 24, 2, 5, 1]), ([1, 0, 1, 1, 1, 1], [2, 5]), (zkp, [41, 40, 39, 5]), (zy5, [41, 40, 39, 5]), ([0, 0, 0, 1, 0, 1, 1, 1, 1, 1], [42, 39, 41, 5, 40]), (z1k1, [39, 41, 5, 40]), ([1, 0, 1, 0, 0, 1, 0, 1, 1, 1, 1, 1], []), ([0, 0, 0, 1, 1, 0, 0, 1, 0, 1, 1, 1, 1, 1], [5, 8, 41, 40, 39]), ([0, 1, 0, 0, 1, 1, 0, 0, 1, 0, 1, 1, 1, 1, 1], [48, 41, 40, 39, 5]), ([1, 1, 0, 0, 1, 1, 0, 0, 1, 0, 1, 1, 1, 1, 1], [41, 40, 39, 5]), ([0, 0, 1, 1, 0, 0, 1, 1, 0, 0, 1, 0, 1, 1, 1, 1, 1], [4]), ([1, 0, 1, 1, 0, 0, 1, 1, 0, 0, 1, 0, 1, 1, 1, 1, 1], [4]), ([0, 1, 1, 0, 0, 1, 0, 1, 1, 1, 1, 1], [41, 40, 39, 5]), ([1, 1, 1, 0, 0, 1, 0, 1, 1, 1, 1, 1], [41, 40, 39, 5]), (zxw, []), (zxv, [4]), (z12a, [4])]

def z1mn (N : Nat) : Env := z1s tys glob [(30, zgo N), (29, zi7 N), (13, zgp N)] [] [] [] false [] []

theorem z1ly (N : Nat) : EnvOk Tryd.prog (z1mn N) := zf mixed zq (FnsOk.cons (zor N) (FnsOk.cons (zqe N) (FnsOk.cons (zot N) (FnsOk.nil)))) (ItsOk.nil)

def zif (N : Nat) (s : (List UInt8)) (p : DT9) (x24 : Int) (at_ : (List Bool)) (x25 : Int) (rec : (List Bool) -> Int -> Option Bool) (k0 : (List Bool) -> Option Bool) : Option Bool :=
 cond (decide (x25 < x24))
 ((zis N p at_).bind fun y =>
 cond (inR (IntKind.wrap IntKind.i64 (x25 + (1 : Int))) (List.length s))
 ((zhp N p y (((UInt8.toNat (List.getD s (Int.toNat (IntKind.wrap IntKind.i64 (x25 + (1 : Int)))) (0 : UInt8))) : Nat) : Int)).bind fun y1 =>
 rec y1 (IntKind.wrap IntKind.i64 (x25 + (1 : Int))))
 (none))
 (k0 at_)

def zov (N : Nat) (s : (List UInt8)) (p : DT9) (at_ : (List Bool)) (x24 : Int) (x25 : Int) (k0 : (List Bool) -> Option Bool) : Option Bool :=
 iter (fun (v : ((List Bool) × Int)) r => zif N s p x24 v.1 v.2 (fun at_ x25 => (r (at_, x25))) k0) N (at_, x25)

def z1je (N : Nat) (i : ((List UInt8) × DT9 × Int)) (v : ((List Bool) × Int)) (r : ((List Bool) × Int) -> Option Bool) (K : Ex -> List A -> Option Bool) : Option Bool :=
 zif N i.1 i.2.1 i.2.2 v.1 v.2 (fun at_ x25 => (r (at_, x25))) (fun a1 => (K (.exit 0) (mkS [(2, .box TT6), (2, .v (.sl .bool))] 44 (i.2.1, a1, ()))))

def z1g3 (N : Nat) : Hd Bool := fun st K => (unS SQ81 24 (restr [25, 24, 2, 5, 1] 0 st)).bind fun x => iter (fun v r => z1je N ((fun x => (x.1, x.2.1, x.2.2.2.1)) x) v r K) N ((fun x => (x.2.2.1, x.2.2.2.2.1)) x)

def t1_22 (N : Nat) : Tab Bool := []

theorem z1cc {N : Nat} {c : Ctx} (hb : Base Tryd.prog (z1mn N) c) : zh Tryd.prog c (ze zoh z12c) (z1g3 N) :=
  z1w (s := SQ81) (m := 24) (z1je N) [25, 24, 2, 5, 1] N (fun x => (x.1, x.2.1, x.2.2.2.1)) (fun x => (x.2.2.1, x.2.2.2.2.1)) (fun i v => (i.1, i.2.1, v.1, i.2.2, v.2, ())) (fun _ => rfl) (zd hb N (t1_22 N) L_22 zoh TabOk.nil [0, 0, 1, 0, 1, 1, 1, 1] _ rfl) (fun i v r K => by kernel_rfl)

def zie (N : Nat) (at_ : (List Bool)) (x39 : (List Int)) (x40 : Int) (x41 : Int) (rec : Int -> Option Bool) (k0 : Bool -> Option Bool) (k1 : Option Bool) : Option Bool :=
 cond (decide (x41 < x40))
 (cond (inR x41 (List.length x39))
 (cond (inR (List.getD x39 (Int.toNat x41) (0 : Int)) (List.length at_))
 (cond (List.getD at_ (Int.toNat (List.getD x39 (Int.toNat x41) (0 : Int))) false)
 (k0 true)
 (rec (IntKind.wrap IntKind.i64 (x41 + (1 : Int)))))
 (none))
 (none))
 (k1)

def zou (N : Nat) (at_ : (List Bool)) (x39 : (List Int)) (x40 : Int) (x41 : Int) (k0 : Bool -> Option Bool) (k1 : Option Bool) : Option Bool :=
 iter (fun (v : Int) r => zie N at_ x39 x40 v (fun x41 => (r x41)) k0 k1) N x41

def z1hw (N : Nat) (i : ((List Bool) × (List Int) × Int)) (v : Int) (r : Int -> Option Bool) (K : Ex -> List A -> Option Bool) : Option Bool :=
 zie N i.1 i.2.1 i.2.2 v (fun x41 => (r x41)) (fun a0 => (K .ret (mkS [(4, .v .bool)] 45 (a0, ())))) (K (.exit 2) (mkS [] 50 ()))

def z1el (N : Nat) : Hd Bool := fun st K => (unS SQ84 8 (restr [41, 40, 39, 5] 0 st)).bind fun x => iter (fun v r => z1hw N ((fun x => (x.1, x.2.1, x.2.2.1)) x) v r K) N ((fun x => x.2.2.2.1) x)

def t2_22 (N : Nat) : Tab Bool := []

theorem z1au {N : Nat} {c : Ctx} (hb : Base Tryd.prog (z1mn N) c) : zh Tryd.prog c (ze zoh zy5) (z1el N) :=
  z1w (s := SQ84) (m := 8) (z1hw N) [41, 40, 39, 5] N (fun x => (x.1, x.2.1, x.2.2.1)) (fun x => x.2.2.2.1) (fun i v => (i.1, i.2.1, i.2.2, v, ())) (fun _ => rfl) (zd hb N (t2_22 N) L_22 zoh TabOk.nil z17o _ rfl) (fun i v r K => by kernel_rfl)

def zf5 (N : Nat) (p : DT9) (s : (List UInt8)) : Option Bool :=
 (zit N p).bind fun y =>
 cond (!y)
 (some false)
 (cond (s == ([] : List UInt8))
 (some p.2.1)
 (cond (inR (0 : Int) (List.length s))
 ((zhp N p p.2.2.1 (((UInt8.toNat (List.getD s 0 (0 : UInt8))) : Nat) : Int)).bind fun y1 =>
 zov N s p y1 (IntKind.wrap IntKind.i64 ((((List.length s) : Nat) : Int) - (1 : Int))) (0 : Int)
 (fun at_ => zou N at_ p.2.2.2.1 (((List.length p.2.2.2.1) : Nat) : Int) (0 : Int)
 (fun x4 => some x4)
 (some false)))
 (none)))

def t_22 (N : Nat) : Tab Bool := [(z12c, z1g3 N), (zy5, z1el N)]

theorem z16e (N : Nat) (x : zz [(0, .v TT6), (0, .v .str)]) : z6k (z1mn N) N (t_22 N) L_22 Tryd.f15 (mkS [(0, .v TT6), (0, .v .str)] 0 x) (z4b (.v .bool) 2) = zf5 N x.1 x.2.1 := by kernel_rfl

def zgr (N : Nat) : List A -> Res := zu [(0, .v TT6), (0, .v .str)] (fun x => zf5 N x.1 x.2.1) (z75 (.v .bool) 2)

theorem zow (N : Nat) : Contract Tryd.prog glob 15 (zgr N) :=
  Contract.of (E := z1mn N) (H := t_22 N) (L := L_22) (N := N) (body := zoh) (K := (z4b (.v .bool) 2)) (z1ly N) Tryd.func15 (by kernel_rfl) (by decide) (fun _ hb => (TabOk.cons (z1cc hb) (TabOk.cons (z1au hb) TabOk.nil))) (fun x y h => by rw [z16e]; exact h) (z1b (s := (.v .bool)) (m := 2))

def zog : Code := (Tryd.f38.body).getD .skip

def L_23 : List (List Nat × List Nat) := [([0], [0, 1]), ([0, 0, 1], [22, 1, 0]), ([1, 0, 1], [1, 0]), ([0, 0, 1, 0, 1], [4]), ([1, 0, 1, 0, 1], [4]), ([0, 1, 1], [4]), ([1, 1, 1], [4])]

def z1mm (N : Nat) : Env := z1s tys glob [] [] [] [] false [] []

theorem z1lx (N : Nat) : EnvOk Tryd.prog (z1mm N) := zf mixed zq (FnsOk.nil) (ItsOk.nil)

def z7t (N : Nat) (low : Int) (high : Int) (k0 : Bool -> Option Bool) : Option Bool :=
 cond (decide (low < (0 : Int)))
 (k0 true)
 (cond (decide ((16 : Int) < low))
 (k0 true)
 (cond (decide ((16 : Int) < high))
 (k0 true)
 (cond (decide (high < (-(1 : Int))))
 (k0 true)
 (k0 (high == (0 : Int))))))

def z1hv (N : Nat) (x : zz SQ6) (K : Ex -> List A -> Option Bool) : Option Bool :=
 z7t N x.1 x.2.1 (fun a2 => (K .normal (mkS [(0, .v (.int .i64)), (0, .v (.int .i64)), (20, .v .bool)] 7 (x.1, x.2.1, a2, ()))))

def z1ek (N : Nat) : Hd Bool := fun st K => (unS SQ6 28 (restr [0, 1] 0 st)).bind fun x => z1hv N x K

def t2_23 (N : Nat) : Tab Bool := []

theorem z1at {N : Nat} {c : Ctx} (hb : Base Tryd.prog (z1mm N) c) : zh Tryd.prog c (ze zog [0, 0, 1]) (z1ek N) :=
  zi (s := SQ6) (m := 28) (g := z1hv N) [0, 1] (zd hb N (t2_23 N) L_23 zog TabOk.nil [0, 0, 1] _ rfl) (fun x K => by kernel_rfl)

def z7u (N : Nat) (low : Int) (high : Int) (k0 : Bool -> Option Bool) (k1 : Option Bool) : Option Bool :=
 z7t N low high
 (fun x22 => cond x22
 (k0 false)
 (k1))

def z1jd (N : Nat) (x : zz SQ6) (K : Ex -> List A -> Option Bool) : Option Bool :=
 z7u N x.1 x.2.1 (fun a0 => (K .ret (mkS [(4, .v .bool)] 25 (a0, ())))) (K .normal (mkS SQ6 28 (x.1, x.2.1, ())))

def z1g2 (N : Nat) : Hd Bool := fun st K => (unS SQ6 28 (restr [0, 1] 0 st)).bind fun x => z1jd N x K

def t1_23 (N : Nat) : Tab Bool := [([0, 0, 1], z1ek N)]

theorem z1cb {N : Nat} {c : Ctx} (hb : Base Tryd.prog (z1mm N) c) : zh Tryd.prog c (ze zog [0, 1]) (z1g2 N) :=
  zi (s := SQ6) (m := 28) (g := z1jd N) [0, 1] (zd hb N (t1_23 N) L_23 zog (TabOk.cons (z1at hb) TabOk.nil) [0, 1] _ rfl) (fun x K => by kernel_rfl)

def z1h (N : Nat) (low : Int) (high : Int) : Option Bool :=
 z7u N low high
 (fun x4 => some x4)
 (cond (high == (-(1 : Int)))
 (some true)
 (some (decide (low <= high))))

def t_23 (N : Nat) : Tab Bool := [([0, 1], z1g2 N)]

theorem z16d (N : Nat) (x : zz SQ6) : z6k (z1mm N) N (t_23 N) L_23 Tryd.f38 (mkS SQ6 0 x) (z4b (.v .bool) 2) = z1h N x.1 x.2.1 := by kernel_rfl

def zb8 (N : Nat) : List A -> Res := zu SQ6 (fun x => z1h N x.1 x.2.1) (z75 (.v .bool) 2)

theorem zi3 (N : Nat) : Contract Tryd.prog glob 38 (zb8 N) :=
  Contract.of (E := z1mm N) (H := t_23 N) (L := L_23) (N := N) (body := zog) (K := (z4b (.v .bool) 2)) (z1lx N) Tryd.func38 (by kernel_rfl) (by decide) (fun _ hb => (TabOk.cons (z1cb hb) TabOk.nil)) (fun x y h => by rw [z16d]; exact h) (z1b (s := (.v .bool)) (m := 2))

def z5c : Code := (Tryd.f21.body).getD .skip

def z10w : List (List Nat × List Nat) := [([0], [1]), ([0, 0, 1], [13, 1]), ([1, 0, 1], [1]), ([0, 0, 1, 0, 1], [2]), ([1, 0, 1, 0, 1], [2]), ([0, 1, 1], [1, 3]), ([0, 0, 1, 1, 1], [37, 1]), ([1, 0, 1, 1, 1], [1]), (zxx, [2]), (z13d, [2]), ([0, 1, 1, 1, 1], [1, 4]), (zkp, [82, 4, 1]), (zxw, [4, 1]), (z17o, [2]), (z10r, [2]), (z10o, [5, 4, 1]), (z13f, [5, 4, 1]), ([0, 0, 0, 0, 1, 0, 1, 1, 1, 1, 1, 1], [85, 1, 5, 4]), ([1, 0, 0, 0, 1, 0, 1, 1, 1, 1, 1, 1], [1, 5, 4]), ([1, 1, 0, 0, 0, 1, 0, 1, 1, 1, 1, 1, 1], []), (z1k5, [110, 5, 4, 1]), ([1, 0, 0, 1, 0, 0, 1, 0, 1, 1, 1, 1, 1, 1], [5, 4, 1]), ([0, 0, 1, 0, 0, 1, 0, 0, 1, 0, 1, 1, 1, 1, 1, 1], [2]), ([1, 0, 1, 0, 0, 1, 0, 0, 1, 0, 1, 1, 1, 1, 1, 1], [2]), (z1k3, [5, 4, 1]), ([1, 1, 0, 0, 1, 0, 1, 1, 1, 1, 1, 1], [5, 4, 1]), (z10n, []), (z10k, [2]), (z13e, [2])]

def zy6 (N : Nat) (self : DT1 -> Option Bool) : Env := z1s tys glob [(38, zb8 N), (21, zu [(0, .v TT0)] (fun x => self x.1) (z75 (.v .bool) 1))] [] [] [] false [] []

theorem z1lw (N : Nat) (self : DT1 -> Option Bool) (hself : Contract Tryd.prog glob 21 (zu [(0, .v TT0)] (fun x => self x.1) (z75 (.v .bool) 1))) : EnvOk Tryd.prog (zy6 N self) := zf mixed zq (FnsOk.cons (zi3 N) (FnsOk.cons (hself) (FnsOk.nil))) (ItsOk.nil)

def z83 (N : Nat) (self : DT1 -> Option Bool) (n : DT1) (k0 : Bool -> Option Bool) : Option Bool :=
 cond (decide (n.1 < (1 : Int)))
 (k0 true)
 (k0 (decide ((4 : Int) < n.1)))

def z1hu (N : Nat) (self : DT1 -> Option Bool) (x : zz [(1, .box TT0)]) (K : Ex -> List A -> Option Bool) : Option Bool :=
 z83 N self x.1 (fun a1 => (K .normal (mkS [(1, .box TT0), (11, .v .bool)] 97 (x.1, a1, ()))))

def z1ej (N : Nat) (self : DT1 -> Option Bool) : Hd Bool := fun st K => (unS [(1, .box TT0)] 109 (restr [1] 0 st)).bind fun x => z1hu N self x K

def t2_24 (N : Nat) (self : DT1 -> Option Bool) : Tab Bool := []

theorem z1as {N : Nat} {self : DT1 -> Option Bool} {c : Ctx} (hb : Base Tryd.prog (zy6 N self) c) : zh Tryd.prog c (ze z5c [0, 0, 1]) (z1ej N self) :=
  zi (s := [(1, .box TT0)]) (m := 109) (g := z1hu N self) [1] (zd hb N (t2_24 N self) z10w z5c TabOk.nil [0, 0, 1] _ rfl) (fun x K => by kernel_rfl)

def z84 (N : Nat) (self : DT1 -> Option Bool) (n : DT1) (k0 : Bool -> Option Bool) (k1 : Option Bool) : Option Bool :=
 z83 N self n
 (fun x13 => cond x13
 (k0 false)
 (k1))

def z1jc (N : Nat) (self : DT1 -> Option Bool) (x : zz [(1, .box TT0)]) (K : Ex -> List A -> Option Bool) : Option Bool :=
 z84 N self x.1 (fun a0 => (K .ret (mkS [(2, .v .bool)] 108 (a0, ())))) (K .normal (mkS [(1, .box TT0)] 109 (x.1, ())))

def z1g1 (N : Nat) (self : DT1 -> Option Bool) : Hd Bool := fun st K => (unS [(1, .box TT0)] 109 (restr [1] 0 st)).bind fun x => z1jc N self x K

def t1_24 (N : Nat) (self : DT1 -> Option Bool) : Tab Bool := [([0, 0, 1], z1ej N self)]

theorem z1ca {N : Nat} {self : DT1 -> Option Bool} {c : Ctx} (hb : Base Tryd.prog (zy6 N self) c) : zh Tryd.prog c (ze z5c [0, 1]) (z1g1 N self) :=
  zi (s := [(1, .box TT0)]) (m := 109) (g := z1jc N self) [1] (zd hb N (t1_24 N self) z10w z5c (TabOk.cons (z1as hb) TabOk.nil) [0, 1] _ rfl) (fun x K => by kernel_rfl)

def z81 (N : Nat) (self : DT1 -> Option Bool) (n : DT1) (none_ : (List Int)) (k0 : Bool -> Option Bool) : Option Bool :=
 cond (n.1 != (1 : Int))
 (cond (!(eqD (T.arr 4 (T.int IntKind.u64)) n.2.1 none_))
 (k0 true)
 (cond (n.1 != (4 : Int))
 (cond (n.2.2.2.1 != (0 : Int))
 (k0 true)
 (k0 (n.2.2.2.2.1 != (0 : Int))))
 (k0 false)))
 (cond (n.1 != (4 : Int))
 (cond (n.2.2.2.1 != (0 : Int))
 (k0 true)
 (k0 (n.2.2.2.2.1 != (0 : Int))))
 (k0 false))

def z1gt (N : Nat) (self : DT1 -> Option Bool) (x : zz z187) (K : Ex -> List A -> Option Bool) : Option Bool :=
 z81 N self x.1 x.2.1 (fun a1 => (K .normal (mkS [(1, .box TT0), (35, .v .bool)] 73 (x.1, a1, ()))))

def z1di (N : Nat) (self : DT1 -> Option Bool) : Hd Bool := fun st K => (unS z187 107 (restr [1, 3] 0 st)).bind fun x => z1gt N self x K

def t4_24 (N : Nat) (self : DT1 -> Option Bool) : Tab Bool := []

theorem z19r {N : Nat} {self : DT1 -> Option Bool} {c : Ctx} (hb : Base Tryd.prog (zy6 N self) c) : zh Tryd.prog c (ze z5c [0, 0, 1, 1, 1]) (z1di N self) :=
  zi (s := z187) (m := 107) (g := z1gt N self) [1, 3] (zd hb N (t4_24 N self) z10w z5c TabOk.nil [0, 0, 1, 1, 1] _ rfl) (fun x K => by kernel_rfl)

def z82 (N : Nat) (self : DT1 -> Option Bool) (n : DT1) (none_ : (List Int)) (k0 : Bool -> Option Bool) (k1 : Option Bool) : Option Bool :=
 z81 N self n none_
 (fun x37 => cond x37
 (k0 false)
 (k1))

def z1h5 (N : Nat) (self : DT1 -> Option Bool) (x : zz z187) (K : Ex -> List A -> Option Bool) : Option Bool :=
 z82 N self x.1 x.2.1 (fun a0 => (K .ret (mkS [(2, .v .bool)] 108 (a0, ())))) (K .normal (mkS [(1, .box TT0)] 109 (x.1, ())))

def z1du (N : Nat) (self : DT1 -> Option Bool) : Hd Bool := fun st K => (unS z187 107 (restr [1, 3] 0 st)).bind fun x => z1h5 N self x K

def t3_24 (N : Nat) (self : DT1 -> Option Bool) : Tab Bool := [([0, 0, 1, 1, 1], z1di N self)]

theorem z1a3 {N : Nat} {self : DT1 -> Option Bool} {c : Ctx} (hb : Base Tryd.prog (zy6 N self) c) : zh Tryd.prog c (ze z5c [0, 1, 1, 1]) (z1du N self) :=
  zi (s := z187) (m := 107) (g := z1h5 N self) [1, 3] (zd hb N (t3_24 N self) z10w z5c (TabOk.cons (z19r hb) TabOk.nil) [0, 1, 1, 1] _ rfl) (fun x K => by kernel_rfl)

def z7z (N : Nat) (self : DT1 -> Option Bool) (n : DT1) (k : Int) (k0 : Bool -> Option Bool) : Option Bool :=
 cond (n.1 == (1 : Int))
 (cond (k != (0 : Int))
 (k0 true)
 (cond (n.1 == (2 : Int))
 (cond (k == (1 : Int))
 (k0 true)
 (cond (n.1 == (3 : Int))
 (cond (decide (k < (2 : Int)))
 (k0 true)
 (cond (n.1 == (4 : Int))
 (cond (k != (1 : Int))
 (k0 true)
 ((z1h N n.2.2.2.1 n.2.2.2.2.1).bind fun y =>
 k0 (!y)))
 (k0 false)))
 (cond (n.1 == (4 : Int))
 (cond (k != (1 : Int))
 (k0 true)
 ((z1h N n.2.2.2.1 n.2.2.2.2.1).bind fun y1 =>
 k0 (!y1)))
 (k0 false))))
 (cond (n.1 == (3 : Int))
 (cond (decide (k < (2 : Int)))
 (k0 true)
 (cond (n.1 == (4 : Int))
 (cond (k != (1 : Int))
 (k0 true)
 ((z1h N n.2.2.2.1 n.2.2.2.2.1).bind fun y2 =>
 k0 (!y2)))
 (k0 false)))
 (cond (n.1 == (4 : Int))
 (cond (k != (1 : Int))
 (k0 true)
 ((z1h N n.2.2.2.1 n.2.2.2.2.1).bind fun y3 =>
 k0 (!y3)))
 (k0 false)))))
 (cond (n.1 == (2 : Int))
 (cond (k == (1 : Int))
 (k0 true)
 (cond (n.1 == (3 : Int))
 (cond (decide (k < (2 : Int)))
 (k0 true)
 (cond (n.1 == (4 : Int))
 (cond (k != (1 : Int))
 (k0 true)
 ((z1h N n.2.2.2.1 n.2.2.2.2.1).bind fun y4 =>
 k0 (!y4)))
 (k0 false)))
 (cond (n.1 == (4 : Int))
 (cond (k != (1 : Int))
 (k0 true)
 ((z1h N n.2.2.2.1 n.2.2.2.2.1).bind fun y5 =>
 k0 (!y5)))
 (k0 false))))
 (cond (n.1 == (3 : Int))
 (cond (decide (k < (2 : Int)))
 (k0 true)
 (cond (n.1 == (4 : Int))
 (cond (k != (1 : Int))
 (k0 true)
 ((z1h N n.2.2.2.1 n.2.2.2.2.1).bind fun y6 =>
 k0 (!y6)))
 (k0 false)))
 (cond (n.1 == (4 : Int))
 (cond (k != (1 : Int))
 (k0 true)
 ((z1h N n.2.2.2.1 n.2.2.2.2.1).bind fun y7 =>
 k0 (!y7)))
 (k0 false))))

def z1gi (N : Nat) (self : DT1 -> Option Bool) (x : zz z17i) (K : Ex -> List A -> Option Bool) : Option Bool :=
 z7z N self x.1 x.2.1 (fun a2 => (K .normal (mkS [(1, .box TT0), (2, .v (.int .i64)), (77, .v .bool)] 28 (x.1, x.2.1, a2, ()))))

def z1d7 (N : Nat) (self : DT1 -> Option Bool) : Hd Bool := fun st K => (unS z17i 106 (restr [1, 4] 0 st)).bind fun x => z1gi N self x K

def t6_24 (N : Nat) (self : DT1 -> Option Bool) : Tab Bool := []

theorem z19g {N : Nat} {self : DT1 -> Option Bool} {c : Ctx} (hb : Base Tryd.prog (zy6 N self) c) : zh Tryd.prog c (ze z5c zkp) (z1d7 N self) :=
  zi (s := z17i) (m := 106) (g := z1gi N self) [1, 4] (zd hb N (t6_24 N self) z10w z5c TabOk.nil zkp _ rfl) (fun x K => by kernel_rfl)

def z80 (N : Nat) (self : DT1 -> Option Bool) (n : DT1) (k : Int) (k0 : Bool -> Option Bool) (k1 : Option Bool) : Option Bool :=
 z7z N self n k
 (fun x82 => cond x82
 (k0 false)
 (k1))

def z1gm (N : Nat) (self : DT1 -> Option Bool) (x : zz z17i) (K : Ex -> List A -> Option Bool) : Option Bool :=
 z80 N self x.1 x.2.1 (fun a0 => (K .ret (mkS [(2, .v .bool)] 108 (a0, ())))) (K .normal (mkS z17i 106 (x.1, x.2.1, ())))

def z1db (N : Nat) (self : DT1 -> Option Bool) : Hd Bool := fun st K => (unS z17i 106 (restr [1, 4] 0 st)).bind fun x => z1gm N self x K

def t5_24 (N : Nat) (self : DT1 -> Option Bool) : Tab Bool := [(zkp, z1d7 N self)]

theorem z19k {N : Nat} {self : DT1 -> Option Bool} {c : Ctx} (hb : Base Tryd.prog (zy6 N self) c) : zh Tryd.prog c (ze z5c [0, 1, 1, 1, 1, 1]) (z1db N self) :=
  zi (s := z17i) (m := 106) (g := z1gm N self) [1, 4] (zd hb N (t5_24 N self) z10w z5c (TabOk.cons (z19g hb) TabOk.nil) [0, 1, 1, 1, 1, 1] _ rfl) (fun x K => by kernel_rfl)

def z7w (N : Nat) (self : DT1 -> Option Bool) (n : DT1) (k : Int) (i : Int) (k0 : Bool -> Option Bool) : Option Bool :=
 cond (inR i (List.length n.2.2.1))
 ((self (unN (List.getD n.2.2.1 (Int.toNat i) (Tree.mk (0 : Int) ([] : List Int) ([] : List Tree) (0 : Int) (0 : Int))))).bind fun y =>
 cond (!y)
 (k0 true)
 (cond (inR i (List.length n.2.2.1))
 (cond ((unN (List.getD n.2.2.1 (Int.toNat i) (Tree.mk (0 : Int) ([] : List Int) ([] : List Tree) (0 : Int) (0 : Int)))).1 == n.1)
 (k0 (decide (n.1 < (4 : Int))))
 (k0 false))
 (none)))
 (none)

def z1gd (N : Nat) (self : DT1 -> Option Bool) (x : zz z128) (K : Ex -> List A -> Option Bool) : Option Bool :=
 z7w N self x.1 x.2.1 x.2.2.1 (fun a3 => (K .normal (mkS [(1, .box TT0), (2, .v (.int .i64)), (0, .v (.int .i64)), (104, .v .bool)] 0 (x.1, x.2.1, x.2.2.1, a3, ()))))

def z1d2 (N : Nat) (self : DT1 -> Option Bool) : Hd Bool := fun st K => (unS z128 105 (restr [1, 5, 4] 0 st)).bind fun x => z1gd N self x K

def t9_24 (N : Nat) (self : DT1 -> Option Bool) : Tab Bool := []

theorem z19b {N : Nat} {self : DT1 -> Option Bool} {c : Ctx} (hb : Base Tryd.prog (zy6 N self) c) : zh Tryd.prog c (ze z5c z1k5) (z1d2 N self) :=
  zi (s := z128) (m := 105) (g := z1gd N self) [1, 5, 4] (zd hb N (t9_24 N self) z10w z5c TabOk.nil z1k5 _ rfl) (fun x K => by kernel_rfl)

def z7x (N : Nat) (self : DT1 -> Option Bool) (n : DT1) (k : Int) (i : Int) (k0 : Bool -> Option Bool) (k1 : Option Bool) : Option Bool :=
 z7w N self n k i
 (fun x110 => cond x110
 (k0 false)
 (k1))

def z1ge (N : Nat) (self : DT1 -> Option Bool) (x : zz z128) (K : Ex -> List A -> Option Bool) : Option Bool :=
 z7x N self x.1 x.2.1 x.2.2.1 (fun a0 => (K .ret (mkS [(2, .v .bool)] 108 (a0, ())))) (K .normal (mkS z128 105 (x.1, x.2.1, x.2.2.1, ())))

def z1d3 (N : Nat) (self : DT1 -> Option Bool) : Hd Bool := fun st K => (unS z128 105 (restr [1, 5, 4] 0 st)).bind fun x => z1ge N self x K

def t8_24 (N : Nat) (self : DT1 -> Option Bool) : Tab Bool := [(z1k5, z1d2 N self)]

theorem z19c {N : Nat} {self : DT1 -> Option Bool} {c : Ctx} (hb : Base Tryd.prog (zy6 N self) c) : zh Tryd.prog c (ze z5c z1k3) (z1d3 N self) :=
  zi (s := z128) (m := 105) (g := z1ge N self) [1, 5, 4] (zd hb N (t8_24 N self) z10w z5c (TabOk.cons (z19b hb) TabOk.nil) z1k3 _ rfl) (fun x K => by kernel_rfl)

def z7v (N : Nat) (self : DT1 -> Option Bool) (n : DT1) (k : Int) (i : Int) (rec : Int -> Option Bool) (k0 : Bool -> Option Bool) (k1 : Option Bool) : Option Bool :=
 cond (decide (i < k))
 (z7x N self n k i
 (fun x2 => k0 x2)
 (rec (IntKind.wrap IntKind.i64 (i + (1 : Int)))))
 (k1)

def z7y (N : Nat) (self : DT1 -> Option Bool) (n : DT1) (k : Int) (i : Int) (k0 : Bool -> Option Bool) (k1 : Option Bool) : Option Bool :=
 iter (fun (v : Int) r => z7v N self n k v (fun i => (r i)) k0 k1) N i

def z1gf (N : Nat) (self : DT1 -> Option Bool) (i : (DT1 × Int)) (v : Int) (r : Int -> Option Bool) (K : Ex -> List A -> Option Bool) : Option Bool :=
 z7v N self i.1 i.2 v (fun i => (r i)) (fun a0 => (K .ret (mkS [(2, .v .bool)] 108 (a0, ())))) (K (.exit 0) (mkS [] 111 ()))

def z1d4 (N : Nat) (self : DT1 -> Option Bool) : Hd Bool := fun st K => (unS z128 105 (restr [5, 4, 1] 0 st)).bind fun x => iter (fun v r => z1gf N self ((fun x => (x.1, x.2.1)) x) v r K) N ((fun x => x.2.2.1) x)

def t7_24 (N : Nat) (self : DT1 -> Option Bool) : Tab Bool := [(z1k3, z1d3 N self)]

theorem z19d {N : Nat} {self : DT1 -> Option Bool} {c : Ctx} (hb : Base Tryd.prog (zy6 N self) c) : zh Tryd.prog c (ze z5c z13f) (z1d4 N self) :=
  z1w (s := z128) (m := 105) (z1gf N self) [5, 4, 1] N (fun x => (x.1, x.2.1)) (fun x => x.2.2.1) (fun i v => (i.1, i.2, v, ())) (fun _ => rfl) (zd hb N (t7_24 N self) z10w z5c (TabOk.cons (z19c hb) TabOk.nil) [0, 0, 1, 0, 1, 1, 1, 1, 1, 1] _ rfl) (fun i v r K => by kernel_rfl)

def z5r (N : Nat) (self : DT1 -> Option Bool) (n : DT1) : Option Bool :=
 z84 N self n
 (fun x2 => some x2)
 (z82 N self n ([(0 : Int), (0 : Int), (0 : Int), (0 : Int)] : List Int)
 (fun x21 => some x21)
 (z80 N self n (((List.length n.2.2.1) : Nat) : Int)
 (fun x22 => some x22)
 (z7y N self n (((List.length n.2.2.1) : Nat) : Int) (0 : Int)
 (fun x23 => some x23)
 (some true))))

def t_24 (N : Nat) (self : DT1 -> Option Bool) : Tab Bool := [([0, 1], z1g1 N self), ([0, 1, 1, 1], z1du N self), ([0, 1, 1, 1, 1, 1], z1db N self), (z13f, z1d4 N self)]

theorem z16c (N : Nat) (self : DT1 -> Option Bool) (x : zz [(0, .v TT0)]) : z6k (zy6 N self) N (t_24 N self) z10w Tryd.f21 (mkS [(0, .v TT0)] 0 x) (z4b (.v .bool) 1) = z5r N self x.1 := by kernel_rfl

def z1z : Nat -> DT1 -> Option Bool
  | 0 => fun _ => none
  | N + 1 => z5r (N + 1) (z1z N)

def z70 (N : Nat) : List A -> Res := zu [(0, .v TT0)] (fun x => z1z N x.1) (z75 (.v .bool) 1)

theorem z85 : ∀ N : Nat, Contract Tryd.prog glob 21 (z70 N)
  | 0 => Contract.zero Tryd.func21 (body := z5c) (by kernel_rfl) (by decide) (fun _ => rfl)
  | N + 1 => Contract.of (E := zy6 (N + 1) (z1z N)) (H := t_24 (N + 1) (z1z N)) (L := z10w) (N := (N + 1)) (body := z5c) (K := (z4b (.v .bool) 1)) (z1lw (N + 1) (z1z N) (z85 N)) Tryd.func21 (by kernel_rfl) (by decide) (fun _ hb => (TabOk.cons (z1ca hb) (TabOk.cons (z1a3 hb) (TabOk.cons (z19k hb) (TabOk.cons (z19d hb) TabOk.nil))))) (fun x y h => by rw [z16c]; exact h) (z1b (s := (.v .bool)) (m := 1))

def zhg : Code := (Tryd.f22.body).getD .skip

def z1k9 : List (List Nat × List Nat) := [([0], [1]), ([0, 0, 1], [7, 1]), ([1, 0, 1], [1]), ([0, 0, 1, 0, 1], [2]), ([1, 0, 1, 0, 1], [2]), ([0, 1, 1], [1, 3]), ([0, 0, 1, 1, 1], [4, 1, 3]), ([0, 1, 0, 1, 1, 1], [4, 1, 3]), ([0, 0, 0, 0, 1, 0, 1, 1, 1], [12, 3, 1, 4]), ([1, 0, 0, 0, 1, 0, 1, 1, 1], [3, 1, 4]), ([1, 1, 0, 0, 0, 1, 0, 1, 1, 1], [1, 3]), ([0, 0, 1, 0, 0, 1, 0, 1, 1, 1], [4, 1, 3]), (z10s, [4, 1, 3]), ([1, 1, 0, 0, 1, 0, 1, 1, 1], [4, 1, 3]), ([1, 0, 1, 1, 1], [1, 3]), ([0, 0, 1, 1, 1, 1], [30, 3, 1]), ([1, 0, 1, 1, 1, 1], [3]), ([0, 1, 1, 0, 1, 1, 1, 1], [38, 3, 1]), ([1, 1, 1, 0, 1, 1, 1, 1], [3]), ([0, 1, 1, 1, 0, 1, 1, 1, 1], [3]), (z12c, [3]), (zkp, [44, 3]), (zxw, [3]), (z17o, [2]), (z10r, [2]), (zxv, [2]), (z12a, [2])]

def z18p (N : Nat) (self : DT1 -> Option Int) : Env := z1s tys glob [(22, zu [(0, .v TT0)] (fun x => self x.1) (z75 (.v (.int .i64)) 1))] [] [] [] false [] []

theorem z1lv (N : Nat) (self : DT1 -> Option Int) (hself : Contract Tryd.prog glob 22 (zu [(0, .v TT0)] (fun x => self x.1) (z75 (.v (.int .i64)) 1))) : EnvOk Tryd.prog (z18p N self) := zf mixed zq (FnsOk.cons (hself) (FnsOk.nil)) (ItsOk.nil)

def z2x (N : Nat) (self : DT1 -> Option Int) (n : DT1) (all : Int) (i : Int) (rec : Int -> Int -> Option Int) (k0 : Int -> Option Int) : Option Int :=
 cond (decide (i < (((List.length n.2.2.1) : Nat) : Int)))
 (cond (inR i (List.length n.2.2.1))
 ((self (unN (List.getD n.2.2.1 (Int.toNat i) (Tree.mk (0 : Int) ([] : List Int) ([] : List Tree) (0 : Int) (0 : Int))))).bind fun y =>
 rec (IntKind.wrap IntKind.i64 (all + y)) (IntKind.wrap IntKind.i64 (i + (1 : Int))))
 (none))
 (k0 all)

def zc2 (N : Nat) (self : DT1 -> Option Int) (n : DT1) (all : Int) (i : Int) (k0 : Int -> Option Int) : Option Int :=
 iter (fun (v : (Int × Int)) r => z2x N self n v.1 v.2 (fun all i => (r (all, i))) k0) N (all, i)

def z1jb (N : Nat) (self : DT1 -> Option Int) (i : DT1) (v : (Int × Int)) (r : (Int × Int) -> Option Int) (K : Ex -> List A -> Option Int) : Option Int :=
 z2x N self i v.1 v.2 (fun all i => (r (all, i))) (fun a1 => (K (.exit 0) (mkS zv7 42 (i, a1, ()))))

def z1g0 (N : Nat) (self : DT1 -> Option Int) : Hd Int := fun st K => (unS [(1, .box TT0), (1, .v (.int .i64)), (0, .v (.int .i64))] 41 (restr [4, 1, 3] 0 st)).bind fun x => iter (fun v r => z1jb N self ((fun x => x.1) x) v r K) N ((fun x => (x.2.1, x.2.2.1)) x)

def t1_25 (N : Nat) (self : DT1 -> Option Int) : Tab Int := []

theorem z1c9 {N : Nat} {self : DT1 -> Option Int} {c : Ctx} (hb : Base Tryd.prog (z18p N self) c) : zh Tryd.prog c (ze zhg [0, 1, 0, 1, 1, 1]) (z1g0 N self) :=
  z1w (s := [(1, .box TT0), (1, .v (.int .i64)), (0, .v (.int .i64))]) (m := 41) (z1jb N self) [4, 1, 3] N (fun x => x.1) (fun x => (x.2.1, x.2.2.1)) (fun i v => (i, v.1, v.2, ())) (fun _ => rfl) (zd hb N (t1_25 N self) z1k9 zhg TabOk.nil zxx _ rfl) (fun i v r K => by kernel_rfl)

def z7r (N : Nat) (self : DT1 -> Option Int) (n : DT1) (all : Int) (k0 : Bool -> Option Int) : Option Int :=
 cond (n.1 == (4 : Int))
 (k0 (n.2.2.2.2.1 == (-(1 : Int))))
 (k0 false)

def z1h4 (N : Nat) (self : DT1 -> Option Int) (x : zz zv7) (K : Ex -> List A -> Option Int) : Option Int :=
 z7r N self x.1 x.2.1 (fun a2 => (K .normal (mkS [(1, .box TT0), (1, .v (.int .i64)), (26, .v .bool)] 15 (x.1, x.2.1, a2, ()))))

def z1dt (N : Nat) (self : DT1 -> Option Int) : Hd Int := fun st K => (unS zv7 42 (restr [1, 3] 0 st)).bind fun x => z1h4 N self x K

def t3_25 (N : Nat) (self : DT1 -> Option Int) : Tab Int := []

theorem z1a2 {N : Nat} {self : DT1 -> Option Int} {c : Ctx} (hb : Base Tryd.prog (z18p N self) c) : zh Tryd.prog c (ze zhg [0, 0, 1, 1, 1, 1]) (z1dt N self) :=
  zi (s := zv7) (m := 42) (g := z1h4 N self) [1, 3] (zd hb N (t3_25 N self) z1k9 zhg TabOk.nil [0, 0, 1, 1, 1, 1] _ rfl) (fun x K => by kernel_rfl)

def z7s (N : Nat) (self : DT1 -> Option Int) (n : DT1) (all : Int) (k0 : Int -> Option Int) : Option Int :=
 z7r N self n all
 (fun x30 => cond x30
 (k0 (IntKind.wrap IntKind.i64 (all * (IntKind.wrap IntKind.i64 (n.2.2.2.1 + (1 : Int))))))
 (cond (n.1 == (4 : Int))
 (k0 (IntKind.wrap IntKind.i64 (all * n.2.2.2.2.1)))
 (k0 all)))

def z1ht (N : Nat) (self : DT1 -> Option Int) (x : zz zv7) (K : Ex -> List A -> Option Int) : Option Int :=
 z7s N self x.1 x.2.1 (fun a0 => (K .normal (mkS [(3, .v (.int .i64))] 42 (a0, ()))))

def z1ei (N : Nat) (self : DT1 -> Option Int) : Hd Int := fun st K => (unS zv7 42 (restr [1, 3] 0 st)).bind fun x => z1ht N self x K

def t2_25 (N : Nat) (self : DT1 -> Option Int) : Tab Int := [([0, 0, 1, 1, 1, 1], z1dt N self)]

theorem z1ar {N : Nat} {self : DT1 -> Option Int} {c : Ctx} (hb : Base Tryd.prog (z18p N self) c) : zh Tryd.prog c (ze zhg [0, 1, 1, 1, 1]) (z1ei N self) :=
  zi (s := zv7) (m := 42) (g := z1ht N self) [1, 3] (zd hb N (t2_25 N self) z1k9 zhg (TabOk.cons (z1a2 hb) TabOk.nil) [0, 1, 1, 1, 1] _ rfl) (fun x K => by kernel_rfl)

def z5p (N : Nat) (self : DT1 -> Option Int) (n : DT1) : Option Int :=
 cond (n.1 == (1 : Int))
 (some (1 : Int))
 (zc2 N self n (0 : Int) (0 : Int)
 (fun all => z7s N self n all
 (fun all1 => cond (decide ((513 : Int) < all1))
 (some (513 : Int))
 (some all1))))

def t_25 (N : Nat) (self : DT1 -> Option Int) : Tab Int := [([0, 1, 0, 1, 1, 1], z1g0 N self), ([0, 1, 1, 1, 1], z1ei N self)]

theorem z16b (N : Nat) (self : DT1 -> Option Int) (x : zz [(0, .v TT0)]) : z6k (z18p N self) N (t_25 N self) z1k9 Tryd.f22 (mkS [(0, .v TT0)] 0 x) (z4b (.v (.int .i64)) 1) = z5p N self x.1 := by kernel_rfl

def z1r : Nat -> DT1 -> Option Int
  | 0 => fun _ => none
  | N + 1 => z5p (N + 1) (z1r N)

def z4m (N : Nat) : List A -> Res := zu [(0, .v TT0)] (fun x => z1r N x.1) (z75 (.v (.int .i64)) 1)

theorem z55 : ∀ N : Nat, Contract Tryd.prog glob 22 (z4m N)
  | 0 => Contract.zero Tryd.func22 (body := zhg) (by kernel_rfl) (by decide) (fun _ => rfl)
  | N + 1 => Contract.of (E := z18p (N + 1) (z1r N)) (H := t_25 (N + 1) (z1r N)) (L := z1k9) (N := (N + 1)) (body := zhg) (K := (z4b (.v (.int .i64)) 1)) (z1lv (N + 1) (z1r N) (z55 N)) Tryd.func22 (by kernel_rfl) (by decide) (fun _ hb => (TabOk.cons (z1c9 hb) (TabOk.cons (z1ar hb) TabOk.nil))) (fun x y h => by rw [z16b]; exact h) (z1b (s := (.v (.int .i64))) (m := 1))

def zv0 : Code := (Tryd.f33.body).getD .skip

def L_26 : List (List Nat × List Nat) := [([0], [0, 1]), ([0, 0, 1], [5, 0, 1]), ([0, 1, 0, 1], [5, 0, 1]), ([0, 0, 0, 0, 1, 0, 1], [9, 0, 5, 1]), ([1, 0, 0, 0, 1, 0, 1], [0, 5, 1]), ([1, 1, 0, 0, 0, 1, 0, 1], []), ([0, 0, 0, 1, 0, 0, 1, 0, 1], [17, 5, 0, 1]), ([1, 0, 0, 1, 0, 0, 1, 0, 1], [5, 0, 1]), ([0, 0, 1, 0, 0, 1, 0, 0, 1, 0, 1], [4]), ([1, 0, 1, 0, 0, 1, 0, 0, 1, 0, 1], [4]), ([0, 1, 0, 0, 1, 0, 1], [5, 0, 1]), ([1, 1, 0, 0, 1, 0, 1], [5, 0, 1]), ([1, 0, 1], []), ([0, 1, 1], [4]), ([1, 1, 1], [4])]

def E_26 (N : Nat) : Env := z1s tys glob [] [] [] [] false [] []

theorem z1lu (N : Nat) : EnvOk Tryd.prog (E_26 N) := zf mixed zq (FnsOk.nil) (ItsOk.nil)

def z40 (N : Nat) (l : (List Int)) (n : Int) (i : Int) (rec : Int -> Option Bool) (k0 : Bool -> Option Bool) (k1 : Option Bool) : Option Bool :=
 cond (decide (i < (((List.length l) : Nat) : Int)))
 (cond (inR i (List.length l))
 (cond ((List.getD l (Int.toNat i) (0 : Int)) == n)
 (k0 true)
 (rec (IntKind.wrap IntKind.i64 (i + (1 : Int)))))
 (none))
 (k1)

def zet (N : Nat) (l : (List Int)) (n : Int) (i : Int) (k0 : Bool -> Option Bool) (k1 : Option Bool) : Option Bool :=
 iter (fun (v : Int) r => z40 N l n v (fun i => (r i)) k0 k1) N i

def z1ja (N : Nat) (i : ((List Int) × Int)) (v : Int) (r : Int -> Option Bool) (K : Ex -> List A -> Option Bool) : Option Bool :=
 z40 N i.1 i.2 v (fun i => (r i)) (fun a0 => (K .ret (mkS [(4, .v .bool)] 13 (a0, ())))) (K (.exit 0) (mkS [] 18 ()))

def z1fz (N : Nat) : Hd Bool := fun st K => (unS [(0, .v (.sl (.int .i64))), (0, .v (.int .i64)), (3, .v (.int .i64))] 12 (restr [5, 0, 1] 0 st)).bind fun x => iter (fun v r => z1ja N ((fun x => (x.1, x.2.1)) x) v r K) N ((fun x => x.2.2.1) x)

def t1_26 (N : Nat) : Tab Bool := []

theorem z1c8 {N : Nat} {c : Ctx} (hb : Base Tryd.prog (E_26 N) c) : zh Tryd.prog c (ze zv0 [0, 1, 0, 1]) (z1fz N) :=
  z1w (s := [(0, .v (.sl (.int .i64))), (0, .v (.int .i64)), (3, .v (.int .i64))]) (m := 12) (z1ja N) [5, 0, 1] N (fun x => (x.1, x.2.1)) (fun x => x.2.2.1) (fun i v => (i.1, i.2, v, ())) (fun _ => rfl) (zd hb N (t1_26 N) L_26 zv0 TabOk.nil [0, 0, 1, 0, 1] _ rfl) (fun i v r K => by kernel_rfl)

def z4u (N : Nat) (l : (List Int)) (n : Int) : Option Bool :=
 zet N l n (0 : Int)
 (fun x4 => some x4)
 (some false)

def t_26 (N : Nat) : Tab Bool := [([0, 1, 0, 1], z1fz N)]

theorem z16a (N : Nat) (x : zz z17j) : z6k (E_26 N) N (t_26 N) L_26 Tryd.f33 (mkS z17j 0 x) (z4b (.v .bool) 2) = z4u N x.1 x.2.1 := by kernel_rfl

def za5 (N : Nat) : List A -> Res := zu z17j (fun x => z4u N x.1 x.2.1) (z75 (.v .bool) 2)

theorem zeu (N : Nat) : Contract Tryd.prog glob 33 (za5 N) :=
  Contract.of (E := E_26 N) (H := t_26 N) (L := L_26) (N := N) (body := zv0) (K := (z4b (.v .bool) 2)) (z1lu N) Tryd.func33 (by kernel_rfl) (by decide) (fun _ hb => (TabOk.cons (z1c8 hb) TabOk.nil)) (fun x y h => by rw [z16a]; exact h) (z1b (s := (.v .bool)) (m := 2))

def zji : Code := (Tryd.f32.body).getD .skip

def z1k8 : List (List Nat × List Nat) := [([0], [2, 0, 1]), ([0, 1], [2, 0, 1, 7]), ([0, 0, 1, 1], [8, 2, 0, 1, 7]), ([0, 1, 0, 1, 1], [8, 2, 0, 1, 7]), (zy1, [11, 0, 8, 1, 7, 2]), (zy0, [0, 8, 1, 7, 2]), (z18g, [7]), (z13g, [21, 7, 8, 2, 0, 1]), (z12d, [8, 2, 0, 1, 7]), ([0, 1, 0, 0, 1, 0, 0, 1, 0, 1, 1], [8, 2, 0, 1, 7]), (zq9, [8, 2, 0, 1, 7]), (zxz, [8, 2, 0, 1, 7]), ([1, 0, 1, 1], [7]), ([0, 1, 1, 1], [6]), ([1, 1, 1, 1], [6])]

def z18o (N : Nat) : Env := z1s tys glob [(33, za5 N)] [(7, (.int .i64)), (6, (.int .i64))] [] [] false [] []

theorem z1lt (N : Nat) : EnvOk Tryd.prog (z18o N) := zf mixed zq (FnsOk.cons (zeu N) (FnsOk.nil)) (ItsOk.nil)

def z8t (N : Nat) (a : (List Int)) (b : (List Int)) (many : Int) (out : (List Int)) (n : Int) (k0 : Bool -> Option (List Int)) : Option (List Int) :=
 (z4u N a n).bind fun y =>
 cond y
 (k0 true)
 ((z4u N b n).bind fun y1 =>
 k0 y1)

def z1h3 (N : Nat) (x : zz SQ5) (K : Ex -> List A -> Option (List Int)) : Option (List Int) :=
 z8t N x.1 x.2.1 x.2.2.1 x.2.2.2.1 x.2.2.2.2.1 (fun a5 => (K .normal (mkS [(0, .v (.sl (.int .i64))), (0, .v (.sl (.int .i64))), (0, .v (.int .i64)), (4, .row (.int .i64)), (0, .v (.int .i64)), (12, .v .bool)] 5 (x.1, x.2.1, x.2.2.1, x.2.2.2.1, x.2.2.2.2.1, a5, ()))))

def z1ds (N : Nat) : Hd (List Int) := fun st K => (unS SQ5 18 (restr [0, 8, 1, 7, 2] 0 st)).bind fun x => z1h3 N x K

def t3_27 (N : Nat) : Tab (List Int) := []

theorem z1a1 {N : Nat} {c : Ctx} (hb : Base Tryd.prog (z18o N) c) : zh Tryd.prog c (ze zji z13g) (z1ds N) :=
  zi (s := SQ5) (m := 18) (g := z1h3 N) [0, 8, 1, 7, 2] (zd hb N (t3_27 N) z1k8 zji TabOk.nil z13g _ rfl) (fun x K => by kernel_rfl)

def z8u (N : Nat) (a : (List Int)) (b : (List Int)) (many : Int) (out : (List Int)) (n : Int) (k0 : (List Int) -> Option (List Int)) : Option (List Int) :=
 z8t N a b many out n
 (fun x21 => cond x21
 (cond (decide ((((List.length out) + 1) * 8) <= 70368744177664))
 (k0 (out ++ ([n] : List Int)))
 (none))
 (k0 out))

def z1hs (N : Nat) (x : zz SQ5) (K : Ex -> List A -> Option (List Int)) : Option (List Int) :=
 z8u N x.1 x.2.1 x.2.2.1 x.2.2.2.1 x.2.2.2.2.1 (fun a3 => (K .normal (mkS SQ5 18 (x.1, x.2.1, x.2.2.1, a3, x.2.2.2.2.1, ()))))

def z1eh (N : Nat) : Hd (List Int) := fun st K => (unS SQ5 18 (restr [0, 8, 1, 7, 2] 0 st)).bind fun x => z1hs N x K

def t2_27 (N : Nat) : Tab (List Int) := [(z13g, z1ds N)]

theorem z1aq {N : Nat} {c : Ctx} (hb : Base Tryd.prog (z18o N) c) : zh Tryd.prog c (ze zji zq9) (z1eh N) :=
  zi (s := SQ5) (m := 18) (g := z1hs N) [0, 8, 1, 7, 2] (zd hb N (t2_27 N) z1k8 zji (TabOk.cons (z1a1 hb) TabOk.nil) zq9 _ rfl) (fun x K => by kernel_rfl)

def z33 (N : Nat) (a : (List Int)) (b : (List Int)) (many : Int) (out : (List Int)) (n : Int) (rec : (List Int) -> Int -> Option (List Int)) (k0 : (List Int) -> Option (List Int)) : Option (List Int) :=
 cond (decide (n < many))
 (z8u N a b many out n
 (fun out1 => rec out1 (IntKind.wrap IntKind.i64 (n + (1 : Int)))))
 (k0 out)

def zdf (N : Nat) (a : (List Int)) (b : (List Int)) (many : Int) (out : (List Int)) (n : Int) (k0 : (List Int) -> Option (List Int)) : Option (List Int) :=
 iter (fun (v : ((List Int) × Int)) r => z33 N a b many v.1 v.2 (fun out n => (r (out, n))) k0) N (out, n)

def z1j9 (N : Nat) (i : ((List Int) × (List Int) × Int)) (v : ((List Int) × Int)) (r : ((List Int) × Int) -> Option (List Int)) (K : Ex -> List A -> Option (List Int)) : Option (List Int) :=
 z33 N i.1 i.2.1 i.2.2 v.1 v.2 (fun out n => (r (out, n))) (fun a0 => (K (.exit 0) (mkS [(7, .row (.int .i64))] 19 (a0, ()))))

def z1fy (N : Nat) : Hd (List Int) := fun st K => (unS SQ5 18 (restr [8, 2, 0, 1, 7] 0 st)).bind fun x => iter (fun v r => z1j9 N ((fun x => (x.1, x.2.1, x.2.2.1)) x) v r K) N ((fun x => (x.2.2.2.1, x.2.2.2.2.1)) x)

def t1_27 (N : Nat) : Tab (List Int) := [(zq9, z1eh N)]

theorem z1c7 {N : Nat} {c : Ctx} (hb : Base Tryd.prog (z18o N) c) : zh Tryd.prog c (ze zji [0, 1, 0, 1, 1]) (z1fy N) :=
  z1w (s := SQ5) (m := 18) (z1j9 N) [8, 2, 0, 1, 7] N (fun x => (x.1, x.2.1, x.2.2.1)) (fun x => (x.2.2.2.1, x.2.2.2.2.1)) (fun i v => (i.1, i.2.1, i.2.2, v.1, v.2, ())) (fun _ => rfl) (zd hb N (t1_27 N) z1k8 zji (TabOk.cons (z1aq hb) TabOk.nil) [0, 0, 1, 0, 1, 1] _ rfl) (fun i v r K => by kernel_rfl)

def z2a (N : Nat) (a : (List Int)) (b : (List Int)) (many : Int) : Option (List Int) :=
 zdf N a b many ([] : List Int) (0 : Int)
 (fun out => some out)

def t_27 (N : Nat) : Tab (List Int) := [([0, 1, 0, 1, 1], z1fy N)]

theorem z169 (N : Nat) (x : zz SQ60) : z6k (z18o N) N (t_27 N) z1k8 Tryd.f32 (mkS SQ60 0 x) (z4b (.v (.sl (.int .i64))) 3) = z2a N x.1 x.2.1 x.2.2.1 := by kernel_rfl

def z56 (N : Nat) : List A -> Res := zu SQ60 (fun x => z2a N x.1 x.2.1 x.2.2.1) (z75 (.v (.sl (.int .i64))) 3)

theorem z8v (N : Nat) : Contract Tryd.prog glob 32 (z56 N) :=
  Contract.of (E := z18o N) (H := t_27 N) (L := z1k8) (N := N) (body := zji) (K := (z4b (.v (.sl (.int .i64))) 3)) (z1lt N) Tryd.func32 (by kernel_rfl) (by decide) (fun _ hb => (TabOk.cons (z1c7 hb) TabOk.nil)) (fun x y h => by rw [z169]; exact h) (z1b (s := (.v (.sl (.int .i64)))) (m := 3))

def zof : Code := (Tryd.f48.body).getD .skip

def L_28 : List (List Nat × List Nat) := [([0], [0, 1, 2]), ([0, 1], [0, 1, 7, 2]), ([0, 0, 1, 1], [8, 0, 1, 7, 2]), ([0, 1, 0, 1, 1], [8, 0, 1, 7, 2]), (zy1, [12, 1, 8, 7, 0, 2]), (zy0, [1, 8, 7, 0, 2]), (z18g, [7]), (z13g, [17, 7, 0, 8, 2, 1]), (z12d, [8, 0, 1, 7, 2]), ([1, 1, 0, 0, 1, 0, 0, 1, 0, 1, 1], [8, 0, 1, 7, 2]), ([0, 1, 0, 0, 1, 0, 0, 1, 0, 1, 1], [8, 0, 1, 7, 2]), (zq9, [8, 0, 1, 7, 2]), (zxz, [8, 0, 1, 7, 2]), ([1, 0, 1, 1], [7]), ([0, 1, 1, 1], [6]), ([1, 1, 1, 1], [6])]

def z1ml (N : Nat) : Env := z1s tys glob [(32, z56 N), (33, za5 N)] [(7, (.sl (.int .i64))), (6, (.sl (.int .i64)))] [] [] false [] []

theorem z1ls (N : Nat) : EnvOk Tryd.prog (z1ml N) := zf mixed zq (FnsOk.cons (z8v N) (FnsOk.cons (zeu N) (FnsOk.nil))) (ItsOk.nil)

def z8o (N : Nat) (next : (List (List Int))) (a : (List Int)) (b : (List Int)) (out : (List (List Int))) (i : Int) (k0 : (List (List Int)) -> Option (List (List Int))) : Option (List (List Int)) :=
 (z4u N a i).bind fun y =>
 cond y
 (cond (inR i (List.length next))
 ((z2a N (List.getD next (Int.toNat i) ([] : List Int)) b (((List.length next) : Nat) : Int)).bind fun y1 =>
 cond (decide ((((List.length out) + 1) * 24) <= 70368744177664))
 (k0 (out ++ ([y1] : List (List Int))))
 (none))
 (none))
 (cond (inR i (List.length next))
 (cond (decide ((((List.length out) + 1) * 24) <= 70368744177664))
 (k0 (out ++ ([(List.getD next (Int.toNat i) ([] : List Int))] : List (List Int))))
 (none))
 (none))

def z1hr (N : Nat) (x : zz SQ8) (K : Ex -> List A -> Option (List (List Int))) : Option (List (List Int)) :=
 z8o N x.1 x.2.1 x.2.2.1 x.2.2.2.1 x.2.2.2.2.1 (fun a3 => (K .normal (mkS SQ8 28 (x.1, x.2.1, x.2.2.1, a3, x.2.2.2.2.1, ()))))

def z1eg (N : Nat) : Hd (List (List Int)) := fun st K => (unS SQ8 28 (restr [1, 8, 7, 0, 2] 0 st)).bind fun x => z1hr N x K

def t2_28 (N : Nat) : Tab (List (List Int)) := []

theorem z1ap {N : Nat} {c : Ctx} (hb : Base Tryd.prog (z1ml N) c) : zh Tryd.prog c (ze zof zq9) (z1eg N) :=
  zi (s := SQ8) (m := 28) (g := z1hr N) [1, 8, 7, 0, 2] (zd hb N (t2_28 N) L_28 zof TabOk.nil zq9 _ rfl) (fun x K => by kernel_rfl)

def z32 (N : Nat) (next : (List (List Int))) (a : (List Int)) (b : (List Int)) (out : (List (List Int))) (i : Int) (rec : (List (List Int)) -> Int -> Option (List (List Int))) (k0 : (List (List Int)) -> Option (List (List Int))) : Option (List (List Int)) :=
 cond (decide (i < (((List.length next) : Nat) : Int)))
 (z8o N next a b out i
 (fun out1 => rec out1 (IntKind.wrap IntKind.i64 (i + (1 : Int)))))
 (k0 out)

def zdb (N : Nat) (next : (List (List Int))) (a : (List Int)) (b : (List Int)) (out : (List (List Int))) (i : Int) (k0 : (List (List Int)) -> Option (List (List Int))) : Option (List (List Int)) :=
 iter (fun (v : ((List (List Int)) × Int)) r => z32 N next a b v.1 v.2 (fun out i => (r (out, i))) k0) N (out, i)

def z1j8 (N : Nat) (i : ((List (List Int)) × (List Int) × (List Int))) (v : ((List (List Int)) × Int)) (r : ((List (List Int)) × Int) -> Option (List (List Int))) (K : Ex -> List A -> Option (List (List Int))) : Option (List (List Int)) :=
 z32 N i.1 i.2.1 i.2.2 v.1 v.2 (fun out i => (r (out, i))) (fun a0 => (K (.exit 0) (mkS [(7, .row (.sl (.int .i64)))] 29 (a0, ()))))

def z1fx (N : Nat) : Hd (List (List Int)) := fun st K => (unS SQ8 28 (restr [8, 0, 1, 7, 2] 0 st)).bind fun x => iter (fun v r => z1j8 N ((fun x => (x.1, x.2.1, x.2.2.1)) x) v r K) N ((fun x => (x.2.2.2.1, x.2.2.2.2.1)) x)

def t1_28 (N : Nat) : Tab (List (List Int)) := [(zq9, z1eg N)]

theorem z1c6 {N : Nat} {c : Ctx} (hb : Base Tryd.prog (z1ml N) c) : zh Tryd.prog c (ze zof [0, 1, 0, 1, 1]) (z1fx N) :=
  z1w (s := SQ8) (m := 28) (z1j8 N) [8, 0, 1, 7, 2] N (fun x => (x.1, x.2.1, x.2.2.1)) (fun x => (x.2.2.2.1, x.2.2.2.2.1)) (fun i v => (i.1, i.2.1, i.2.2, v.1, v.2, ())) (fun _ => rfl) (zd hb N (t1_28 N) L_28 zof (TabOk.cons (z1ap hb) TabOk.nil) [0, 0, 1, 0, 1, 1] _ rfl) (fun i v r K => by kernel_rfl)

def z3n (N : Nat) (next : (List (List Int))) (a : (List Int)) (b : (List Int)) : Option (List (List Int)) :=
 zdb N next a b ([] : List (List Int)) (0 : Int)
 (fun out => some out)

def t_28 (N : Nat) : Tab (List (List Int)) := [([0, 1, 0, 1, 1], z1fx N)]

theorem z168 (N : Nat) (x : zz SQ46) : z6k (z1ml N) N (t_28 N) L_28 Tryd.f48 (mkS SQ46 0 x) (z4b (.v (.sl (.sl (.int .i64)))) 3) = z3n N x.1 x.2.1 x.2.2.1 := by kernel_rfl

def z7q (N : Nat) : List A -> Res := zu SQ46 (fun x => z3n N x.1 x.2.1 x.2.2.1) (z75 (.v (.sl (.sl (.int .i64)))) 3)

theorem zdc (N : Nat) : Contract Tryd.prog glob 48 (z7q N) :=
  Contract.of (E := z1ml N) (H := t_28 N) (L := L_28) (N := N) (body := zof) (K := (z4b (.v (.sl (.sl (.int .i64)))) 3)) (z1ls N) Tryd.func48 (by kernel_rfl) (by decide) (fun _ hb => (TabOk.cons (z1c6 hb) TabOk.nil)) (fun x y h => by rw [z168]; exact h) (z1b (s := (.v (.sl (.sl (.int .i64))))) (m := 3))

def zoe : Code := (Tryd.f46.body).getD .skip

def L_29 : List (List Nat × List Nat) := [([0], [3, 2, 4]), ([0, 1], [3, 2, 5, 4]), ([0, 1, 1], [2, 3, 5, 6, 4]), ([0, 0, 1, 1, 1], [31, 2, 3, 5, 6, 4]), ([1, 0, 1, 1, 1], [3, 2, 5, 6, 4]), ([0, 1, 0, 1, 1, 1], [3, 2, 5, 6, 4]), ([0, 0, 1, 1, 1, 1], [40, 2, 3, 5, 6, 4]), ([1, 0, 1, 1, 1, 1], [6, 4]), (z12c, [6, 4]), ([0, 1, 1, 1, 1, 1], [4]), ([1, 1, 1, 1, 1, 1], [4])]

def z1mk (N : Nat) : Env := z1s tys glob [(48, z7q N), (32, z56 N)] [] [] [] false [] []

theorem z1lr (N : Nat) : EnvOk Tryd.prog (z1mk N) := zf mixed zq (FnsOk.cons (zdc N) (FnsOk.cons (z8v N) (FnsOk.nil))) (ItsOk.nil)

def z6z (N : Nat) (a : DT3) (b : DT3) (x4 : DT3) (many : Int) (k0 : DT3 -> Option DT3) : Option DT3 :=
 (z3n N b.2.1 a.2.2.2.1 b.2.2.1).bind fun y =>
 cond a.2.2.2.2.1
 (k0 (b.1, (y, (a.2.2.1, (b.2.2.2.1, (b.2.2.2.2.1, ()))))))
 (k0 (b.1, (y, (a.2.2.1, (b.2.2.2.1, (false, ()))))))

def z1j7 (N : Nat) (x : zz SQ72) (K : Ex -> List A -> Option DT3) : Option DT3 :=
 z6z N x.1 x.2.1 x.2.2.1 x.2.2.2.1 (fun a4 => (K .normal (mkS z1jy 42 (x.1, x.2.1, x.2.2.1, x.2.2.2.1, a4, ()))))

def z1fw (N : Nat) : Hd DT3 := fun st K => (unS SQ72 43 (restr [3, 2, 5, 4] 0 st)).bind fun x => z1j7 N x K

def t1_29 (N : Nat) : Tab DT3 := []

theorem z1c5 {N : Nat} {c : Ctx} (hb : Base Tryd.prog (z1mk N) c) : zh Tryd.prog c (ze zoe [0, 1, 1]) (z1fw N) :=
  zi (s := SQ72) (m := 43) (g := z1j7 N) [3, 2, 5, 4] (zd hb N (t1_29 N) L_29 zoe TabOk.nil [0, 1, 1] _ rfl) (fun x K => by kernel_rfl)

def z6y (N : Nat) (a : DT3) (b : DT3) (x4 : DT3) (many : Int) (w : DT3) (k0 : DT3 -> Option DT3) : Option DT3 :=
 cond a.2.2.2.2.1
 ((z2a N a.2.2.1 b.2.2.1 many).bind fun y =>
 k0 (w.1, (w.2.1, (y, w.2.2.2))))
 (k0 w)

def z1hq (N : Nat) (x : zz z1jy) (K : Ex -> List A -> Option DT3) : Option DT3 :=
 z6y N x.1 x.2.1 x.2.2.1 x.2.2.2.1 x.2.2.2.2.1 (fun a4 => (K .normal (mkS z1jy 42 (x.1, x.2.1, x.2.2.1, x.2.2.2.1, a4, ()))))

def z1ef (N : Nat) : Hd DT3 := fun st K => (unS z1jy 42 (restr [2, 3, 5, 6, 4] 0 st)).bind fun x => z1hq N x K

def t2_29 (N : Nat) : Tab DT3 := []

theorem z1ao {N : Nat} {c : Ctx} (hb : Base Tryd.prog (z1mk N) c) : zh Tryd.prog c (ze zoe [0, 1, 1, 1]) (z1ef N) :=
  zi (s := z1jy) (m := 42) (g := z1hq N) [2, 3, 5, 6, 4] (zd hb N (t2_29 N) L_29 zoe TabOk.nil [0, 1, 1, 1] _ rfl) (fun x K => by kernel_rfl)

def z1l (N : Nat) (a : DT3) (b : DT3) : Option DT3 :=
 z6z N a b (([] : List (List Int)), (([] : List (List Int)), (([] : List Int), (([] : List Int), (false, ()))))) (((List.length b.1) : Nat) : Int)
 (fun w => z6y N a b (([] : List (List Int)), (([] : List (List Int)), (([] : List Int), (([] : List Int), (false, ()))))) (((List.length b.1) : Nat) : Int) w
 (fun w1 => cond b.2.2.2.2.1
 ((z2a N a.2.2.2.1 b.2.2.2.1 (((List.length b.1) : Nat) : Int)).bind fun y =>
 some (w1.1, (w1.2.1, (w1.2.2.1, (y, w1.2.2.2.2)))))
 (some w1)))

def t_29 (N : Nat) : Tab DT3 := [([0, 1, 1], z1fw N), ([0, 1, 1, 1], z1ef N)]

theorem z167 (N : Nat) (x : zz [(0, .v TT5), (0, .v TT5)]) : z6k (z1mk N) N (t_29 N) L_29 Tryd.f46 (mkS [(0, .v TT5), (0, .v TT5)] 0 x) (z4b (.v TT5) 2) = z1l N x.1 x.2.1 := by kernel_rfl

def z68 (N : Nat) : List A -> Res := zu [(0, .v TT5), (0, .v TT5)] (fun x => z1l N x.1 x.2.1) (z75 (.v TT5) 2)

theorem zb6 (N : Nat) : Contract Tryd.prog glob 46 (z68 N) :=
  Contract.of (E := z1mk N) (H := t_29 N) (L := L_29) (N := N) (body := zoe) (K := (z4b (.v TT5) 2)) (z1lr N) Tryd.func46 (by kernel_rfl) (by decide) (fun _ hb => (TabOk.cons (z1c5 hb) (TabOk.cons (z1ao hb) TabOk.nil))) (fun x y h => by rw [z167]; exact h) (z1b (s := (.v TT5)) (m := 2))

abbrev z1o : Type := DT1 -> DT3 -> Option DT3

def z10e : Code := (Tryd.f47.body).getD .skip

def L_30 : List (List Nat × List Nat) := [([0], [2, 4, 6, 3]), ([0, 0, 1], [10, 4, 6, 3, 2]), ([1, 0, 1], [3, 4, 2, 6]), ([0, 0, 1, 0, 1], [6]), ([1, 0, 1, 0, 1], [6]), ([0, 1, 1], [7, 3, 2, 6]), ([0, 1, 1, 1], [8, 6]), ([0, 1, 1, 1, 1], [8, 6]), ([0, 1, 1, 1, 1, 1], [6]), ([1, 1, 1, 1, 1, 1], [6])]

def E_30 (N : Nat) (self : z1o) (me : DT1 -> DT3 -> Int -> Option DT3) : Env := z1s tys glob [(46, z68 N), (25, zu z136 (fun x => self x.1 x.2.1) (z75 (.v TT5) 2)), (47, zu z1jv (fun x => me x.1 x.2.1 x.2.2.1) (z75 (.v TT5) 3))] [] [] [] false [] []

theorem z1lq (N : Nat) (self : z1o) (me : DT1 -> DT3 -> Int -> Option DT3) (hself : Contract Tryd.prog glob 25 (zu z136 (fun x => self x.1 x.2.1) (z75 (.v TT5) 2))) (hme : Contract Tryd.prog glob 47 (zu z1jv (fun x => me x.1 x.2.1 x.2.2.1) (z75 (.v TT5) 3))) : EnvOk Tryd.prog (E_30 N self me) := zf mixed zq (FnsOk.cons (zb6 N) (FnsOk.cons (hself) (FnsOk.cons (hme) (FnsOk.nil)))) (ItsOk.nil)

def z6g (N : Nat) (self : z1o) (me : DT1 -> DT3 -> Int -> Option DT3) (n : DT1) (w : DT3) (left : Int) : Option DT3 :=
 cond (decide (left < (1 : Int)))
 (some (w.1, (w.2.1, (([] : List Int), (([] : List Int), (true, ()))))))
 ((self n w).bind fun y =>
 (me n y (IntKind.wrap IntKind.i64 (left - (1 : Int)))).bind fun y1 =>
 (z1l N y y1).bind fun y2 =>
 some (y2.1, (y2.2.1, (y2.2.2.1, (y2.2.2.2.1, (true, y2.2.2.2.2.2))))))

def t_30 (N : Nat) (self : z1o) (me : DT1 -> DT3 -> Int -> Option DT3) : Tab DT3 := []

theorem z166 (N : Nat) (self : z1o) (me : DT1 -> DT3 -> Int -> Option DT3) (x : zz z1jv) : z6k (E_30 N self me) N (t_30 N self me) L_30 Tryd.f47 (mkS z1jv 0 x) (z4b (.v TT5) 3) = z6g N self me x.1 x.2.1 x.2.2.1 := by kernel_rfl

def z29 : Nat -> z1o -> DT1 -> DT3 -> Int -> Option DT3
  | 0, _ => fun _ _ _ => none
  | N + 1, self => z6g (N + 1) self (z29 N self)

def zc1 (N : Nat) (self : z1o) : List A -> Res := zu z1jv (fun x => z29 N self x.1 x.2.1 x.2.2.1) (z75 (.v TT5) 3)

theorem zda : ∀ (N : Nat) (self : z1o) (hself : Contract Tryd.prog glob 25 (zu z136 (fun x => self x.1 x.2.1) (z75 (.v TT5) 2))), Contract Tryd.prog glob 47 (zc1 N self)
  | 0, _, _ => Contract.zero Tryd.func47 (body := z10e) (by kernel_rfl) (by decide) (fun _ => rfl)
  | N + 1, self, hself => Contract.of (E := E_30 (N + 1) self (z29 N self)) (H := t_30 (N + 1) self (z29 N self)) (L := L_30) (N := (N + 1)) (body := z10e) (K := (z4b (.v TT5) 3)) (z1lq (N + 1) self (z29 N self) hself (zda N self hself)) Tryd.func47 (by kernel_rfl) (by decide) (fun _ hb => TabOk.nil) (fun x y h => by rw [z166]; exact h) (z1b (s := (.v TT5)) (m := 3))

def zbg : Code := (Tryd.f25.body).getD .skip

def z17s : List (List Nat × List Nat) := [([0], [2, 3, 4]), ([0, 0, 1], [14, 3, 2, 4]), ([1, 0, 1], [3, 2, 4]), ([0, 0, 1, 0, 1], [3, 2, 5, 4]), ([0, 1, 0, 1, 0, 1], [4]), ([1, 1, 0, 1, 0, 1], [4]), ([0, 1, 1], [2, 6, 4]), ([0, 0, 1, 1, 1], [55, 6, 4, 2]), ([1, 0, 1, 1, 1], [2, 6, 4]), (zxx, [4]), (z13d, [4]), ([0, 0, 1, 1, 1, 1], [59, 2, 6, 4]), ([1, 0, 1, 1, 1, 1], [2, 6, 4]), ([0, 0, 0, 1, 0, 1, 1, 1, 1], [7, 2, 6, 4]), (z12e, [7, 2, 6, 4]), ([0, 0, 0, 0, 1, 0, 0, 1, 0, 1, 1, 1, 1], [63, 6, 2, 7, 4]), ([1, 0, 0, 0, 1, 0, 0, 1, 0, 1, 1, 1, 1], [6, 2, 7, 4]), ([1, 1, 0, 0, 0, 1, 0, 0, 1, 0, 1, 1, 1, 1], [2, 6, 4]), ([0, 0, 1, 0, 0, 1, 0, 0, 1, 0, 1, 1, 1, 1], [7, 2, 6, 4]), ([0, 1, 0, 0, 1, 0, 0, 1, 0, 1, 1, 1, 1], [7, 2, 6, 4]), ([1, 1, 0, 0, 1, 0, 0, 1, 0, 1, 1, 1, 1], [7, 2, 6, 4]), ([1, 0, 0, 1, 0, 1, 1, 1, 1], [2, 6, 4]), ([0, 0, 1, 0, 1, 0, 1, 1, 1, 1], [76, 6, 2, 4]), ([1, 0, 1, 0, 1, 0, 1, 1, 1, 1], [2, 6, 4]), ([0, 0, 1, 0, 1, 0, 1, 0, 1, 1, 1, 1], [4]), ([1, 0, 1, 0, 1, 0, 1, 0, 1, 1, 1, 1], [4]), ([0, 1, 1, 0, 1, 0, 1, 1, 1, 1], [8, 6, 4]), ([0, 1, 1, 1, 0, 1, 0, 1, 1, 1, 1], [8, 6, 4]), ([0, 1, 1, 1, 1, 0, 1, 0, 1, 1, 1, 1], [6, 8, 4]), ([0, 1, 1, 1, 1, 1, 0, 1, 0, 1, 1, 1, 1], [4]), ([1, 1, 1, 1, 1, 1, 0, 1, 0, 1, 1, 1, 1], [4]), (zkp, [9, 2, 6, 4]), (zy5, [9, 2, 6, 4]), ([0, 0, 0, 0, 1, 0, 1, 1, 1, 1, 1], [112, 2, 9, 6, 4]), ([1, 0, 0, 0, 1, 0, 1, 1, 1, 1, 1], [2, 9, 6, 4]), ([1, 1, 0, 0, 0, 1, 0, 1, 1, 1, 1, 1], [6, 4]), ([0, 0, 0, 1, 0, 0, 1, 0, 1, 1, 1, 1, 1], [2, 6, 10, 9, 4]), ([0, 1, 0, 0, 1, 0, 0, 1, 0, 1, 1, 1, 1, 1], [124, 6, 10, 9, 2, 4]), ([1, 1, 0, 0, 1, 0, 0, 1, 0, 1, 1, 1, 1, 1], [9, 2, 6, 4]), ([0, 1, 1, 1, 0, 0, 1, 0, 0, 1, 0, 1, 1, 1, 1, 1], [10, 6, 11, 9, 2, 4]), ([1, 1, 1, 1, 0, 0, 1, 0, 0, 1, 0, 1, 1, 1, 1, 1], [9, 2, 6, 4]), ([0, 1, 1, 0, 0, 1, 0, 0, 1, 0, 1, 1, 1, 1, 1], [9, 2, 6, 4]), (z1k1, [9, 2, 6, 4]), ([1, 1, 0, 0, 1, 0, 1, 1, 1, 1, 1], [9, 2, 6, 4]), (zxw, [6, 4]), (zxv, [4]), (z12a, [4])]

def z13m (N : Nat) (self : DT1 -> DT3 -> Option DT3) : Env := z1s tys glob [(47, zc1 N self), (46, z68 N), (48, z7q N), (32, z56 N), (22, z4m N), (25, zu z136 (fun x => self x.1 x.2.1) (z75 (.v TT5) 2))] [] [] [] false [] []

theorem z1lp (N : Nat) (self : DT1 -> DT3 -> Option DT3) (hself : Contract Tryd.prog glob 25 (zu z136 (fun x => self x.1 x.2.1) (z75 (.v TT5) 2))) : EnvOk Tryd.prog (z13m N self) := zf mixed zq (FnsOk.cons (zda N self hself) (FnsOk.cons (zb6 N) (FnsOk.cons (zdc N) (FnsOk.cons (z8v N) (FnsOk.cons (z55 N) (FnsOk.cons (hself) (FnsOk.nil))))))) (ItsOk.nil)

def z3q (N : Nat) (self : DT1 -> DT3 -> Option DT3) (n : DT1) (x4 : DT3) (out : DT3) (k0 : Bool -> Option DT3) : Option DT3 :=
 cond (n.1 == (4 : Int))
 (cond (inR (0 : Int) (List.length n.2.2.1))
 ((z1r N (unN (List.getD n.2.2.1 0 (Tree.mk (0 : Int) ([] : List Int) ([] : List Tree) (0 : Int) (0 : Int))))).bind fun y =>
 k0 (y == (0 : Int)))
 (none))
 (k0 false)

def z1hp (N : Nat) (self : DT1 -> DT3 -> Option DT3) (x : zz z13a) (K : Ex -> List A -> Option DT3) : Option DT3 :=
 z3q N self x.1 x.2.1 x.2.2.1 (fun a3 => (K .normal (mkS [(2, .box TT0), (1, .box TT5), (1, .box TT5), (48, .v .bool)] 99 (x.1, x.2.1, x.2.2.1, a3, ()))))

def z1ee (N : Nat) (self : DT1 -> DT3 -> Option DT3) : Hd DT3 := fun st K => (unS z13a 148 (restr [2, 6, 4] 0 st)).bind fun x => z1hp N self x K

def t2_31 (N : Nat) (self : DT1 -> DT3 -> Option DT3) : Tab DT3 := []

theorem z1an {N : Nat} {self : DT1 -> DT3 -> Option DT3} {c : Ctx} (hb : Base Tryd.prog (z13m N self) c) : zh Tryd.prog c (ze zbg [0, 0, 1, 1, 1]) (z1ee N self) :=
  zi (s := z13a) (m := 148) (g := z1hp N self) [2, 6, 4] (zd hb N (t2_31 N self) z17s zbg TabOk.nil [0, 0, 1, 1, 1] _ rfl) (fun x K => by kernel_rfl)

def z3r (N : Nat) (self : DT1 -> DT3 -> Option DT3) (n : DT1) (x4 : DT3) (out : DT3) (k0 : Option DT3) (k1 : Option DT3) : Option DT3 :=
 z3q N self n x4 out
 (fun x55 => cond x55
 (k0)
 (k1))

def z1j6 (N : Nat) (self : DT1 -> DT3 -> Option DT3) (x : zz z13a) (K : Ex -> List A -> Option DT3) : Option DT3 :=
 z3r N self x.1 x.2.1 x.2.2.1 (K .ret (mkS [(4, .box TT5)] 150 (x.2.2.1, ()))) (K .normal (mkS z13a 148 (x.1, x.2.1, x.2.2.1, ())))

def z1fv (N : Nat) (self : DT1 -> DT3 -> Option DT3) : Hd DT3 := fun st K => (unS z13a 148 (restr [2, 6, 4] 0 st)).bind fun x => z1j6 N self x K

def t1_31 (N : Nat) (self : DT1 -> DT3 -> Option DT3) : Tab DT3 := [([0, 0, 1, 1, 1], z1ee N self)]

theorem z1c4 {N : Nat} {self : DT1 -> DT3 -> Option DT3} {c : Ctx} (hb : Base Tryd.prog (z13m N self) c) : zh Tryd.prog c (ze zbg [0, 1, 1, 1]) (z1fv N self) :=
  zi (s := z13a) (m := 148) (g := z1j6 N self) [2, 6, 4] (zd hb N (t1_31 N self) z17s zbg (TabOk.cons (z1an hb) TabOk.nil) [0, 1, 1, 1] _ rfl) (fun x K => by kernel_rfl)

def z2w (N : Nat) (self : DT1 -> DT3 -> Option DT3) (n : DT1) (x4 : DT3) (out : DT3) (i : Int) (rec : DT3 -> Int -> Option DT3) (k0 : DT3 -> Option DT3) : Option DT3 :=
 cond (decide (i < n.2.2.2.1))
 (cond (inR (0 : Int) (List.length n.2.2.1))
 ((self (unN (List.getD n.2.2.1 0 (Tree.mk (0 : Int) ([] : List Int) ([] : List Tree) (0 : Int) (0 : Int)))) out).bind fun y =>
 (z1l N out y).bind fun y1 =>
 rec y1 (IntKind.wrap IntKind.i64 (i + (1 : Int))))
 (none))
 (k0 out)

def zby (N : Nat) (self : DT1 -> DT3 -> Option DT3) (n : DT1) (x4 : DT3) (out : DT3) (i : Int) (k0 : DT3 -> Option DT3) : Option DT3 :=
 iter (fun (v : (DT3 × Int)) r => z2w N self n x4 v.1 v.2 (fun out i => (r (out, i))) k0) N (out, i)

def z1h2 (N : Nat) (self : DT1 -> DT3 -> Option DT3) (i : (DT1 × DT3)) (v : (DT3 × Int)) (r : (DT3 × Int) -> Option DT3) (K : Ex -> List A -> Option DT3) : Option DT3 :=
 z2w N self i.1 i.2 v.1 v.2 (fun out i => (r (out, i))) (fun a2 => (K (.exit 0) (mkS z13a 148 (i.1, i.2, a2, ()))))

def z1dr (N : Nat) (self : DT1 -> DT3 -> Option DT3) : Hd DT3 := fun st K => (unS [(2, .box TT0), (1, .box TT5), (1, .box TT5), (0, .v (.int .i64))] 147 (restr [7, 2, 6, 4] 0 st)).bind fun x => iter (fun v r => z1h2 N self ((fun x => (x.1, x.2.1)) x) v r K) N ((fun x => (x.2.2.1, x.2.2.2.1)) x)

def t3_31 (N : Nat) (self : DT1 -> DT3 -> Option DT3) : Tab DT3 := []

theorem z1a0 {N : Nat} {self : DT1 -> DT3 -> Option DT3} {c : Ctx} (hb : Base Tryd.prog (z13m N self) c) : zh Tryd.prog c (ze zbg z12e) (z1dr N self) :=
  z1w (s := [(2, .box TT0), (1, .box TT5), (1, .box TT5), (0, .v (.int .i64))]) (m := 147) (z1h2 N self) [7, 2, 6, 4] N (fun x => (x.1, x.2.1)) (fun x => (x.2.2.1, x.2.2.2.1)) (fun i v => (i.1, i.2, v.1, v.2, ())) (fun _ => rfl) (zd hb N (t3_31 N self) z17s zbg TabOk.nil [0, 0, 1, 0, 0, 1, 0, 1, 1, 1, 1] _ rfl) (fun i v r K => by kernel_rfl)

def z54 (N : Nat) (self : DT1 -> DT3 -> Option DT3) (n : DT1) (x4 : DT3) (out : DT3) (i : Int) (k0 : DT3 -> Option DT3) : Option DT3 :=
 cond (inR i (List.length n.2.2.1))
 ((self (unN (List.getD n.2.2.1 (Int.toNat i) (Tree.mk (0 : Int) ([] : List Int) ([] : List Tree) (0 : Int) (0 : Int)))) out).bind fun y =>
 cond (n.1 == (2 : Int))
 ((z1l N out y).bind fun y1 =>
 k0 y1)
 ((z2a N out.2.2.1 y.2.2.1 (((List.length y.1) : Nat) : Int)).bind fun y2 =>
 (z2a N out.2.2.2.1 y.2.2.2.1 (((List.length y.1) : Nat) : Int)).bind fun y3 =>
 cond out.2.2.2.2.1
 (k0 (y.1, (y.2.1, (y2, (y3, (true, ()))))))
 (k0 (y.1, (y.2.1, (y2, (y3, (y.2.2.2.2.1, ()))))))))
 (none)

def z1gl (N : Nat) (self : DT1 -> DT3 -> Option DT3) (x : zz z18a) (K : Ex -> List A -> Option DT3) : Option DT3 :=
 z54 N self x.1 x.2.1 x.2.2.1 x.2.2.2.1 (fun a2 => (K .normal (mkS z18a 145 (x.1, x.2.1, a2, x.2.2.2.1, ()))))

def z1da (N : Nat) (self : DT1 -> DT3 -> Option DT3) : Hd DT3 := fun st K => (unS z18a 145 (restr [2, 9, 6, 4] 0 st)).bind fun x => z1gl N self x K

def t5_31 (N : Nat) (self : DT1 -> DT3 -> Option DT3) : Tab DT3 := []

theorem z19j {N : Nat} {self : DT1 -> DT3 -> Option DT3} {c : Ctx} (hb : Base Tryd.prog (z13m N self) c) : zh Tryd.prog c (ze zbg z1k1) (z1da N self) :=
  zi (s := z18a) (m := 145) (g := z1gl N self) [2, 9, 6, 4] (zd hb N (t5_31 N self) z17s zbg TabOk.nil z1k1 _ rfl) (fun x K => by kernel_rfl)

def z1d (N : Nat) (self : DT1 -> DT3 -> Option DT3) (n : DT1) (x4 : DT3) (out : DT3) (i : Int) (rec : DT3 -> Int -> Option DT3) (k0 : DT3 -> Option DT3) : Option DT3 :=
 cond (decide (i < (((List.length n.2.2.1) : Nat) : Int)))
 (z54 N self n x4 out i
 (fun out1 => rec out1 (IntKind.wrap IntKind.i64 (i + (1 : Int)))))
 (k0 out)

def z7p (N : Nat) (self : DT1 -> DT3 -> Option DT3) (n : DT1) (x4 : DT3) (out : DT3) (i : Int) (k0 : DT3 -> Option DT3) : Option DT3 :=
 iter (fun (v : (DT3 × Int)) r => z1d N self n x4 v.1 v.2 (fun out i => (r (out, i))) k0) N (out, i)

def z1gs (N : Nat) (self : DT1 -> DT3 -> Option DT3) (i : (DT1 × DT3)) (v : (DT3 × Int)) (r : (DT3 × Int) -> Option DT3) (K : Ex -> List A -> Option DT3) : Option DT3 :=
 z1d N self i.1 i.2 v.1 v.2 (fun out i => (r (out, i))) (fun a1 => (K (.exit 2) (mkS [(4, .box TT5), (1, .box TT5)] 148 (i.2, a1, ()))))

def z1dh (N : Nat) (self : DT1 -> DT3 -> Option DT3) : Hd DT3 := fun st K => (unS z18a 145 (restr [9, 2, 6, 4] 0 st)).bind fun x => iter (fun v r => z1gs N self ((fun x => (x.1, x.2.1)) x) v r K) N ((fun x => (x.2.2.1, x.2.2.2.1)) x)

def t4_31 (N : Nat) (self : DT1 -> DT3 -> Option DT3) : Tab DT3 := [(z1k1, z1da N self)]

theorem z19q {N : Nat} {self : DT1 -> DT3 -> Option DT3} {c : Ctx} (hb : Base Tryd.prog (z13m N self) c) : zh Tryd.prog c (ze zbg zy5) (z1dh N self) :=
  z1w (s := z18a) (m := 145) (z1gs N self) [9, 2, 6, 4] N (fun x => (x.1, x.2.1)) (fun x => (x.2.2.1, x.2.2.2.1)) (fun i v => (i.1, i.2, v.1, v.2, ())) (fun _ => rfl) (zd hb N (t4_31 N self) z17s zbg (TabOk.cons (z19j hb) TabOk.nil) z17o _ rfl) (fun i v r K => by kernel_rfl)

def z5o (N : Nat) (self : DT1 -> DT3 -> Option DT3) (n : DT1) (w : DT3) : Option DT3 :=
 cond (n.1 == (1 : Int))
 (cond (decide (((0 + (List.length w.1)) * 32) <= 70368744177664))
 (cond (decide ((((List.length (([] : List (List Int)) ++ w.1)) + 1) * 32) <= 70368744177664))
 (cond (decide (((0 + (List.length w.2.1)) * 24) <= 70368744177664))
 (cond (decide ((((List.length (([] : List (List Int)) ++ w.2.1)) + 1) * 24) <= 70368744177664))
 (some (((([] : List (List Int)) ++ w.1) ++ ([n.2.1] : List (List Int))), (((([] : List (List Int)) ++ w.2.1) ++ ([([] : List Int)] : List (List Int))), (([(((List.length w.1) : Nat) : Int)] : List Int), (([(((List.length w.1) : Nat) : Int)] : List Int), (false, ()))))))
 (none))
 (none))
 (none))
 (none))
 (z3r N self n (([] : List (List Int)), (([] : List (List Int)), (([] : List Int), (([] : List Int), (false, ()))))) (w.1, (w.2.1, (([] : List Int), (([] : List Int), ((n.1 != (3 : Int)), ())))))
 (some (w.1, (w.2.1, (([] : List Int), (([] : List Int), ((n.1 != (3 : Int)), ()))))))
 (cond (n.1 == (4 : Int))
 (zby N self n (([] : List (List Int)), (([] : List (List Int)), (([] : List Int), (([] : List Int), (false, ()))))) (w.1, (w.2.1, (([] : List Int), (([] : List Int), ((n.1 != (3 : Int)), ()))))) (0 : Int)
 (fun out => cond (n.2.2.2.2.1 != (-(1 : Int)))
 (cond (inR (0 : Int) (List.length n.2.2.1))
 ((z29 N self (unN (List.getD n.2.2.1 0 (Tree.mk (0 : Int) ([] : List Int) ([] : List Tree) (0 : Int) (0 : Int)))) out (IntKind.wrap IntKind.i64 (n.2.2.2.2.1 - n.2.2.2.1))).bind fun y =>
 (z1l N out y).bind fun y1 =>
 some y1)
 (none))
 (cond (inR (0 : Int) (List.length n.2.2.1))
 ((self (unN (List.getD n.2.2.1 0 (Tree.mk (0 : Int) ([] : List Int) ([] : List Tree) (0 : Int) (0 : Int)))) out).bind fun y2 =>
 (z3n N y2.2.1 y2.2.2.2.1 y2.2.2.1).bind fun y3 =>
 (z1l N out (y2.1, (y3, (y2.2.2.1, (y2.2.2.2.1, (true, y2.2.2.2.2.2)))))).bind fun y4 =>
 some y4)
 (none))))
 (z7p N self n (([] : List (List Int)), (([] : List (List Int)), (([] : List Int), (([] : List Int), (false, ()))))) (w.1, (w.2.1, (([] : List Int), (([] : List Int), ((n.1 != (3 : Int)), ()))))) (0 : Int)
 (fun out1 => some out1))))

def t_31 (N : Nat) (self : DT1 -> DT3 -> Option DT3) : Tab DT3 := [([0, 1, 1, 1], z1fv N self), (z12e, z1dr N self), (zy5, z1dh N self)]

theorem z165 (N : Nat) (self : DT1 -> DT3 -> Option DT3) (x : zz z136) : z6k (z13m N self) N (t_31 N self) z17s Tryd.f25 (mkS z136 0 x) (z4b (.v TT5) 2) = z5o N self x.1 x.2.1 := by kernel_rfl

def z15 : Nat -> DT1 -> DT3 -> Option DT3
  | 0 => fun _ _ => none
  | N + 1 => z5o (N + 1) (z15 N)

def zb5 (N : Nat) : List A -> Res := zu z136 (fun x => z15 N x.1 x.2.1) (z75 (.v TT5) 2)

theorem zbz : ∀ N : Nat, Contract Tryd.prog glob 25 (zb5 N)
  | 0 => Contract.zero Tryd.func25 (body := zbg) (by kernel_rfl) (by decide) (fun _ => rfl)
  | N + 1 => Contract.of (E := z13m (N + 1) (z15 N)) (H := t_31 (N + 1) (z15 N)) (L := z17s) (N := (N + 1)) (body := zbg) (K := (z4b (.v TT5) 2)) (z1lp (N + 1) (z15 N) (zbz N)) Tryd.func25 (by kernel_rfl) (by decide) (fun _ hb => (TabOk.cons (z1c4 hb) (TabOk.cons (z1a0 hb) (TabOk.cons (z19q hb) TabOk.nil)))) (fun x y h => by rw [z165]; exact h) (z1b (s := (.v TT5)) (m := 2))

def z17c : Code := (Tryd.f11.body).getD .skip

def L_32 : List (List Nat × List Nat) := [([0], [1, 2]), ([0, 0, 1], [7, 2, 1]), ([1, 0, 1], [1, 2]), ([0, 0, 1, 0, 1], [2, 3]), ([1, 0, 1, 0, 1], [2, 3]), ([0, 0, 1, 1], [11, 2, 1]), ([1, 0, 1, 1], [1, 2]), ([0, 0, 1, 0, 1, 1], [2, 3]), ([1, 0, 1, 0, 1, 1], [2, 3]), ([0, 1, 1, 1], [4, 2]), ([0, 1, 1, 1, 1], [2, 3]), ([1, 1, 1, 1, 1], [2, 3])]

def E_32 (N : Nat) : Env := z1s tys glob [(25, zb5 N), (22, z4m N), (21, z70 N)] [] [] [] false [] []

theorem z1lo (N : Nat) : EnvOk Tryd.prog (E_32 N) := zf mixed zq (FnsOk.cons (zbz N) (FnsOk.cons (z55 N) (FnsOk.cons (z85 N) (FnsOk.nil)))) (ItsOk.nil)

def z8i (N : Nat) (n : DT1) : Option (DT9 × Int × Unit) :=
 (z1z N n).bind fun y =>
 cond (!y)
 (some ((([] : List (List Int)), (false, (([] : List Int), (([] : List Int), (([] : List (List Int)), ()))))), ((7 : Int), ())))
 ((z1r N n).bind fun y1 =>
 cond (decide ((512 : Int) < y1))
 (some ((([] : List (List Int)), (false, (([] : List Int), (([] : List Int), (([] : List (List Int)), ()))))), ((16 : Int), ())))
 ((z15 N n (([] : List (List Int)), (([] : List (List Int)), (([] : List Int), (([] : List Int), (false, ())))))).bind fun y2 =>
 some ((y2.1, (y2.2.2.2.2.1, (y2.2.2.1, (y2.2.2.2.1, (y2.2.1, ()))))), ((0 : Int), ()))))

def t_32 (N : Nat) : Tab (DT9 × Int × Unit) := []

theorem z164 (N : Nat) (x : zz [(0, .v TT0)]) : z6k (E_32 N) N (t_32 N) L_32 Tryd.f11 (mkS [(0, .v TT0)] 0 x) (z4b (.tup [TT6, (.int .i64)]) 1) = z8i N x.1 := by kernel_rfl

def zdw (N : Nat) : List A -> Res := zu [(0, .v TT0)] (fun x => z8i N x.1) (z75 (.tup [TT6, (.int .i64)]) 1)

theorem zku (N : Nat) : Contract Tryd.prog glob 11 (zdw N) :=
  Contract.of (E := E_32 N) (H := t_32 N) (L := L_32) (N := N) (body := z17c) (K := (z4b (.tup [TT6, (.int .i64)]) 1)) (z1lo N) Tryd.func11 (by kernel_rfl) (by decide) (fun _ hb => TabOk.nil) (fun x y h => by rw [z164]; exact h) (z1b (s := (.tup [TT6, (.int .i64)])) (m := 1))

def z17b : Code := (Tryd.f8.body).getD .skip

def L_33 : List (List Nat × List Nat) := [([0], [1]), ([0, 0, 1], [5, 1]), ([1, 0, 1], [1]), ([0, 0, 1, 0, 1], [2]), ([1, 0, 1, 0, 1], [2]), ([0, 1, 1], [2]), ([1, 1, 1], [2])]

def E_33 (N : Nat) : Env := z1s tys glob [(22, z4m N), (21, z70 N)] [] [] [] false [] []

theorem z1ln (N : Nat) : EnvOk Tryd.prog (E_33 N) := zf mixed zq (FnsOk.cons (z55 N) (FnsOk.cons (z85 N) (FnsOk.nil))) (ItsOk.nil)

def z41 (N : Nat) (n : DT1) : Option Int :=
 (z1z N n).bind fun y =>
 cond (!y)
 (some (0 : Int))
 ((z1r N n).bind fun y1 =>
 some y1)

def t_33 (N : Nat) : Tab Int := []

theorem z163 (N : Nat) (x : zz [(0, .v TT0)]) : z6k (E_33 N) N (t_33 N) L_33 Tryd.f8 (mkS [(0, .v TT0)] 0 x) (z4b (.v (.int .i64)) 1) = z41 N x.1 := by kernel_rfl

def zb7 (N : Nat) : List A -> Res := zu [(0, .v TT0)] (fun x => z41 N x.1) (z75 (.v (.int .i64)) 1)

theorem zi2 (N : Nat) : Contract Tryd.prog glob 8 (zb7 N) :=
  Contract.of (E := E_33 N) (H := t_33 N) (L := L_33) (N := N) (body := z17b) (K := (z4b (.v (.int .i64)) 1)) (z1ln N) Tryd.func8 (by kernel_rfl) (by decide) (fun _ hb => TabOk.nil) (fun x y h => by rw [z163]; exact h) (z1b (s := (.v (.int .i64))) (m := 1))

def zuz : Code := (Tryd.f26.body).getD .skip

def L_34 : List (List Nat × List Nat) := [([0], [0, 1]), ([0, 0, 1], [10, 0, 1]), ([1, 0, 1], [0, 1]), ([0, 0, 1, 0, 1], [4]), ([1, 0, 1, 0, 1], [4]), ([0, 0, 1, 1], [5, 0, 1]), ([0, 1, 0, 1, 1], [5, 0, 1]), (zy1, [14, 0, 5, 1]), (zy0, [0, 5, 1]), (z18g, []), (z13g, [25, 5, 0, 1]), (z12d, [5, 0, 1]), ([0, 0, 1, 0, 0, 1, 0, 0, 1, 0, 1, 1], [4]), ([1, 0, 1, 0, 0, 1, 0, 0, 1, 0, 1, 1], [4]), (zq9, [5, 0, 1]), (zxz, [5, 0, 1]), ([1, 0, 1, 1], []), ([0, 1, 1, 1], [4]), ([1, 1, 1, 1], [4])]

def E_34 (N : Nat) : Env := z1s tys glob [] [] [] [] false [] []

theorem z1lm (N : Nat) : EnvOk Tryd.prog (E_34 N) := zf mixed zq (FnsOk.nil) (ItsOk.nil)

def z8n (N : Nat) (a : (List Int)) (b : (List Int)) (i : Int) (rec : Int -> Option Bool) (k0 : Bool -> Option Bool) (k1 : Option Bool) : Option Bool :=
 cond (decide (i < (((List.length a) : Nat) : Int)))
 (cond (inR i (List.length a))
 (cond (inR i (List.length b))
 (cond ((List.getD a (Int.toNat i) (0 : Int)) != (List.getD b (Int.toNat i) (0 : Int)))
 (k0 false)
 (rec (IntKind.wrap IntKind.i64 (i + (1 : Int)))))
 (none))
 (none))
 (k1)

def zd9 (N : Nat) (a : (List Int)) (b : (List Int)) (i : Int) (k0 : Bool -> Option Bool) (k1 : Option Bool) : Option Bool :=
 iter (fun (v : Int) r => z8n N a b v (fun i => (r i)) k0 k1) N i

def z1j5 (N : Nat) (i : ((List Int) × (List Int))) (v : Int) (r : Int -> Option Bool) (K : Ex -> List A -> Option Bool) : Option Bool :=
 z8n N i.1 i.2 v (fun i => (r i)) (fun a0 => (K .ret (mkS [(4, .v .bool)] 21 (a0, ())))) (K (.exit 0) (mkS [] 26 ()))

def z1fu (N : Nat) : Hd Bool := fun st K => (unS [(0, .v (.sl (.int .i64))), (0, .v (.sl (.int .i64))), (3, .v (.int .i64))] 20 (restr [5, 0, 1] 0 st)).bind fun x => iter (fun v r => z1j5 N ((fun x => (x.1, x.2.1)) x) v r K) N ((fun x => x.2.2.1) x)

def t1_34 (N : Nat) : Tab Bool := []

theorem z1c3 {N : Nat} {c : Ctx} (hb : Base Tryd.prog (E_34 N) c) : zh Tryd.prog c (ze zuz [0, 1, 0, 1, 1]) (z1fu N) :=
  z1w (s := [(0, .v (.sl (.int .i64))), (0, .v (.sl (.int .i64))), (3, .v (.int .i64))]) (m := 20) (z1j5 N) [5, 0, 1] N (fun x => (x.1, x.2.1)) (fun x => x.2.2.1) (fun i v => (i.1, i.2, v, ())) (fun _ => rfl) (zd hb N (t1_34 N) L_34 zuz TabOk.nil [0, 0, 1, 0, 1, 1] _ rfl) (fun i v r K => by kernel_rfl)

def z3m (N : Nat) (a : (List Int)) (b : (List Int)) : Option Bool :=
 cond ((((List.length a) : Nat) : Int) != (((List.length b) : Nat) : Int))
 (some false)
 (zd9 N a b (0 : Int)
 (fun x4 => some x4)
 (some true))

def t_34 (N : Nat) : Tab Bool := [([0, 1, 0, 1, 1], z1fu N)]

theorem z162 (N : Nat) (x : zz z189) : z6k (E_34 N) N (t_34 N) L_34 Tryd.f26 (mkS z189 0 x) (z4b (.v .bool) 2) = z3m N x.1 x.2.1 := by kernel_rfl

def zc0 (N : Nat) : List A -> Res := zu z189 (fun x => z3m N x.1 x.2.1) (z75 (.v .bool) 2)

theorem zj5 (N : Nat) : Contract Tryd.prog glob 26 (zc0 N) :=
  Contract.of (E := E_34 N) (H := t_34 N) (L := L_34) (N := N) (body := zuz) (K := (z4b (.v .bool) 2)) (z1lm N) Tryd.func26 (by kernel_rfl) (by decide) (fun _ hb => (TabOk.cons (z1c3 hb) TabOk.nil)) (fun x y h => by rw [z162]; exact h) (z1b (s := (.v .bool)) (m := 2))

def zfz : Code := (Tryd.f12.body).getD .skip

def z18k : List (List Nat × List Nat) := [([0], [2, 3]), ([0, 0, 1], [45, 2, 3]), ([1, 0, 1], [2, 3]), ([0, 0, 1, 0, 1], [4]), ([1, 0, 1, 0, 1], [4]), ([0, 0, 1, 1], [5, 2, 3]), ([0, 1, 0, 1, 1], [5, 2, 3]), (zy1, [50, 2, 5, 3]), (zy0, [2, 5, 3]), (z18g, [2, 3]), (z13g, [63, 5, 2, 3]), (z12d, [5, 2, 3]), ([0, 0, 1, 0, 0, 1, 0, 0, 1, 0, 1, 1], [4]), ([1, 0, 1, 0, 0, 1, 0, 0, 1, 0, 1, 1], [4]), (zq9, [5, 2, 3]), (zxz, [5, 2, 3]), ([1, 0, 1, 1], [2, 3]), ([0, 0, 1, 1, 1], [6, 2, 3]), ([0, 1, 0, 1, 1, 1], [6, 2, 3]), ([0, 0, 0, 0, 1, 0, 1, 1, 1], [68, 2, 6, 3]), ([1, 0, 0, 0, 1, 0, 1, 1, 1], [2, 6, 3]), ([1, 1, 0, 0, 0, 1, 0, 1, 1, 1], []), ([0, 0, 0, 1, 0, 0, 1, 0, 1, 1, 1], [82, 6, 2, 3]), ([1, 0, 0, 1, 0, 0, 1, 0, 1, 1, 1], [6, 2, 3]), ([0, 0, 1, 0, 0, 1, 0, 0, 1, 0, 1, 1, 1], [4]), ([1, 0, 1, 0, 0, 1, 0, 0, 1, 0, 1, 1, 1], [4]), (z10s, [6, 2, 3]), ([1, 1, 0, 0, 1, 0, 1, 1, 1], [6, 2, 3]), ([1, 0, 1, 1, 1], []), ([0, 1, 1, 1, 1], [4]), ([1, 1, 1, 1, 1], [4])]

def z17v (N : Nat) : Env := z1s tys glob [(26, zc0 N)] [] [] [] false [] []

theorem z1ll (N : Nat) : EnvOk Tryd.prog (z17v N) := zf mixed zq (FnsOk.cons (zj5 N) (FnsOk.nil)) (ItsOk.nil)

def z8r (N : Nat) (a : DT9) (b : DT9) (k0 : Bool -> Option Bool) : Option Bool :=
 cond (!(a.2.1 == b.2.1))
 (k0 true)
 (cond ((((List.length a.1) : Nat) : Int) != (((List.length b.1) : Nat) : Int))
 (k0 true)
 (cond ((((List.length a.2.2.2.2.1) : Nat) : Int) != (((List.length b.2.2.2.2.1) : Nat) : Int))
 (k0 true)
 ((z3m N a.2.2.1 b.2.2.1).bind fun y =>
 cond (!y)
 (k0 true)
 ((z3m N a.2.2.2.1 b.2.2.2.1).bind fun y1 =>
 k0 (!y1)))))

def z1ho (N : Nat) (x : zz z138) (K : Ex -> List A -> Option Bool) : Option Bool :=
 z8r N x.1 x.2.1 (fun a2 => (K .normal (mkS [(2, .box TT6), (0, .box TT6), (41, .v .bool)] 37 (x.1, x.2.1, a2, ()))))

def z1ed (N : Nat) : Hd Bool := fun st K => (unS z138 79 (restr [2, 3] 0 st)).bind fun x => z1ho N x K

def t2_35 (N : Nat) : Tab Bool := []

theorem z1am {N : Nat} {c : Ctx} (hb : Base Tryd.prog (z17v N) c) : zh Tryd.prog c (ze zfz [0, 0, 1]) (z1ed N) :=
  zi (s := z138) (m := 79) (g := z1ho N) [2, 3] (zd hb N (t2_35 N) z18k zfz TabOk.nil [0, 0, 1] _ rfl) (fun x K => by kernel_rfl)

def z8s (N : Nat) (a : DT9) (b : DT9) (k0 : Bool -> Option Bool) (k1 : Option Bool) : Option Bool :=
 z8r N a b
 (fun x45 => cond x45
 (k0 false)
 (k1))

def z1j4 (N : Nat) (x : zz z138) (K : Ex -> List A -> Option Bool) : Option Bool :=
 z8s N x.1 x.2.1 (fun a0 => (K .ret (mkS [(4, .v .bool)] 78 (a0, ())))) (K .normal (mkS z138 79 (x.1, x.2.1, ())))

def z1ft (N : Nat) : Hd Bool := fun st K => (unS z138 79 (restr [2, 3] 0 st)).bind fun x => z1j4 N x K

def t1_35 (N : Nat) : Tab Bool := [([0, 0, 1], z1ed N)]

theorem z1c2 {N : Nat} {c : Ctx} (hb : Base Tryd.prog (z17v N) c) : zh Tryd.prog c (ze zfz [0, 1]) (z1ft N) :=
  zi (s := z138) (m := 79) (g := z1j4 N) [2, 3] (zd hb N (t1_35 N) z18k zfz (TabOk.cons (z1am hb) TabOk.nil) [0, 1] _ rfl) (fun x K => by kernel_rfl)

def z8q (N : Nat) (a : DT9) (b : DT9) (i : Int) (rec : Int -> Option Bool) (k0 : Bool -> Option Bool) (k1 : Option Bool) : Option Bool :=
 cond (decide (i < (((List.length a.1) : Nat) : Int)))
 (cond (inR i (List.length a.1))
 (cond (inR i (List.length b.1))
 (cond (!(eqD (unT (T.arr 4 (T.int IntKind.u64))) (List.getD a.1 (Int.toNat i) ([] : List Int)) (List.getD b.1 (Int.toNat i) ([] : List Int))))
 (k0 false)
 (rec (IntKind.wrap IntKind.i64 (i + (1 : Int)))))
 (none))
 (none))
 (k1)

def zde (N : Nat) (a : DT9) (b : DT9) (i : Int) (k0 : Bool -> Option Bool) (k1 : Option Bool) : Option Bool :=
 iter (fun (v : Int) r => z8q N a b v (fun i => (r i)) k0 k1) N i

def z1h1 (N : Nat) (i : (DT9 × DT9)) (v : Int) (r : Int -> Option Bool) (K : Ex -> List A -> Option Bool) : Option Bool :=
 z8q N i.1 i.2 v (fun i => (r i)) (fun a0 => (K .ret (mkS [(4, .v .bool)] 78 (a0, ())))) (K (.exit 0) (mkS z138 79 (i.1, i.2, ())))

def z1dq (N : Nat) : Hd Bool := fun st K => (unS [(2, .box TT6), (0, .box TT6), (1, .v (.int .i64))] 77 (restr [5, 2, 3] 0 st)).bind fun x => iter (fun v r => z1h1 N ((fun x => (x.1, x.2.1)) x) v r K) N ((fun x => x.2.2.1) x)

def t3_35 (N : Nat) : Tab Bool := []

theorem z19z {N : Nat} {c : Ctx} (hb : Base Tryd.prog (z17v N) c) : zh Tryd.prog c (ze zfz [0, 1, 0, 1, 1]) (z1dq N) :=
  z1w (s := [(2, .box TT6), (0, .box TT6), (1, .v (.int .i64))]) (m := 77) (z1h1 N) [5, 2, 3] N (fun x => (x.1, x.2.1)) (fun x => x.2.2.1) (fun i v => (i.1, i.2, v, ())) (fun _ => rfl) (zd hb N (t3_35 N) z18k zfz TabOk.nil [0, 0, 1, 0, 1, 1] _ rfl) (fun i v r K => by kernel_rfl)

def z8p (N : Nat) (a : DT9) (b : DT9) (i : Int) (rec : Int -> Option Bool) (k0 : Bool -> Option Bool) (k1 : Option Bool) : Option Bool :=
 cond (decide (i < (((List.length a.2.2.2.2.1) : Nat) : Int)))
 (cond (inR i (List.length a.2.2.2.2.1))
 (cond (inR i (List.length b.2.2.2.2.1))
 ((z3m N (List.getD a.2.2.2.2.1 (Int.toNat i) ([] : List Int)) (List.getD b.2.2.2.2.1 (Int.toNat i) ([] : List Int))).bind fun y =>
 cond (!y)
 (k0 false)
 (rec (IntKind.wrap IntKind.i64 (i + (1 : Int)))))
 (none))
 (none))
 (k1)

def zdd (N : Nat) (a : DT9) (b : DT9) (i : Int) (k0 : Bool -> Option Bool) (k1 : Option Bool) : Option Bool :=
 iter (fun (v : Int) r => z8p N a b v (fun i => (r i)) k0 k1) N i

def z1gr (N : Nat) (i : (DT9 × DT9)) (v : Int) (r : Int -> Option Bool) (K : Ex -> List A -> Option Bool) : Option Bool :=
 z8p N i.1 i.2 v (fun i => (r i)) (fun a0 => (K .ret (mkS [(4, .v .bool)] 78 (a0, ())))) (K (.exit 2) (mkS [] 83 ()))

def z1dg (N : Nat) : Hd Bool := fun st K => (unS [(2, .box TT6), (0, .box TT6), (2, .v (.int .i64))] 76 (restr [6, 2, 3] 0 st)).bind fun x => iter (fun v r => z1gr N ((fun x => (x.1, x.2.1)) x) v r K) N ((fun x => x.2.2.1) x)

def t4_35 (N : Nat) : Tab Bool := []

theorem z19p {N : Nat} {c : Ctx} (hb : Base Tryd.prog (z17v N) c) : zh Tryd.prog c (ze zfz [0, 1, 0, 1, 1, 1]) (z1dg N) :=
  z1w (s := [(2, .box TT6), (0, .box TT6), (2, .v (.int .i64))]) (m := 76) (z1gr N) [6, 2, 3] N (fun x => (x.1, x.2.1)) (fun x => x.2.2.1) (fun i v => (i.1, i.2, v, ())) (fun _ => rfl) (zd hb N (t4_35 N) z18k zfz TabOk.nil zxx _ rfl) (fun i v r K => by kernel_rfl)

def z4h (N : Nat) (a : DT9) (b : DT9) : Option Bool :=
 z8s N a b
 (fun x4 => some x4)
 (zde N a b (0 : Int)
 (fun x41 => some x41)
 (zdd N a b (0 : Int)
 (fun x42 => some x42)
 (some true)))

def t_35 (N : Nat) : Tab Bool := [([0, 1], z1ft N), ([0, 1, 0, 1, 1], z1dq N), ([0, 1, 0, 1, 1, 1], z1dg N)]

theorem z161 (N : Nat) (x : zz [(0, .v TT6), (0, .v TT6)]) : z6k (z17v N) N (t_35 N) z18k Tryd.f12 (mkS [(0, .v TT6), (0, .v TT6)] 0 x) (z4b (.v .bool) 2) = z4h N x.1 x.2.1 := by kernel_rfl

def zc3 (N : Nat) : List A -> Res := zu [(0, .v TT6), (0, .v TT6)] (fun x => z4h N x.1 x.2.1) (z75 (.v .bool) 2)

theorem zj6 (N : Nat) : Contract Tryd.prog glob 12 (zc3 N) :=
  Contract.of (E := z17v N) (H := t_35 N) (L := z18k) (N := N) (body := zfz) (K := (z4b (.v .bool) 2)) (z1ll N) Tryd.func12 (by kernel_rfl) (by decide) (fun _ hb => (TabOk.cons (z1c2 hb) (TabOk.cons (z19z hb) (TabOk.cons (z19p hb) TabOk.nil)))) (fun x y h => by rw [z161]; exact h) (z1b (s := (.v .bool)) (m := 2))

def zlg : Code := (Tryd.f19.body).getD .skip

def L_36 : List (List Nat × List Nat) := [([0], [1]), ([0, 1], [1, 4, 5]), ([0, 0, 1, 1], [6, 1, 4, 5]), ([0, 1, 0, 1, 1], [6, 1, 4, 5]), (zy1, [13, 1, 6, 4, 5]), (zy0, [1, 6, 4, 5]), (z18g, [4, 5]), (z13g, [4, 7, 8, 5, 6, 1]), ([0, 1, 0, 0, 1, 0, 0, 1, 0, 1, 1], [8, 5, 6, 1, 4]), ([0, 1, 1, 0, 0, 1, 0, 0, 1, 0, 1, 1], [30, 8, 6, 1, 4, 5]), ([1, 1, 1, 0, 0, 1, 0, 0, 1, 0, 1, 1], [6, 1, 4, 5]), ([0, 1, 1, 1, 0, 0, 1, 0, 0, 1, 0, 1, 1], [6, 1, 4, 5]), (zq9, [6, 1, 4, 5]), (zxz, [6, 1, 4, 5]), ([1, 0, 1, 1], [4, 5]), ([0, 1, 1, 1], [2, 3]), ([1, 1, 1, 1], [2, 3])]

def z1mj (N : Nat) (self : DT1 -> Option (Int × Int × Unit)) : Env := z1s tys glob [(19, zu [(0, .v TT0)] (fun x => self x.1) (z75 (.tup [(.int .i64), (.int .i64)]) 1))] [] [] [] false [] []

theorem z1lk (N : Nat) (self : DT1 -> Option (Int × Int × Unit)) (hself : Contract Tryd.prog glob 19 (zu [(0, .v TT0)] (fun x => self x.1) (z75 (.tup [(.int .i64), (.int .i64)]) 1))) : EnvOk Tryd.prog (z1mj N self) := zf mixed zq (FnsOk.cons (hself) (FnsOk.nil)) (ItsOk.nil)

def z8w (N : Nat) (self : DT1 -> Option (Int × Int × Unit)) (n : DT1) (all : Int) (deep : Int) (i : Int) (k0 : Int -> Int -> Option (Int × Int × Unit)) : Option (Int × Int × Unit) :=
 cond (inR i (List.length n.2.2.1))
 ((self (unN (List.getD n.2.2.1 (Int.toNat i) (Tree.mk (0 : Int) ([] : List Int) ([] : List Tree) (0 : Int) (0 : Int))))).bind fun y =>
 cond (decide (deep < y.2.1))
 (k0 (IntKind.wrap IntKind.i64 (all + y.1)) y.2.1)
 (k0 (IntKind.wrap IntKind.i64 (all + y.1)) deep))
 (none)

def z1hn (N : Nat) (self : DT1 -> Option (Int × Int × Unit)) (x : zz z18b) (K : Ex -> List A -> Option (Int × Int × Unit)) : Option (Int × Int × Unit) :=
 z8w N self x.1 x.2.1 x.2.2.1 x.2.2.2.1 (fun a1 a2 => (K .normal (mkS z18b 28 (x.1, a1, a2, x.2.2.2.1, ()))))

def z1ec (N : Nat) (self : DT1 -> Option (Int × Int × Unit)) : Hd (Int × Int × Unit) := fun st K => (unS z18b 28 (restr [1, 6, 4, 5] 0 st)).bind fun x => z1hn N self x K

def t2_36 (N : Nat) (self : DT1 -> Option (Int × Int × Unit)) : Tab (Int × Int × Unit) := []

theorem z1al {N : Nat} {self : DT1 -> Option (Int × Int × Unit)} {c : Ctx} (hb : Base Tryd.prog (z1mj N self) c) : zh Tryd.prog c (ze zlg zq9) (z1ec N self) :=
  zi (s := z18b) (m := 28) (g := z1hn N self) [1, 6, 4, 5] (zd hb N (t2_36 N self) L_36 zlg TabOk.nil zq9 _ rfl) (fun x K => by kernel_rfl)

def z5q (N : Nat) (self : DT1 -> Option (Int × Int × Unit)) (n : DT1) (all : Int) (deep : Int) (i : Int) (rec : Int -> Int -> Int -> Option (Int × Int × Unit)) (k0 : Int -> Int -> Option (Int × Int × Unit)) : Option (Int × Int × Unit) :=
 cond (decide (i < (((List.length n.2.2.1) : Nat) : Int)))
 (z8w N self n all deep i
 (fun all1 deep1 => rec all1 deep1 (IntKind.wrap IntKind.i64 (i + (1 : Int)))))
 (k0 all deep)

def zdg (N : Nat) (self : DT1 -> Option (Int × Int × Unit)) (n : DT1) (all : Int) (deep : Int) (i : Int) (k0 : Int -> Int -> Option (Int × Int × Unit)) : Option (Int × Int × Unit) :=
 iter (fun (v : (Int × Int × Int)) r => z5q N self n v.1 v.2.1 v.2.2 (fun all deep i => (r (all, deep, i))) k0) N (all, deep, i)

def z1j3 (N : Nat) (self : DT1 -> Option (Int × Int × Unit)) (i : DT1) (v : (Int × Int × Int)) (r : (Int × Int × Int) -> Option (Int × Int × Unit)) (K : Ex -> List A -> Option (Int × Int × Unit)) : Option (Int × Int × Unit) :=
 z5q N self i v.1 v.2.1 v.2.2 (fun all deep i => (r (all, deep, i))) (fun a0 a1 => (K (.exit 0) (mkS [(4, .v (.int .i64)), (0, .v (.int .i64))] 29 (a0, a1, ()))))

def z1fs (N : Nat) (self : DT1 -> Option (Int × Int × Unit)) : Hd (Int × Int × Unit) := fun st K => (unS z18b 28 (restr [6, 1, 4, 5] 0 st)).bind fun x => iter (fun v r => z1j3 N self ((fun x => x.1) x) v r K) N ((fun x => (x.2.1, x.2.2.1, x.2.2.2.1)) x)

def t1_36 (N : Nat) (self : DT1 -> Option (Int × Int × Unit)) : Tab (Int × Int × Unit) := [(zq9, z1ec N self)]

theorem z1c1 {N : Nat} {self : DT1 -> Option (Int × Int × Unit)} {c : Ctx} (hb : Base Tryd.prog (z1mj N self) c) : zh Tryd.prog c (ze zlg [0, 1, 0, 1, 1]) (z1fs N self) :=
  z1w (s := z18b) (m := 28) (z1j3 N self) [6, 1, 4, 5] N (fun x => x.1) (fun x => (x.2.1, x.2.2.1, x.2.2.2.1)) (fun i v => (i, v.1, v.2.1, v.2.2, ())) (fun _ => rfl) (zd hb N (t1_36 N self) L_36 zlg (TabOk.cons (z1al hb) TabOk.nil) [0, 0, 1, 0, 1, 1] _ rfl) (fun i v r K => by kernel_rfl)

def z6h (N : Nat) (self : DT1 -> Option (Int × Int × Unit)) (n : DT1) : Option (Int × Int × Unit) :=
 zdg N self n (1 : Int) (0 : Int) (0 : Int)
 (fun all deep => some (all, ((IntKind.wrap IntKind.i64 (deep + (1 : Int))), ())))

def t_36 (N : Nat) (self : DT1 -> Option (Int × Int × Unit)) : Tab (Int × Int × Unit) := [([0, 1, 0, 1, 1], z1fs N self)]

theorem z160 (N : Nat) (self : DT1 -> Option (Int × Int × Unit)) (x : zz [(0, .v TT0)]) : z6k (z1mj N self) N (t_36 N self) L_36 Tryd.f19 (mkS [(0, .v TT0)] 0 x) (z4b (.tup [(.int .i64), (.int .i64)]) 1) = z6h N self x.1 := by kernel_rfl

def z2b : Nat -> DT1 -> Option (Int × Int × Unit)
  | 0 => fun _ => none
  | N + 1 => z6h (N + 1) (z2b N)

def zc4 (N : Nat) : List A -> Res := zu [(0, .v TT0)] (fun x => z2b N x.1) (z75 (.tup [(.int .i64), (.int .i64)]) 1)

theorem zdh : ∀ N : Nat, Contract Tryd.prog glob 19 (zc4 N)
  | 0 => Contract.zero Tryd.func19 (body := zlg) (by kernel_rfl) (by decide) (fun _ => rfl)
  | N + 1 => Contract.of (E := z1mj (N + 1) (z2b N)) (H := t_36 (N + 1) (z2b N)) (L := L_36) (N := (N + 1)) (body := zlg) (K := (z4b (.tup [(.int .i64), (.int .i64)]) 1)) (z1lk (N + 1) (z2b N) (zdh N)) Tryd.func19 (by kernel_rfl) (by decide) (fun _ hb => (TabOk.cons (z1c1 hb) TabOk.nil)) (fun x y h => by rw [z160]; exact h) (z1b (s := (.tup [(.int .i64), (.int .i64)])) (m := 1))

def z17a : Code := (Tryd.f6.body).getD .skip

def L_37 : List (List Nat × List Nat) := [([0], [1]), ([0, 1], [3, 4]), ([0, 1, 1], [2]), ([1, 1, 1], [2])]

def E_37 (N : Nat) : Env := z1s tys glob [(19, zc4 N)] [] [] [] false [] []

theorem z1lj (N : Nat) : EnvOk Tryd.prog (E_37 N) := zf mixed zq (FnsOk.cons (zdh N) (FnsOk.nil)) (ItsOk.nil)

def z58 (N : Nat) (n : DT1) : Option Bool :=
 (z2b N n).bind fun y =>
 cond (decide ((300 : Int) < y.1))
 (some true)
 (some (decide ((40 : Int) < y.2.1)))

def t_37 (N : Nat) : Tab Bool := []

theorem z15z (N : Nat) (x : zz [(0, .v TT0)]) : z6k (E_37 N) N (t_37 N) L_37 Tryd.f6 (mkS [(0, .v TT0)] 0 x) (z4b (.v .bool) 1) = z58 N x.1 := by kernel_rfl

def zba (N : Nat) : List A -> Res := zu [(0, .v TT0)] (fun x => z58 N x.1) (z75 (.v .bool) 1)

theorem zi5 (N : Nat) : Contract Tryd.prog glob 6 (zba N) :=
  Contract.of (E := E_37 N) (H := t_37 N) (L := L_37) (N := N) (body := z17a) (K := (z4b (.v .bool) 1)) (z1lj N) Tryd.func6 (by kernel_rfl) (by decide) (fun _ hb => TabOk.nil) (fun x y h => by rw [z15z]; exact h) (z1b (s := (.v .bool)) (m := 1))

def zuy : Code := (Tryd.f92.body).getD .skip

def L_38 : List (List Nat × List Nat) := [([0], [0]), ([0, 0, 1], [12, 0]), ([1, 0, 1], [0]), ([0, 1, 0, 1], [0]), ([0, 1, 1], [2, 0]), ([1, 1, 1], [2, 0])]

def E_38 (N : Nat) : Env := z1s tys glob [] [] [] [0] false [] []

theorem z1li (N : Nat) : EnvOk Tryd.prog (E_38 N) := zf mixed zq (FnsOk.nil) (ItsOk.nil)

def zbo (N : Nat) (p : DT4) (k0 : Option (Int × (DT4 × Unit))) : Option (Int × (DT4 × Unit)) :=
 cond (p.2.1 == (((List.length p.1) : Nat) : Int))
 (none)
 (k0)

def z1j2 (N : Nat) (x : zz [(0, .box TT2)]) (K : Ex -> List A -> Option (Int × (DT4 × Unit))) : Option (Int × (DT4 × Unit)) :=
 zbo N x.1 (K .normal (mkS [(0, .box TT2)] 27 (x.1, ())))

def z1fr (N : Nat) : Hd (Int × (DT4 × Unit)) := fun st K => (unS [(0, .box TT2)] 27 (restr [0] 0 st)).bind fun x => z1j2 N x K

def t1_38 (N : Nat) : Tab (Int × (DT4 × Unit)) := []

theorem z1c0 {N : Nat} {c : Ctx} (hb : Base Tryd.prog (E_38 N) c) : zh Tryd.prog c (ze zuy [0, 1]) (z1fr N) :=
  zi (s := [(0, .box TT2)]) (m := 27) (g := z1j2 N) [0] (zd hb N (t1_38 N) L_38 zuy TabOk.nil [0, 1] _ rfl) (fun x K => by kernel_rfl)

def z1f (N : Nat) (p : DT4) : Option (Int × (DT4 × Unit)) :=
 zbo N p
 (cond (inR p.2.1 (List.length p.1))
 (some ((((UInt8.toNat (List.getD p.1 (Int.toNat p.2.1) (0 : UInt8))) : Nat) : Int), (p, ())))
 (none))

def t_38 (N : Nat) : Tab (Int × (DT4 × Unit)) := [([0, 1], z1fr N)]

theorem z15y (N : Nat) (x : zz [(0, .box TT2)]) : z6k (E_38 N) N (t_38 N) L_38 Tryd.f92 (mkS [(0, .box TT2)] 0 x) (z4z (.v (.int .u8)) [(0, .box TT2)] 0) = z1f N x.1 := by kernel_rfl

def z12 (N : Nat) : List A -> Res := zu [(0, .box TT2)] (fun x => z1f N x.1) (z5f (.v (.int .u8)) [(0, .box TT2)] 0)

theorem z1c (N : Nat) : Contract Tryd.prog glob 92 (z12 N) :=
  Contract.of (E := E_38 N) (H := t_38 N) (L := L_38) (N := N) (body := zuy) (K := (z4z (.v (.int .u8)) [(0, .box TT2)] 0)) (z1li N) Tryd.func92 (by kernel_rfl) (by decide) (fun _ hb => (TabOk.cons (z1c0 hb) TabOk.nil)) (fun x y h => by rw [z15y]; exact h) (z3k (s := (.v (.int .u8))) (os := [(0, .box TT2)]) (m := 0))

def zux : Code := (Tryd.f87.body).getD .skip

def L_39 : List (List Nat × List Nat) := [([0, 0], [7, 0]), ([1, 0], [0]), ([0, 1, 0], [0]), ([1], [0])]

def E_39 (N : Nat) : Env := z1s tys glob [(92, z12 N)] [] [] [0] false [] []

theorem z1lh (N : Nat) : EnvOk Tryd.prog (E_39 N) := zf mixed zq (FnsOk.cons (z1c N) (FnsOk.nil)) (ItsOk.nil)

def zbp (N : Nat) (p : DT4) (b : Int) (k0 : DT4 -> Option ((Unit) × (DT4 × Unit))) : Option ((Unit) × (DT4 × Unit)) :=
 (z1f N p).bind fun y =>
 cond (y.1 != b)
 (none)
 (k0 y.2.1)

def z1j1 (N : Nat) (x : zz zpb) (K : Ex -> List A -> Option ((Unit) × (DT4 × Unit))) : Option ((Unit) × (DT4 × Unit)) :=
 zbp N x.1 x.2.1 (fun a0 => (K .normal (mkS [(0, .box TT2)] 20 (a0, ()))))

def z1fq (N : Nat) : Hd ((Unit) × (DT4 × Unit)) := fun st K => (unS zpb 19 (restr [0, 1] 0 st)).bind fun x => z1j1 N x K

def t1_39 (N : Nat) : Tab ((Unit) × (DT4 × Unit)) := []

theorem z1bz {N : Nat} {c : Ctx} (hb : Base Tryd.prog (E_39 N) c) : zh Tryd.prog c (ze zux [0]) (z1fq N) :=
  zi (s := zpb) (m := 19) (g := z1j1 N) [0, 1] (zd hb N (t1_39 N) L_39 zux TabOk.nil [0] _ rfl) (fun x K => by kernel_rfl)

def z1g (N : Nat) (p : DT4) (b : Int) : Option ((Unit) × (DT4 × Unit)) :=
 zbp N p b
 (fun p1 => some ((), ((p1.1, ((IntKind.wrap IntKind.i64 (p1.2.1 + (1 : Int))), p1.2.2)), ())))

def t_39 (N : Nat) : Tab ((Unit) × (DT4 × Unit)) := [([0], z1fq N)]

theorem z15x (N : Nat) (x : zz zpb) : z6k (E_39 N) N (t_39 N) L_39 Tryd.f87 (mkS zpb 0 x) (z4z (.tup []) [(0, .box TT2)] 1) = z1g N x.1 x.2.1 := by kernel_rfl

def z1k (N : Nat) : List A -> Res := zu zpb (fun x => z1g N x.1 x.2.1) (z5f (.tup []) [(0, .box TT2)] 1)

theorem z21 (N : Nat) : Contract Tryd.prog glob 87 (z1k N) :=
  Contract.of (E := E_39 N) (H := t_39 N) (L := L_39) (N := N) (body := zux) (K := (z4z (.tup []) [(0, .box TT2)] 1)) (z1lh N) Tryd.func87 (by kernel_rfl) (by decide) (fun _ hb => (TabOk.cons (z1bz hb) TabOk.nil)) (fun x y h => by rw [z15x]; exact h) (z3k (s := (.tup [])) (os := [(0, .box TT2)]) (m := 1))

abbrev z7 : Type := DT4 -> Option (DT1 × (DT4 × Unit))

def zuw : Code := (Tryd.f80.body).getD .skip

def L_40 : List (List Nat × List Nat) := [([0], [0, 2]), ([0, 0, 1], [8, 0, 2]), ([1, 0, 1], [0, 2]), ([0, 1, 0, 1], [0, 2]), ([0, 1, 1], [0, 2]), ([0, 1, 1, 1], [0, 2]), ([0, 1, 1, 1, 1], [0, 3, 2]), ([0, 1, 1, 1, 1, 1], [0, 3, 2]), (zxv, [3, 2, 0]), (z10k, [2, 0]), (z13e, [2, 0])]

def E_40 (N : Nat) (self : z7) : Env := z1s tys glob [(87, z1k N), (40, zu [(0, .box TT2)] (fun x => self x.1) (z5f (.v TT0) [(0, .box TT2)] 0))] [] [] [0] false [] []

theorem z1lg (N : Nat) (self : z7) (hself : Contract Tryd.prog glob 40 (zu [(0, .box TT2)] (fun x => self x.1) (z5f (.v TT0) [(0, .box TT2)] 0))) : EnvOk Tryd.prog (E_40 N self) := zf mixed zq (FnsOk.cons (z21 N) (FnsOk.cons (hself) (FnsOk.nil))) (ItsOk.nil)

def zb3 (N : Nat) (self : z7) (p : DT4) (x2 : DT1) (k0 : Option (DT1 × (DT4 × Unit))) : Option (DT1 × (DT4 × Unit)) :=
 cond (p.2.2.1 == (16 : Int))
 (none)
 (k0)

def z1j0 (N : Nat) (self : z7) (x : zz z137) (K : Ex -> List A -> Option (DT1 × (DT4 × Unit))) : Option (DT1 × (DT4 × Unit)) :=
 zb3 N self x.1 x.2.1 (K .normal (mkS z137 33 (x.1, x.2.1, ())))

def z1fp (N : Nat) (self : z7) : Hd (DT1 × (DT4 × Unit)) := fun st K => (unS z137 33 (restr [0, 2] 0 st)).bind fun x => z1j0 N self x K

def t1_40 (N : Nat) (self : z7) : Tab (DT1 × (DT4 × Unit)) := []

theorem z1by {N : Nat} {self : z7} {c : Ctx} (hb : Base Tryd.prog (E_40 N self) c) : zh Tryd.prog c (ze zuw [0, 1]) (z1fp N self) :=
  zi (s := z137) (m := 33) (g := z1j0 N self) [0, 2] (zd hb N (t1_40 N self) L_40 zuw TabOk.nil [0, 1] _ rfl) (fun x K => by kernel_rfl)

def z6e (N : Nat) (self : z7) (p : DT4) : Option (DT1 × (DT4 × Unit)) :=
 zb3 N self p ((0 : Int), (([(0 : Int), (0 : Int), (0 : Int), (0 : Int)] : List Int), (([] : List Tree), ((0 : Int), ((0 : Int), ())))))
 ((z1g N (p.1, (p.2.1, ((IntKind.wrap IntKind.i64 (p.2.2.1 + (1 : Int))), p.2.2.2))) (40 : Int)).bind fun y =>
 (self y.2.1).bind fun y1 =>
 (z1g N y1.2.1 (41 : Int)).bind fun y2 =>
 some (y1.1, ((y2.2.1.1, (y2.2.1.2.1, ((IntKind.wrap IntKind.i64 (y2.2.1.2.2.1 - (1 : Int))), y2.2.1.2.2.2))), ())))

def t_40 (N : Nat) (self : z7) : Tab (DT1 × (DT4 × Unit)) := [([0, 1], z1fp N self)]

theorem z15w (N : Nat) (self : z7) (x : zz [(0, .box TT2)]) : z6k (E_40 N self) N (t_40 N self) L_40 Tryd.f80 (mkS [(0, .box TT2)] 0 x) (z4z (.v TT0) [(0, .box TT2)] 0) = z6e N self x.1 := by kernel_rfl

def z66 (N : Nat) (self : z7) : List A -> Res := zu [(0, .box TT2)] (fun x => z6e N self x.1) (z5f (.v TT0) [(0, .box TT2)] 0)

theorem zb4 (N : Nat) (self : z7) (hself : Contract Tryd.prog glob 40 (zu [(0, .box TT2)] (fun x => self x.1) (z5f (.v TT0) [(0, .box TT2)] 0))) : Contract Tryd.prog glob 80 (z66 N self) :=
  Contract.of (E := E_40 N self) (H := t_40 N self) (L := L_40) (N := N) (body := zuw) (K := (z4z (.v TT0) [(0, .box TT2)] 0)) (z1lg N self hself) Tryd.func80 (by kernel_rfl) (by decide) (fun _ hb => (TabOk.cons (z1by hb) TabOk.nil)) (fun x y h => by rw [z15w]; exact h) (z3k (s := (.v TT0)) (os := [(0, .box TT2)]) (m := 0))

def z179 : Code := (Tryd.f88.body).getD .skip

def L_41 : List (List Nat × List Nat) := [([0], [1, 2, 4]), ([0, 1], [2, 4]), ([0, 1, 1], [4]), ([1, 1, 1], [4])]

def E_41 (N : Nat) : Env := z1s tys glob [] [] [] [] false [] []

theorem z1lf (N : Nat) : EnvOk Tryd.prog (E_41 N) := zf mixed zq (FnsOk.nil) (ItsOk.nil)

def ze1 (N : Nat) (s : (List Int)) (b : Int) : Option (List Int) :=
 cond (inR (IntKind.wrap IntKind.u8 (Int.tdiv b (64 : Int))) 4)
 (cond (decide ((Int.toNat (IntKind.wrap IntKind.u8 (Int.tdiv b (64 : Int)))) < (List.length s)))
 (cond (decide ((0 : Int) <= (Int.tmod b (64 : Int))))
 (cond (inR (IntKind.wrap IntKind.u8 (Int.tdiv b (64 : Int))) 4)
 (cond (decide ((Int.toNat (IntKind.wrap IntKind.u8 (Int.tdiv b (64 : Int)))) < (List.length s)))
 (some (List.set s (Int.toNat (IntKind.wrap IntKind.u8 (Int.tdiv b (64 : Int)))) (zaa Go.BinOp.or IntKind.u64 (List.getD s (Int.toNat (IntKind.wrap IntKind.u8 (Int.tdiv b (64 : Int)))) (0 : Int)) (z192 IntKind.u64 (1 : Int) (Int.tmod b (64 : Int))))))
 (none))
 (none))
 (none))
 (none))
 (none)

def t_41 (N : Nat) : Tab (List Int) := []

theorem z15v (N : Nat) (x : zz z188) : z6k (E_41 N) N (t_41 N) L_41 Tryd.f88 (mkS z188 0 x) (z4b (.v (.arr 4 (.int .u64))) 2) = ze1 N x.1 x.2.1 := by kernel_rfl

def zbe (N : Nat) : List A -> Res := zu z188 (fun x => ze1 N x.1 x.2.1) (z75 (.v (.arr 4 (.int .u64))) 2)

theorem zhe (N : Nat) : Contract Tryd.prog glob 88 (zbe N) :=
  Contract.of (E := E_41 N) (H := t_41 N) (L := L_41) (N := N) (body := z179) (K := (z4b (.v (.arr 4 (.int .u64))) 2)) (z1lf N) Tryd.func88 (by kernel_rfl) (by decide) (fun _ hb => TabOk.nil) (fun x y h => by rw [z15v]; exact h) (z1b (s := (.v (.arr 4 (.int .u64)))) (m := 2))

def zuv : Code := (Tryd.f82.body).getD .skip

def L_42 : List (List Nat × List Nat) := [([0], [0, 1, 4]), ([0, 1], [0, 1, 5, 4]), ([0, 0, 1, 1], [6, 1, 5, 4]), ([0, 1, 0, 1, 1], [6, 1, 5, 4]), (zy1, [12, 5, 6, 1, 4]), (zy0, [5, 6, 1, 4]), (z18g, [5, 4]), ([0, 0, 1, 0, 0, 1, 0, 1, 1], [6, 1, 5, 4]), (zq9, [6, 1, 5, 4]), (zxz, [6, 1, 5, 4]), ([1, 0, 1, 1], [5, 4]), ([0, 1, 1, 1], [4]), ([1, 1, 1, 1], [4])]

def E_42 (N : Nat) : Env := z1s tys glob [(88, zbe N)] [] [] [] false [] []

theorem z1le (N : Nat) : EnvOk Tryd.prog (E_42 N) := zf mixed zq (FnsOk.cons (zhe N) (FnsOk.nil)) (ItsOk.nil)

def zkh (N : Nat) (hi : Int) (x4 : (List Int)) (s : (List Int)) (b : Int) (rec : (List Int) -> Int -> Option (List Int)) (k0 : (List Int) -> Option (List Int)) : Option (List Int) :=
 cond (decide (b <= (IntKind.wrap IntKind.i64 hi)))
 ((ze1 N s (IntKind.wrap IntKind.u8 b)).bind fun y =>
 rec y (IntKind.wrap IntKind.i64 (b + (1 : Int))))
 (k0 s)

def zr7 (N : Nat) (hi : Int) (x4 : (List Int)) (s : (List Int)) (b : Int) (k0 : (List Int) -> Option (List Int)) : Option (List Int) :=
 iter (fun (v : ((List Int) × Int)) r => zkh N hi x4 v.1 v.2 (fun s b => (r (s, b))) k0) N (s, b)

def z1iz (N : Nat) (i : (Int × (List Int))) (v : ((List Int) × Int)) (r : ((List Int) × Int) -> Option (List Int)) (K : Ex -> List A -> Option (List Int)) : Option (List Int) :=
 zkh N i.1 i.2 v.1 v.2 (fun s b => (r (s, b))) (fun a1 => (K (.exit 0) (mkS [(4, .box (.arr 4 (.int .u64))), (0, .box (.arr 4 (.int .u64)))] 14 (i.2, a1, ()))))

def z1fo (N : Nat) : Hd (List Int) := fun st K => (unS SQ69 13 (restr [6, 1, 5, 4] 0 st)).bind fun x => iter (fun v r => z1iz N ((fun x => (x.1, x.2.1)) x) v r K) N ((fun x => (x.2.2.1, x.2.2.2.1)) x)

def t1_42 (N : Nat) : Tab (List Int) := []

theorem z1bx {N : Nat} {c : Ctx} (hb : Base Tryd.prog (E_42 N) c) : zh Tryd.prog c (ze zuv [0, 1, 0, 1, 1]) (z1fo N) :=
  z1w (s := SQ69) (m := 13) (z1iz N) [6, 1, 5, 4] N (fun x => (x.1, x.2.1)) (fun x => (x.2.2.1, x.2.2.2.1)) (fun i v => (i.1, i.2, v.1, v.2, ())) (fun _ => rfl) (zd hb N (t1_42 N) L_42 zuv TabOk.nil [0, 0, 1, 0, 1, 1] _ rfl) (fun i v r K => by kernel_rfl)

def z3l (N : Nat) (lo : Int) (hi : Int) : Option (List Int) :=
 zr7 N hi ([(0 : Int), (0 : Int), (0 : Int), (0 : Int)] : List Int) ([(0 : Int), (0 : Int), (0 : Int), (0 : Int)] : List Int) (IntKind.wrap IntKind.i64 lo)
 (fun s => some s)

def t_42 (N : Nat) : Tab (List Int) := [([0, 1, 0, 1, 1], z1fo N)]

theorem z15u (N : Nat) (x : zz [(0, .v (.int .u8)), (0, .v (.int .u8))]) : z6k (E_42 N) N (t_42 N) L_42 Tryd.f82 (mkS [(0, .v (.int .u8)), (0, .v (.int .u8))] 0 x) (z4b (.v (.arr 4 (.int .u64))) 2) = z3l N x.1 x.2.1 := by kernel_rfl

def z37 (N : Nat) : List A -> Res := zu [(0, .v (.int .u8)), (0, .v (.int .u8))] (fun x => z3l N x.1 x.2.1) (z75 (.v (.arr 4 (.int .u64))) 2)

theorem z4n (N : Nat) : Contract Tryd.prog glob 82 (z37 N) :=
  Contract.of (E := E_42 N) (H := t_42 N) (L := L_42) (N := N) (body := zuv) (K := (z4b (.v (.arr 4 (.int .u64))) 2)) (z1le N) Tryd.func82 (by kernel_rfl) (by decide) (fun _ hb => (TabOk.cons (z1bx hb) TabOk.nil)) (fun x y h => by rw [z15u]; exact h) (z1b (s := (.v (.arr 4 (.int .u64)))) (m := 2))

def z178 : Code := (Tryd.f81.body).getD .skip

def L_43 : List (List Nat × List Nat) := [([0], [1, 2]), ([0, 1], [2]), ([1, 1], [2])]

def E_43 (N : Nat) : Env := z1s tys glob [] [] [] [] false [] []

theorem z1ld (N : Nat) : EnvOk Tryd.prog (E_43 N) := zf mixed zq (FnsOk.nil) (ItsOk.nil)

def zrv (N : Nat) (s : (List Int)) : Option DT1 :=
 some ((1 : Int), (s, (([] : List Tree), ((0 : Int), ((0 : Int), ())))))

def t_43 (N : Nat) : Tab DT1 := []

theorem z15t (N : Nat) (x : zz z127) : z6k (E_43 N) N (t_43 N) L_43 Tryd.f81 (mkS z127 0 x) (z4b (.v TT0) 1) = zrv N x.1 := by kernel_rfl

def zfg (N : Nat) : List A -> Res := zu z127 (fun x => zrv N x.1) (z75 (.v TT0) 1)

theorem zll (N : Nat) : Contract Tryd.prog glob 81 (zfg N) :=
  Contract.of (E := E_43 N) (H := t_43 N) (L := L_43) (N := N) (body := z178) (K := (z4b (.v TT0) 1)) (z1ld N) Tryd.func81 (by kernel_rfl) (by decide) (fun _ hb => TabOk.nil) (fun x y h => by rw [z15t]; exact h) (z1b (s := (.v TT0)) (m := 1))

def zod : Code := (Tryd.f57.body).getD .skip

def L_44 : List (List Nat × List Nat) := [([0], [0, 1]), ([0, 0, 1], [27, 0]), ([1, 0, 1], [0]), ([0, 0, 1, 0, 1], [4, 0]), ([1, 0, 1, 0, 1], [4, 0]), ([0, 1, 1], [0]), ([0, 1, 1, 1], [4, 0]), ([1, 1, 1, 1], [4, 0])]

def z1mi (N : Nat) : Env := z1s tys glob [] [] [] [0] false [] []

theorem z1lc (N : Nat) : EnvOk Tryd.prog (z1mi N) := zf mixed zq (FnsOk.nil) (ItsOk.nil)

def zbj (N : Nat) (p : DT4) (b : Int) (k0 : Bool -> Option (Bool × (DT4 × Unit))) : Option (Bool × (DT4 × Unit)) :=
 cond (p.2.1 == (((List.length p.1) : Nat) : Int))
 (k0 true)
 (cond (inR p.2.1 (List.length p.1))
 (k0 ((((UInt8.toNat (List.getD p.1 (Int.toNat p.2.1) (0 : UInt8))) : Nat) : Int) != b))
 (none))

def z1hm (N : Nat) (x : zz zpb) (K : Ex -> List A -> Option (Bool × (DT4 × Unit))) : Option (Bool × (DT4 × Unit)) :=
 zbj N x.1 x.2.1 (fun a1 => (K .normal (mkS [(0, .box TT2), (26, .v .bool)] 7 (x.1, a1, ()))))

def z1eb (N : Nat) : Hd (Bool × (DT4 × Unit)) := fun st K => (unS zpb 33 (restr [0, 1] 0 st)).bind fun x => z1hm N x K

def t2_44 (N : Nat) : Tab (Bool × (DT4 × Unit)) := []

theorem z1ak {N : Nat} {c : Ctx} (hb : Base Tryd.prog (z1mi N) c) : zh Tryd.prog c (ze zod [0, 0, 1]) (z1eb N) :=
  zi (s := zpb) (m := 33) (g := z1hm N) [0, 1] (zd hb N (t2_44 N) L_44 zod TabOk.nil [0, 0, 1] _ rfl) (fun x K => by kernel_rfl)

def zbk (N : Nat) (p : DT4) (b : Int) (k0 : Bool -> Option (Bool × (DT4 × Unit))) (k1 : Option (Bool × (DT4 × Unit))) : Option (Bool × (DT4 × Unit)) :=
 zbj N p b
 (fun x27 => cond x27
 (k0 false)
 (k1))

def z1iy (N : Nat) (x : zz zpb) (K : Ex -> List A -> Option (Bool × (DT4 × Unit))) : Option (Bool × (DT4 × Unit)) :=
 zbk N x.1 x.2.1 (fun a1 => (K .ret (mkS [(0, .box TT2), (3, .v .bool)] 30 (x.1, a1, ())))) (K .normal (mkS [(0, .box TT2)] 34 (x.1, ())))

def z1fn (N : Nat) : Hd (Bool × (DT4 × Unit)) := fun st K => (unS zpb 33 (restr [0, 1] 0 st)).bind fun x => z1iy N x K

def t1_44 (N : Nat) : Tab (Bool × (DT4 × Unit)) := [([0, 0, 1], z1eb N)]

theorem z1bw {N : Nat} {c : Ctx} (hb : Base Tryd.prog (z1mi N) c) : zh Tryd.prog c (ze zod [0, 1]) (z1fn N) :=
  zi (s := zpb) (m := 33) (g := z1iy N) [0, 1] (zd hb N (t1_44 N) L_44 zod (TabOk.cons (z1ak hb) TabOk.nil) [0, 1] _ rfl) (fun x K => by kernel_rfl)

def z14 (N : Nat) (p : DT4) (b : Int) : Option (Bool × (DT4 × Unit)) :=
 zbk N p b
 (fun x4 => some (x4, (p, ())))
 (some (true, ((p.1, ((IntKind.wrap IntKind.i64 (p.2.1 + (1 : Int))), p.2.2)), ())))

def t_44 (N : Nat) : Tab (Bool × (DT4 × Unit)) := [([0, 1], z1fn N)]

theorem z15s (N : Nat) (x : zz zpb) : z6k (z1mi N) N (t_44 N) L_44 Tryd.f57 (mkS zpb 0 x) (z4z (.v .bool) [(0, .box TT2)] 1) = z14 N x.1 x.2.1 := by kernel_rfl

def z1j (N : Nat) : List A -> Res := zu zpb (fun x => z14 N x.1 x.2.1) (z5f (.v .bool) [(0, .box TT2)] 1)

theorem z20 (N : Nat) : Contract Tryd.prog glob 57 (z1j N) :=
  Contract.of (E := z1mi N) (H := t_44 N) (L := L_44) (N := N) (body := zod) (K := (z4z (.v .bool) [(0, .box TT2)] 1)) (z1lc N) Tryd.func57 (by kernel_rfl) (by decide) (fun _ hb => (TabOk.cons (z1bw hb) TabOk.nil)) (fun x y h => by rw [z15s]; exact h) (z3k (s := (.v .bool)) (os := [(0, .box TT2)]) (m := 1))

def zuu : Code := (Tryd.f93.body).getD .skip

def L_45 : List (List Nat × List Nat) := [([0], [0, 2]), ([0, 1], [0, 3, 2]), ([0, 0, 1, 1], [7, 6, 3, 0, 2]), ([0, 1, 0, 1, 1], [7, 6, 3, 0, 2]), ([0, 0, 0, 1, 0, 1, 1], [8, 7, 3, 0, 6, 2]), (zq9, [7, 3, 0, 6, 2]), (z10v, [3, 2]), (z1k2, [3, 0, 4, 7, 6, 2]), ([1, 0, 0, 1, 1, 0, 0, 1, 0, 1, 1], [7, 6, 3, 0, 2]), (z10u, [7, 6, 3, 0, 2]), (z10t, [7, 6, 3, 0, 2]), ([1, 0, 1, 1], [3, 2]), ([0, 1, 1, 1], [2]), ([1, 1, 1, 1], [2])]

def E_45 (N : Nat) : Env := z1s tys glob [(88, zbe N)] [] [] [] false [] []

theorem z1lb (N : Nat) : EnvOk Tryd.prog (E_45 N) := zf mixed zq (FnsOk.cons (zhe N) (FnsOk.nil)) (ItsOk.nil)

def zgd (N : Nat) (s : (List UInt8)) (x2 : (List Int)) (x6 : Int) (set_ : (List Int)) (x7 : Int) (rec : (List Int) -> Int -> Option (List Int)) (k0 : (List Int) -> Option (List Int)) : Option (List Int) :=
 cond (decide (x7 < x6))
 (cond (inR x7 (List.length s))
 ((ze1 N set_ (((UInt8.toNat (List.getD s (Int.toNat x7) (0 : UInt8))) : Nat) : Int)).bind fun y =>
 rec y (IntKind.wrap IntKind.i64 (x7 + (1 : Int))))
 (none))
 (k0 set_)

def zm7 (N : Nat) (s : (List UInt8)) (x2 : (List Int)) (set_ : (List Int)) (x6 : Int) (x7 : Int) (k0 : (List Int) -> Option (List Int)) : Option (List Int) :=
 iter (fun (v : ((List Int) × Int)) r => zgd N s x2 x6 v.1 v.2 (fun set_ x7 => (r (set_, x7))) k0) N (set_, x7)

def z1ix (N : Nat) (i : ((List UInt8) × (List Int) × Int)) (v : ((List Int) × Int)) (r : ((List Int) × Int) -> Option (List Int)) (K : Ex -> List A -> Option (List Int)) : Option (List Int) :=
 zgd N i.1 i.2.1 i.2.2 v.1 v.2 (fun set_ x7 => (r (set_, x7))) (fun a1 => (K (.exit 0) (mkS [(2, .box (.arr 4 (.int .u64))), (0, .box (.arr 4 (.int .u64)))] 13 (i.2.1, a1, ()))))

def z1fm (N : Nat) : Hd (List Int) := fun st K => (unS SQ53 9 (restr [7, 6, 3, 0, 2] 0 st)).bind fun x => iter (fun v r => z1ix N ((fun x => (x.1, x.2.1, x.2.2.2.1)) x) v r K) N ((fun x => (x.2.2.1, x.2.2.2.2.1)) x)

def t1_45 (N : Nat) : Tab (List Int) := []

theorem z1bv {N : Nat} {c : Ctx} (hb : Base Tryd.prog (E_45 N) c) : zh Tryd.prog c (ze zuu [0, 1, 0, 1, 1]) (z1fm N) :=
  z1w (s := SQ53) (m := 9) (z1ix N) [7, 6, 3, 0, 2] N (fun x => (x.1, x.2.1, x.2.2.2.1)) (fun x => (x.2.2.1, x.2.2.2.2.1)) (fun i v => (i.1, i.2.1, v.1, i.2.2, v.2, ())) (fun _ => rfl) (zd hb N (t1_45 N) L_45 zuu TabOk.nil [0, 0, 1, 0, 1, 1] _ rfl) (fun i v r K => by kernel_rfl)

def zcf (N : Nat) (s : (List UInt8)) : Option (List Int) :=
 zm7 N s ([(0 : Int), (0 : Int), (0 : Int), (0 : Int)] : List Int) ([(0 : Int), (0 : Int), (0 : Int), (0 : Int)] : List Int) (((List.length s) : Nat) : Int) (0 : Int)
 (fun set_ => some set_)

def t_45 (N : Nat) : Tab (List Int) := [([0, 1, 0, 1, 1], z1fm N)]

theorem z15r (N : Nat) (x : zz [(0, .v .str)]) : z6k (E_45 N) N (t_45 N) L_45 Tryd.f93 (mkS [(0, .v .str)] 0 x) (z4b (.v (.arr 4 (.int .u64))) 1) = zcf N x.1 := by kernel_rfl

def zam (N : Nat) : List A -> Res := zu [(0, .v .str)] (fun x => zcf N x.1) (z75 (.v (.arr 4 (.int .u64))) 1)

theorem zge (N : Nat) : Contract Tryd.prog glob 93 (zam N) :=
  Contract.of (E := E_45 N) (H := t_45 N) (L := L_45) (N := N) (body := zuu) (K := (z4b (.v (.arr 4 (.int .u64))) 1)) (z1lb N) Tryd.func93 (by kernel_rfl) (by decide) (fun _ hb => (TabOk.cons (z1bv hb) TabOk.nil)) (fun x y h => by rw [z15r]; exact h) (z1b (s := (.v (.arr 4 (.int .u64)))) (m := 1))

def z177 : Code := (Tryd.f96.body).getD .skip

def L_46 : List (List Nat × List Nat) := [([0], [0]), ([0, 1], [2]), ([1, 1], [2])]

def E_46 (N : Nat) : Env := z1s tys glob [] [] [] [] false [] []

theorem z1la (N : Nat) : EnvOk Tryd.prog (E_46 N) := zf mixed zq (FnsOk.nil) (ItsOk.nil)

def z6x (N : Nat) (b : Int) : Option Bool :=
 cond (decide ((48 : Int) <= b))
 (some (decide (b <= (57 : Int))))
 (some false)

def t_46 (N : Nat) : Tab Bool := []

theorem z15q (N : Nat) (x : zz [(0, .v (.int .u8))]) : z6k (E_46 N) N (t_46 N) L_46 Tryd.f96 (mkS [(0, .v (.int .u8))] 0 x) (z4b (.v .bool) 1) = z6x N x.1 := by kernel_rfl

def z6w (N : Nat) : List A -> Res := zu [(0, .v (.int .u8))] (fun x => z6x N x.1) (z75 (.v .bool) 1)

theorem zaq (N : Nat) : Contract Tryd.prog glob 96 (z6w N) :=
  Contract.of (E := E_46 N) (H := t_46 N) (L := L_46) (N := N) (body := z177) (K := (z4b (.v .bool) 1)) (z1la N) Tryd.func96 (by kernel_rfl) (by decide) (fun _ hb => TabOk.nil) (fun x y h => by rw [z15q]; exact h) (z1b (s := (.v .bool)) (m := 1))

def zoc : Code := (Tryd.f94.body).getD .skip

def L_47 : List (List Nat × List Nat) := [([0], [0, 1]), ([0, 1], [0, 5, 1]), ([0, 1, 1], [5, 0, 1]), ([0, 0, 1, 1, 1], [16, 5, 0, 1]), ([1, 0, 1, 1, 1], [5, 0, 1]), (zxx, [4, 0]), (z13d, [4, 0]), ([0, 0, 1, 1, 1, 1], [24, 0, 1, 5]), ([1, 0, 1, 1, 1, 1], [5, 0]), (z12c, [5, 0]), ([0, 1, 1, 1, 1, 1], [4, 0]), ([1, 1, 1, 1, 1, 1], [4, 0])]

def z1mh (N : Nat) : Env := z1s tys glob [(96, z6w N), (92, z12 N)] [] [] [0] false [] []

theorem z1l9 (N : Nat) : EnvOk Tryd.prog (z1mh N) := zf mixed zq (FnsOk.cons (zaq N) (FnsOk.cons (z1c N) (FnsOk.nil))) (ItsOk.nil)

def zd0 (N : Nat) (p : DT4) (from_ : Int) (b : Int) (k0 : Bool -> Option (Int × (DT4 × Unit))) : Option (Int × (DT4 × Unit)) :=
 cond (decide (b < (97 : Int)))
 (k0 true)
 (k0 (decide ((102 : Int) < b)))

def z1hl (N : Nat) (x : zz zy4) (K : Ex -> List A -> Option (Int × (DT4 × Unit))) : Option (Int × (DT4 × Unit)) :=
 zd0 N x.1 x.2.1 x.2.2.1 (fun a3 => (K .normal (mkS [(0, .box TT2), (0, .v (.int .i64)), (3, .v (.int .u8)), (18, .v .bool)] 6 (x.1, x.2.1, x.2.2.1, a3, ()))))

def z1ea (N : Nat) : Hd (Int × (DT4 × Unit)) := fun st K => (unS zy4 25 (restr [5, 0, 1] 0 st)).bind fun x => z1hl N x K

def t2_47 (N : Nat) : Tab (Int × (DT4 × Unit)) := []

theorem z1aj {N : Nat} {c : Ctx} (hb : Base Tryd.prog (z1mh N) c) : zh Tryd.prog c (ze zoc [0, 0, 1, 1, 1, 1]) (z1ea N) :=
  zi (s := zy4) (m := 25) (g := z1hl N) [5, 0, 1] (zd hb N (t2_47 N) L_47 zoc TabOk.nil [0, 0, 1, 1, 1, 1] _ rfl) (fun x K => by kernel_rfl)

def zd1 (N : Nat) (p : DT4) (from_ : Int) (b : Int) (k0 : Option (Int × (DT4 × Unit))) : Option (Int × (DT4 × Unit)) :=
 zd0 N p from_ b
 (fun x24 => cond x24
 (none)
 (k0))

def z1iw (N : Nat) (x : zz zy4) (K : Ex -> List A -> Option (Int × (DT4 × Unit))) : Option (Int × (DT4 × Unit)) :=
 zd1 N x.1 x.2.1 x.2.2.1 (K .normal (mkS [(0, .box TT2), (4, .v (.int .u8))] 25 (x.1, x.2.2.1, ())))

def z1fl (N : Nat) : Hd (Int × (DT4 × Unit)) := fun st K => (unS zy4 25 (restr [5, 0, 1] 0 st)).bind fun x => z1iw N x K

def t1_47 (N : Nat) : Tab (Int × (DT4 × Unit)) := [([0, 0, 1, 1, 1, 1], z1ea N)]

theorem z1bu {N : Nat} {c : Ctx} (hb : Base Tryd.prog (z1mh N) c) : zh Tryd.prog c (ze zoc [0, 1, 1, 1, 1]) (z1fl N) :=
  zi (s := zy4) (m := 25) (g := z1iw N) [5, 0, 1] (zd hb N (t1_47 N) L_47 zoc (TabOk.cons (z1aj hb) TabOk.nil) [0, 1, 1, 1, 1] _ rfl) (fun x K => by kernel_rfl)

def z4f (N : Nat) (p : DT4) (from_ : Int) : Option (Int × (DT4 × Unit)) :=
 (z1f N p).bind fun y =>
 (z6x N y.1).bind fun y1 =>
 cond y1
 (some ((IntKind.wrap IntKind.u8 (y.1 - (48 : Int))), ((y.2.1.1, ((IntKind.wrap IntKind.i64 (y.2.1.2.1 + (1 : Int))), y.2.1.2.2)), ())))
 (zd1 N (y.2.1.1, ((IntKind.wrap IntKind.i64 (y.2.1.2.1 + (1 : Int))), y.2.1.2.2)) from_ y.1
 (some ((IntKind.wrap IntKind.u8 ((IntKind.wrap IntKind.u8 (y.1 - (97 : Int))) + (10 : Int))), ((y.2.1.1, ((IntKind.wrap IntKind.i64 (y.2.1.2.1 + (1 : Int))), y.2.1.2.2)), ()))))

def t_47 (N : Nat) : Tab (Int × (DT4 × Unit)) := [([0, 1, 1, 1, 1], z1fl N)]

theorem z15p (N : Nat) (x : zz z185) : z6k (z1mh N) N (t_47 N) L_47 Tryd.f94 (mkS z185 0 x) (z4z (.v (.int .u8)) [(0, .box TT2)] 1) = z4f N x.1 x.2.1 := by kernel_rfl

end
end Go.Proofs.YtmeecjkimeiogaaDoorLg
