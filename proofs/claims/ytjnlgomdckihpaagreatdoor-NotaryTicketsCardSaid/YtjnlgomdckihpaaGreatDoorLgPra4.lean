/- The plain functions that the law reaches, what their calls do, and what they give (own work, in one text). -/
import Derived.Test.YtjnlgomdckihpaaGreatDoorLgPra1
import Derived.Test.YtjnlgomdckihpaaGreatDoorLgPra2
import Derived.Test.YtjnlgomdckihpaaGreatDoorLgPra3
import Derived.WalkKit
import Derived.Tactics
import Derived.Tactics2
import Derived.Defers
import Derived.Lib.Hide
import Derived.Below
import Derived.Recover
import Derived.Orders
import Derived.WalkSmall
import Derived.LoopN
import Derived.Deep.RegionHeld3
import Derived.Laws.IdiomStrings
import Derived.Test.YtjnlgomdckihpaaGreatDoorLgW
import Derived.Test.YtjnlgomdckihpaaGreatDoorChecked
import Derived.KernelRfl
/- The functions of the seat, as plain functions, and what their calls do. Printed by a program of mine; checked here. -/
set_option linter.all false
set_option maxRecDepth 100000
namespace Go.Proofs.YtjnlgomdckihpaaGreatDoorLg
open Go Go.Lift

abbrev DT0 : Type := ((List UInt8) × ((List ((List UInt8) × ((List UInt8) × Unit))) × ((List UInt8) × Unit)))

abbrev TT1 : T := (.pair .str (.pair (.sl (.pair .str (.pair .str .unit))) (.pair .str .unit)))

abbrev TT2 : T := (.pair .bool (.pair (.arr 8 (.int .u32)) (.pair .str (.pair (.int .i64) .unit))))

abbrev DT3 : Type := (Bool × ((List Int) × ((List UInt8) × (Int × Unit))))

abbrev DT4 : Type := ((List UInt8) × Unit)

abbrev DT5 : Type := ((List UInt8) × (List UInt8) × Int × Unit)

abbrev DT6 : Type := ((List (List UInt8)) × Bool × Unit)

abbrev TT7 : T := (.pair .str (.pair .str .unit))

abbrev TT8 : T := (.pair (.self 63) (.pair (.own (.byt 5)) .unit))

abbrev DT9 : Type := ((List UInt8) × (DT3 × Unit))

abbrev DT10 : Type := (Unit × ((List Int) × Unit))

abbrev TT11 : T := (.pair (.ptr .str) (.pair (.ptr (.sl TT7)) (.pair (.ptr (.fn 28 .unit)) .unit)))

noncomputable def ty3 : TyI := ⟨(Go.TypeDesc.int IntKind.i64), 1, 8, (.int .i64), (0 : Int), false⟩

theorem ty3_ok : TyOk Tryz.prog 3 ty3 := TyOk.of (by kernel_rfl) (by kernel_rfl) (by kernel_rfl) (by kernel_rfl)

noncomputable def ty4 : TyI := ⟨Go.TypeDesc.bool, 1, 1, .bool, false, false⟩

theorem ty4_ok : TyOk Tryz.prog 4 ty4 := TyOk.of (by kernel_rfl) (by kernel_rfl) (by kernel_rfl) (by kernel_rfl)

noncomputable def ty5 : TyI := ⟨(Go.TypeDesc.int IntKind.u8), 1, 1, (.int .u8), (0 : Int), false⟩

theorem ty5_ok : TyOk Tryz.prog 5 ty5 := TyOk.of (by kernel_rfl) (by kernel_rfl) (by kernel_rfl) (by kernel_rfl)

noncomputable def ty9 : TyI := ⟨Go.TypeDesc.string, 1, 16, .str, ([] : List UInt8), false⟩

theorem ty9_ok : TyOk Tryz.prog 9 ty9 := TyOk.of (by kernel_rfl) (by kernel_rfl) (by kernel_rfl) (by kernel_rfl)

noncomputable def ty22 : TyI := ⟨(Go.TypeDesc.array 4 9), 4, 64, (.arr 4 .str), ([([] : List UInt8), ([] : List UInt8), ([] : List UInt8), ([] : List UInt8)] : List (List UInt8)), true⟩

theorem ty22_ok : TyOk Tryz.prog 22 ty22 := TyOk.of (by kernel_rfl) (by kernel_rfl) (by kernel_rfl) (by kernel_rfl)

noncomputable def ty23 : TyI := ⟨(Go.TypeDesc.slice 9), 1, 24, (.sl .str), ([] : List (List UInt8)), false⟩

theorem ty23_ok : TyOk Tryz.prog 23 ty23 := TyOk.of (by kernel_rfl) (by kernel_rfl) (by kernel_rfl) (by kernel_rfl)

noncomputable def ty26 : TyI := ⟨(Go.TypeDesc.int IntKind.i64), 1, 8, (.int .i64), (0 : Int), false⟩

theorem ty26_ok : TyOk Tryz.prog 26 ty26 := TyOk.of (by kernel_rfl) (by kernel_rfl) (by kernel_rfl) (by kernel_rfl)

noncomputable def ty31 : TyI := ⟨(Go.TypeDesc.slice 51), 1, 24, (.sl TT7), ([] : List ((List UInt8) × DT4)), false⟩

theorem ty31_ok : TyOk Tryz.prog 31 ty31 := TyOk.of (by kernel_rfl) (by kernel_rfl) (by kernel_rfl) (by kernel_rfl)

noncomputable def ty33 : TyI := ⟨(Go.TypeDesc.struct (List.toArray ([(Go.Field.mk "ID" 9 0 false "" "" 0), (Go.Field.mk "Links" 31 1 false "" "" 16), (Go.Field.mk "Tag" 9 2 false "" "" 40)] : List Go.Field))), 3, 56, TT1, (([] : List UInt8), ([] : List ((List UInt8) × DT4)), ([] : List UInt8), ()), true⟩

theorem ty33_ok : TyOk Tryz.prog 33 ty33 := TyOk.of (by kernel_rfl) (by kernel_rfl) (by kernel_rfl) (by kernel_rfl)

noncomputable def ty51 : TyI := ⟨(Go.TypeDesc.struct (List.toArray ([(Go.Field.mk "Text" 9 0 false "" "" 0), (Go.Field.mk "Seal" 9 1 false "" "" 16)] : List Go.Field))), 2, 32, TT7, (([] : List UInt8), ([] : List UInt8), ()), true⟩

theorem ty51_ok : TyOk Tryz.prog 51 ty51 := TyOk.of (by kernel_rfl) (by kernel_rfl) (by kernel_rfl) (by kernel_rfl)

noncomputable def ty53 : TyI := ⟨(Go.TypeDesc.func (List.toArray ([82] : List Nat)) (List.toArray ([] : List Nat)) false), 1, 8, .opq, Go.Value.nilFunc, false⟩

theorem ty53_ok : TyOk Tryz.prog 53 ty53 := TyOk.of (by kernel_rfl) (by kernel_rfl) (by kernel_rfl) (by kernel_rfl)

noncomputable def ty55 : TyI := ⟨Go.TypeDesc.string, 1, 16, .str, ([] : List UInt8), false⟩

theorem ty55_ok : TyOk Tryz.prog 55 ty55 := TyOk.of (by kernel_rfl) (by kernel_rfl) (by kernel_rfl) (by kernel_rfl)

noncomputable def ty56 : TyI := ⟨(Go.TypeDesc.func (List.toArray ([55, 51] : List Nat)) (List.toArray ([55] : List Nat)) false), 1, 8, .opq, Go.Value.nilFunc, false⟩

theorem ty56_ok : TyOk Tryz.prog 56 ty56 := TyOk.of (by kernel_rfl) (by kernel_rfl) (by kernel_rfl) (by kernel_rfl)

noncomputable def ty60 : TyI := ⟨(Go.TypeDesc.pointer 63), 1, 8, .opq, (Go.Value.pointer none), false⟩

theorem ty60_ok : TyOk Tryz.prog 60 ty60 := TyOk.of (by kernel_rfl) (by kernel_rfl) (by kernel_rfl) (by kernel_rfl)

noncomputable def ty61 : TyI := ⟨(Go.TypeDesc.slice 5), 1, 24, (.sl (.int .u8)), ([] : List Int), false⟩

theorem ty61_ok : TyOk Tryz.prog 61 ty61 := TyOk.of (by kernel_rfl) (by kernel_rfl) (by kernel_rfl) (by kernel_rfl)

noncomputable def ty63 : TyI := ⟨(Go.TypeDesc.struct (List.toArray ([(Go.Field.mk "addr" 60 0 false "" "strings" 0), (Go.Field.mk "buf" 61 1 false "" "strings" 8)] : List Go.Field))), 2, 32, (.pair .opq (.pair (.sl (.int .u8)) .unit)), ((Go.Value.pointer none), ([] : List Int), ()), true⟩

theorem ty63_ok : TyOk Tryz.prog 63 ty63 := TyOk.of (by kernel_rfl) (by kernel_rfl) (by kernel_rfl) (by kernel_rfl)

noncomputable def ty65 : TyI := ⟨(Go.TypeDesc.func (List.toArray ([84] : List Nat)) (List.toArray ([] : List Nat)) false), 1, 8, .opq, Go.Value.nilFunc, false⟩

theorem ty65_ok : TyOk Tryz.prog 65 ty65 := TyOk.of (by kernel_rfl) (by kernel_rfl) (by kernel_rfl) (by kernel_rfl)

noncomputable def ty68 : TyI := ⟨(Go.TypeDesc.interface (List.toArray ([("Error", 71)] : List (String × Nat)))), 1, 16, .opq, Go.Value.nilIface, false⟩

theorem ty68_ok : TyOk Tryz.prog 68 ty68 := TyOk.of (by kernel_rfl) (by kernel_rfl) (by kernel_rfl) (by kernel_rfl)

noncomputable def ty75 : TyI := ⟨(Go.TypeDesc.func (List.toArray ([88] : List Nat)) (List.toArray ([] : List Nat)) false), 1, 8, .opq, Go.Value.nilFunc, false⟩

theorem ty75_ok : TyOk Tryz.prog 75 ty75 := TyOk.of (by kernel_rfl) (by kernel_rfl) (by kernel_rfl) (by kernel_rfl)

noncomputable def ty79 : TyI := ⟨(Go.TypeDesc.struct (List.toArray ([(Go.Field.mk "Link" 51 0 true "" "" 0), (Go.Field.mk "to" 33 2 false "" "porter/holder" 32)] : List Go.Field))), 5, 88, (.pair TT7 (.pair TT1 .unit)), ((([] : List UInt8), ([] : List UInt8), ()), (([] : List UInt8), ([] : List ((List UInt8) × DT4)), ([] : List UInt8), ()), ()), true⟩

theorem ty79_ok : TyOk Tryz.prog 79 ty79 := TyOk.of (by kernel_rfl) (by kernel_rfl) (by kernel_rfl) (by kernel_rfl)

noncomputable def ty82 : TyI := ⟨(Go.TypeDesc.func (List.toArray ([55] : List Nat)) (List.toArray ([4] : List Nat)) false), 1, 8, .opq, Go.Value.nilFunc, false⟩

theorem ty82_ok : TyOk Tryz.prog 82 ty82 := TyOk.of (by kernel_rfl) (by kernel_rfl) (by kernel_rfl) (by kernel_rfl)

noncomputable def ty84 : TyI := ⟨(Go.TypeDesc.func (List.toArray ([9] : List Nat)) (List.toArray ([4] : List Nat)) false), 1, 8, .opq, Go.Value.nilFunc, false⟩

theorem ty84_ok : TyOk Tryz.prog 84 ty84 := TyOk.of (by kernel_rfl) (by kernel_rfl) (by kernel_rfl) (by kernel_rfl)

noncomputable def ty88 : TyI := ⟨(Go.TypeDesc.func (List.toArray ([9, 4] : List Nat)) (List.toArray ([4] : List Nat)) false), 1, 8, .opq, Go.Value.nilFunc, false⟩

theorem ty88_ok : TyOk Tryz.prog 88 ty88 := TyOk.of (by kernel_rfl) (by kernel_rfl) (by kernel_rfl) (by kernel_rfl)

noncomputable def ty96 : TyI := ⟨(Go.TypeDesc.int IntKind.u64), 1, 8, (.int .u64), (0 : Int), false⟩

theorem ty96_ok : TyOk Tryz.prog 96 ty96 := TyOk.of (by kernel_rfl) (by kernel_rfl) (by kernel_rfl) (by kernel_rfl)

noncomputable def ty99 : TyI := ⟨(Go.TypeDesc.slice 101), 1, 24, (.sl (.int .u32)), ([] : List Int), false⟩

theorem ty99_ok : TyOk Tryz.prog 99 ty99 := TyOk.of (by kernel_rfl) (by kernel_rfl) (by kernel_rfl) (by kernel_rfl)

noncomputable def ty101 : TyI := ⟨(Go.TypeDesc.int IntKind.u32), 1, 4, (.int .u32), (0 : Int), false⟩

theorem ty101_ok : TyOk Tryz.prog 101 ty101 := TyOk.of (by kernel_rfl) (by kernel_rfl) (by kernel_rfl) (by kernel_rfl)

noncomputable def ty102 : TyI := ⟨(Go.TypeDesc.array 8 101), 8, 32, (.arr 8 (.int .u32)), ([(0 : Int), (0 : Int), (0 : Int), (0 : Int), (0 : Int), (0 : Int), (0 : Int), (0 : Int)] : List Int), true⟩

theorem ty102_ok : TyOk Tryz.prog 102 ty102 := TyOk.of (by kernel_rfl) (by kernel_rfl) (by kernel_rfl) (by kernel_rfl)

noncomputable def ty106 : TyI := ⟨(Go.TypeDesc.int IntKind.u64), 1, 8, (.int .u64), (0 : Int), false⟩

theorem ty106_ok : TyOk Tryz.prog 106 ty106 := TyOk.of (by kernel_rfl) (by kernel_rfl) (by kernel_rfl) (by kernel_rfl)

noncomputable def ty108 : TyI := ⟨(Go.TypeDesc.pointer 115), 1, 8, .opq, (Go.Value.pointer none), false⟩

theorem ty108_ok : TyOk Tryz.prog 108 ty108 := TyOk.of (by kernel_rfl) (by kernel_rfl) (by kernel_rfl) (by kernel_rfl)

noncomputable def ty112 : TyI := ⟨(Go.TypeDesc.array 8 101), 8, 32, (.arr 8 (.int .u32)), ([(0 : Int), (0 : Int), (0 : Int), (0 : Int), (0 : Int), (0 : Int), (0 : Int), (0 : Int)] : List Int), true⟩

theorem ty112_ok : TyOk Tryz.prog 112 ty112 := TyOk.of (by kernel_rfl) (by kernel_rfl) (by kernel_rfl) (by kernel_rfl)

noncomputable def ty115 : TyI := ⟨(Go.TypeDesc.struct (List.toArray ([(Go.Field.mk "made" 4 0 false "" "porter/sha" 0), (Go.Field.mk "words" 112 1 false "" "porter/sha" 4), (Go.Field.mk "rest" 9 9 false "" "porter/sha" 40), (Go.Field.mk "long" 3 10 false "" "porter/sha" 56)] : List Go.Field))), 11, 64, TT2, (false, ([(0 : Int), (0 : Int), (0 : Int), (0 : Int), (0 : Int), (0 : Int), (0 : Int), (0 : Int)] : List Int), ([] : List UInt8), (0 : Int), ()), true⟩

theorem ty115_ok : TyOk Tryz.prog 115 ty115 := TyOk.of (by kernel_rfl) (by kernel_rfl) (by kernel_rfl) (by kernel_rfl)

noncomputable def ty127 : TyI := ⟨(Go.TypeDesc.array 64 101), 64, 256, (.arr 64 (.int .u32)), ((0 : Int) :: (0 : Int) :: (0 : Int) :: (0 : Int) :: (0 : Int) :: (0 : Int) :: (0 : Int) :: (0 : Int) :: (0 : Int) :: (0 : Int) :: (0 : Int) :: (0 : Int) :: (0 : Int) :: (0 : Int) :: (0 : Int) :: (0 : Int) :: (0 : Int) :: (0 : Int) :: (0 : Int) :: (0 : Int) :: (0 : Int) :: (0 : Int) :: (0 : Int) :: (0 : Int) :: (0 : Int) :: (0 : Int) :: (0 : Int) :: (0 : Int) :: (0 : Int) :: (0 : Int) :: (0 : Int) :: (0 : Int) :: (0 : Int) :: (0 : Int) :: (0 : Int) :: (0 : Int) :: (0 : Int) :: (0 : Int) :: (0 : Int) :: (0 : Int) :: (0 : Int) :: (0 : Int) :: (0 : Int) :: (0 : Int) :: (0 : Int) :: (0 : Int) :: (0 : Int) :: (0 : Int) :: (0 : Int) :: (0 : Int) :: (0 : Int) :: (0 : Int) :: (0 : Int) :: (0 : Int) :: (0 : Int) :: (0 : Int) :: (0 : Int) :: (0 : Int) :: (0 : Int) :: (0 : Int) :: (0 : Int) :: (0 : Int) :: (0 : Int) :: (0 : Int) :: ([] : List Int)), true⟩

theorem ty127_ok : TyOk Tryz.prog 127 ty127 := TyOk.of (by kernel_rfl) (by kernel_rfl) (by kernel_rfl) (by kernel_rfl)

noncomputable def tys : List (Nat × TyI) := [(3, ty3), (4, ty4), (5, ty5), (9, ty9), (22, ty22), (23, ty23), (26, ty26), (31, ty31), (33, ty33), (51, ty51), (53, ty53), (55, ty55), (56, ty56), (60, ty60), (61, ty61), (63, ty63), (65, ty65), (68, ty68), (75, ty75), (79, ty79), (82, ty82), (84, ty84), (88, ty88), (96, ty96), (99, ty99), (101, ty101), (102, ty102), (106, ty106), (108, ty108), (112, ty112), (115, ty115), (127, ty127)]

theorem tys_ok : TysOk Tryz.prog tys := TysOk.cons ty3_ok (TysOk.cons ty4_ok (TysOk.cons ty5_ok (TysOk.cons ty9_ok (TysOk.cons ty22_ok (TysOk.cons ty23_ok (TysOk.cons ty26_ok (TysOk.cons ty31_ok (TysOk.cons ty33_ok (TysOk.cons ty51_ok (TysOk.cons ty53_ok (TysOk.cons ty55_ok (TysOk.cons ty56_ok (TysOk.cons ty60_ok (TysOk.cons ty61_ok (TysOk.cons ty63_ok (TysOk.cons ty65_ok (TysOk.cons ty68_ok (TysOk.cons ty75_ok (TysOk.cons ty79_ok (TysOk.cons ty82_ok (TysOk.cons ty84_ok (TysOk.cons ty88_ok (TysOk.cons ty96_ok (TysOk.cons ty99_ok (TysOk.cons ty101_ok (TysOk.cons ty102_ok (TysOk.cons ty106_ok (TysOk.cons ty108_ok (TysOk.cons ty112_ok (TysOk.cons ty115_ok (TysOk.cons ty127_ok (TysOk.nil))))))))))))))))))))))))))))))))

theorem mixed : Tryz.prog.follows .mixedOrders = true := by kernel_rfl

noncomputable def glob0 : List Int := [1116352408, 1899447441, 3049323471, 3921009573, 961987163, 1508970993, 2453635748, 2870763221, 3624381080, 310598401, 607225278, 1426881987, 1925078388, 2162078206, 2614888103, 3248222580, 3835390401, 4022224774, 264347078, 604807628, 770255983, 1249150122, 1555081692, 1996064986, 2554220882, 2821834349, 2952996808, 3210313671, 3336571891, 3584528711, 113926993, 338241895, 666307205, 773529912, 1294757372, 1396182291, 1695183700, 1986661051, 2177026350, 2456956037, 2730485921, 2820302411, 3259730800, 3345764771, 3516065817, 3600352804, 4094571909, 275423344, 430227734, 506948616, 659060556, 883997877, 958139571, 1322822218, 1537002063, 1747873779, 1955562222, 2024104815, 2227730452, 2361852424, 2428436474, 2756734187, 3204031479, 3329325298]

noncomputable def glob : Nat → Option Dat := lk [(0, ⟨(.arr 64 (.int .u32)), glob0⟩)]

noncomputable def body_0 : Code := (Tryz.f4.body).getD .skip

noncomputable def L_0 : List (List Nat × List Nat) := [([0], [0, 1, 2]), ([0, 0, 1], [12, 2, 0]), ([1, 0, 1], [2, 0]), ([0, 0, 1, 0, 1], [6]), ([1, 0, 1, 0, 1], [6]), ([0, 1, 1], [0, 7]), ([0, 0, 1, 1, 1], [8, 0, 7]), ([0, 1, 0, 1, 1, 1], [8, 0, 7]), ([0, 0, 0, 0, 1, 0, 1, 1, 1], [17, 0, 8, 7]), ([1, 0, 0, 0, 1, 0, 1, 1, 1], [0, 8, 7]), ([1, 1, 0, 0, 0, 1, 0, 1, 1, 1], []), ([0, 0, 0, 0, 1, 0, 0, 1, 0, 1, 1, 1], [26, 7, 0, 8]), ([1, 0, 0, 0, 1, 0, 0, 1, 0, 1, 1, 1], [7, 0, 8]), ([0, 0, 1, 0, 0, 0, 1, 0, 0, 1, 0, 1, 1, 1], [6]), ([1, 0, 1, 0, 0, 0, 1, 0, 0, 1, 0, 1, 1, 1], [6]), ([1, 0, 0, 1, 0, 0, 1, 0, 1, 1, 1], [8, 0, 7]), ([0, 1, 0, 0, 1, 0, 1, 1, 1], [8, 0, 7]), ([1, 1, 0, 0, 1, 0, 1, 1, 1], [8, 0, 7]), ([1, 0, 1, 1, 1], []), ([0, 1, 1, 1, 1], [6]), ([1, 1, 1, 1, 1], [6])]

noncomputable def E_0 (N : Nat) : Env := mkEnv tys glob [] [] [] [] false [] []

theorem Eok_0 (N : Nat) : EnvOk Tryz.prog (E_0 N) := mkEnv_ok mixed tys_ok (FnsOk.nil) (ItsOk.nil)

noncomputable def porterbase_Short_s1 (N : Nat) (l : (List (List UInt8))) (left : Int) (i : Int) (rec : Int → Int → Option Bool) (k0 : Bool → Option Bool) (k1 : Option Bool) : Option Bool :=
  cond (decide (i < (((List.length l) : Nat) : Int)))
  (cond (inR i (List.length l))
    (cond (decide (left < (((List.length (List.getD l (Int.toNat i) ([] : List UInt8))) : Nat) : Int)))
      (k0 false)
      (cond (inR i (List.length l))
        (rec (IntKind.wrap IntKind.i64 (left - (((List.length (List.getD l (Int.toNat i) ([] : List UInt8))) : Nat) : Int))) (IntKind.wrap IntKind.i64 (i + (1 : Int))))
        (none)))
    (none))
  (k1)

noncomputable def porterbase_Short_p1 (N : Nat) (l : (List (List UInt8))) (left : Int) (i : Int) (k0 : Bool → Option Bool) (k1 : Option Bool) : Option Bool :=
  iter (fun (v : (Int × Int)) r => porterbase_Short_s1 N l v.1 v.2 (fun left i => (r (left, i))) k0 k1) N (left, i)

noncomputable def g1_0 (N : Nat) (i : (List (List UInt8))) (v : (Int × Int)) (r : (Int × Int) → Option Bool) (K : Ex → List A → Option Bool) : Option Bool :=
  porterbase_Short_s1 N i v.1 v.2 (fun left i => (r (left, i))) (fun a0 => (K .ret (mkS [(6, .v .bool)] 27 (a0, ())))) (K (.exit 0) (mkS [] 34 ()))

noncomputable def h1_0 (N : Nat) : Hd Bool := fun st K => (unS [(0, .v (.sl .str)), (6, .v (.int .i64)), (0, .v (.int .i64))] 25 (restr [8, 0, 7] 0 st)).bind fun x => iter (fun v r => g1_0 N ((fun x => x.1) x) v r K) N ((fun x => (x.2.1, x.2.2.1)) x)

noncomputable def t1_0 (N : Nat) : Tab Bool := []

theorem ok1_0 {N : Nat} {c : Ctx} (hb : Base Tryz.prog (E_0 N) c) : CodeOk Tryz.prog c (nodeAt body_0 [0, 1, 0, 1, 1, 1]) (h1_0 N) :=
  loop_ok (s := [(0, .v (.sl .str)), (6, .v (.int .i64)), (0, .v (.int .i64))]) (m := 25) (g1_0 N) [8, 0, 7] N (fun x => x.1) (fun x => (x.2.1, x.2.2.1)) (fun i v => (i, v.1, v.2, ())) (fun _ => rfl) (evN_sound hb N (t1_0 N) L_0 body_0 TabOk.nil [0, 0, 1, 0, 1, 1, 1] _ rfl) (fun i v r K => by kernel_rfl)

noncomputable def porterbase_Short (N : Nat) (l : (List (List UInt8))) (many : Int) (most : Int) : Option Bool :=
  cond (decide (many < (((List.length l) : Nat) : Int)))
  (some false)
  (porterbase_Short_p1 N l most (0 : Int)
    (fun x6 => some x6)
    (some true))

noncomputable def t_0 (N : Nat) : Tab Bool := [([0, 1, 0, 1, 1, 1], h1_0 N)]

theorem link_0 (N : Nat) (x : denS [(0, .v (.sl .str)), (0, .v (.int .i64)), (0, .v (.int .i64))]) : evFX (E_0 N) N (t_0 N) L_0 Tryz.f4 (mkS [(0, .v (.sl .str)), (0, .v (.int .i64)), (0, .v (.int .i64))] 0 x) (kRes (.v .bool) 3) = porterbase_Short N x.1 x.2.1 x.2.2.1 := by kernel_rfl

noncomputable def porterbase_Short_res (N : Nat) : List A → Res := resOf [(0, .v (.sl .str)), (0, .v (.int .i64)), (0, .v (.int .i64))] (fun x => porterbase_Short N x.1 x.2.1 x.2.2.1) (oRes (.v .bool) 3)

theorem porterbase_Short_ct (N : Nat) : Contract Tryz.prog glob 4 (porterbase_Short_res N) :=
  Contract.of (E := E_0 N) (H := t_0 N) (L := L_0) (N := N) (body := body_0) (K := (kRes (.v .bool) 3)) (Eok_0 N) Tryz.func4 (by kernel_rfl) (by decide) (fun _ hb => (TabOk.cons (ok1_0 hb) TabOk.nil)) (fun x y h => by rw [link_0]; exact h) (kRes_ok (s := (.v .bool)) (m := 3))

noncomputable def body_1 : Code := (Tryz.f51.body).getD .skip

noncomputable def L_1 : List (List Nat × List Nat) := [([0], [0]), ([0, 1], [3, 0]), ([0, 0, 1, 1], [6, 3, 0]), ([0, 1, 0, 1, 1], [6, 3, 0]), ([0, 0, 0, 1, 0, 1, 1], [7, 6, 3, 0]), ([0, 1, 0, 0, 1, 0, 1, 1], [6, 3, 0]), ([1, 0, 1, 0, 0, 1, 0, 1, 1], [3]), ([0, 0, 0, 1, 1, 0, 0, 1, 0, 1, 1], [3, 4, 0, 6]), ([1, 0, 0, 1, 1, 0, 0, 1, 0, 1, 1], [6, 3, 0]), ([0, 1, 1, 0, 0, 1, 0, 1, 1], [6, 3, 0]), ([1, 1, 1, 0, 0, 1, 0, 1, 1], [6, 3, 0]), ([1, 0, 1, 1], [3]), ([0, 1, 1, 1], [2]), ([1, 1, 1, 1], [2])]

noncomputable def E_1 (N : Nat) : Env := mkEnv tys glob [] [(3, (.int .u8))] [] [] false [] []

theorem Eok_1 (N : Nat) : EnvOk Tryz.prog (E_1 N) := mkEnv_ok mixed tys_ok (FnsOk.nil) (ItsOk.nil)

noncomputable def hmac_length_s1 (N : Nat) (s : (List UInt8)) (out : (List Int)) (x6 : Int) (rec : (List Int) → Int → Option (List UInt8)) (k0 : (List Int) → Option (List UInt8)) : Option (List UInt8) :=
  cond (decide (x6 < (8 : Int)))
  (cond (decide ((0 : Int) ≤ (IntKind.wrap IntKind.i64 ((8 : Int) * (IntKind.wrap IntKind.i64 ((7 : Int) - x6))))))
    (cond (inR x6 (List.length out))
      (cond (decide ((Int.toNat x6) < (List.length out)))
        (rec (List.set out (Int.toNat x6) (IntKind.wrap IntKind.u8 (shrI IntKind.u64 (IntKind.wrap IntKind.u64 (((List.length s) : Nat) : Int)) (IntKind.wrap IntKind.i64 ((8 : Int) * (IntKind.wrap IntKind.i64 ((7 : Int) - x6))))))) (IntKind.wrap IntKind.i64 (x6 + (1 : Int))))
        (none))
      (none))
    (none))
  (k0 out)

noncomputable def hmac_length_p1 (N : Nat) (s : (List UInt8)) (out : (List Int)) (x6 : Int) (k0 : (List Int) → Option (List UInt8)) : Option (List UInt8) :=
  iter (fun (v : ((List Int) × Int)) r => hmac_length_s1 N s v.1 v.2 (fun out x6 => (r (out, x6))) k0) N (out, x6)

noncomputable def g1_1 (N : Nat) (i : (List UInt8)) (v : ((List Int) × Int)) (r : ((List Int) × Int) → Option (List UInt8)) (K : Ex → List A → Option (List UInt8)) : Option (List UInt8) :=
  hmac_length_s1 N i v.1 v.2 (fun out x6 => (r (out, x6))) (fun a0 => (K (.exit 0) (mkS [(3, .row (.int .u8))] 19 (a0, ()))))

noncomputable def h1_1 (N : Nat) : Hd (List UInt8) := fun st K => (unS [(0, .v .str), (2, .row (.int .u8)), (2, .v (.int .i64))] 16 (restr [6, 3, 0] 0 st)).bind fun x => iter (fun v r => g1_1 N ((fun x => x.1) x) v r K) N ((fun x => (x.2.1, x.2.2.1)) x)

noncomputable def t1_1 (N : Nat) : Tab (List UInt8) := []

theorem ok1_1 {N : Nat} {c : Ctx} (hb : Base Tryz.prog (E_1 N) c) : CodeOk Tryz.prog c (nodeAt body_1 [0, 1, 0, 1, 1]) (h1_1 N) :=
  loop_ok (s := [(0, .v .str), (2, .row (.int .u8)), (2, .v (.int .i64))]) (m := 16) (g1_1 N) [6, 3, 0] N (fun x => x.1) (fun x => (x.2.1, x.2.2.1)) (fun i v => (i, v.1, v.2, ())) (fun _ => rfl) (evN_sound hb N (t1_1 N) L_1 body_1 TabOk.nil [0, 0, 1, 0, 1, 1] _ rfl) (fun i v r K => by kernel_rfl)

noncomputable def hmac_length (N : Nat) (s : (List UInt8)) : Option (List UInt8) :=
  hmac_length_p1 N s ([(0 : Int), (0 : Int), (0 : Int), (0 : Int), (0 : Int), (0 : Int), (0 : Int), (0 : Int)] : List Int) (0 : Int)
  (fun out => some (toStr out))

noncomputable def t_1 (N : Nat) : Tab (List UInt8) := [([0, 1, 0, 1, 1], h1_1 N)]

theorem link_1 (N : Nat) (x : denS [(0, .v .str)]) : evFX (E_1 N) N (t_1 N) L_1 Tryz.f51 (mkS [(0, .v .str)] 0 x) (kRes (.v .str) 1) = hmac_length N x.1 := by kernel_rfl

noncomputable def hmac_length_res (N : Nat) : List A → Res := resOf [(0, .v .str)] (fun x => hmac_length N x.1) (oRes (.v .str) 1)

theorem hmac_length_ct (N : Nat) : Contract Tryz.prog glob 51 (hmac_length_res N) :=
  Contract.of (E := E_1 N) (H := t_1 N) (L := L_1) (N := N) (body := body_1) (K := (kRes (.v .str) 1)) (Eok_1 N) Tryz.func51 (by kernel_rfl) (by decide) (fun _ hb => (TabOk.cons (ok1_1 hb) TabOk.nil)) (fun x y h => by rw [link_1]; exact h) (kRes_ok (s := (.v .str)) (m := 1))

noncomputable def body_2 : Code := (Tryz.f50.body).getD .skip

noncomputable def L_2 : List (List Nat × List Nat) := [([0], [7, 6, 5, 0]), ([0, 1], [7, 6, 5, 0]), ([0, 0, 0, 1], [8, 5, 7, 0, 6]), ([0, 1, 0, 0, 1], [5, 7, 0, 6]), ([1, 0, 1, 0, 0, 1], [0]), ([0, 0, 0, 1, 1, 0, 0, 1], [0, 4, 7, 6, 5]), ([0, 1, 0, 0, 1, 1, 0, 0, 1], [21, 0, 7, 6, 5]), ([1, 1, 0, 0, 1, 1, 0, 0, 1], [7, 6, 5, 0]), ([0, 1, 1, 0, 0, 1, 1, 0, 0, 1], [0]), ([0, 1, 1, 0, 0, 1], [7, 6, 5, 0]), ([1, 1, 1, 0, 0, 1], [7, 6, 5, 0]), ([1], [0])]

noncomputable def E_2 (N : Nat) : Env := mkEnv tys glob [(51, hmac_length_res N)] [] [] [0] false [] []

theorem Eok_2 (N : Nat) : EnvOk Tryz.prog (E_2 N) := mkEnv_ok mixed tys_ok (FnsOk.cons (hmac_length_ct N) (FnsOk.nil)) ItsOk.nil

noncomputable def hmac_framed1_s1 (N : Nat) (x5 : (List (List UInt8))) (x6 : Int) (x7 : Int) (rec : Int → Option (List DT4)) (k0 : Option (List DT4)) (k1 : Option (List DT4)) : Option (List DT4) :=
  cond (decide (x7 < x6))
  (cond (inR x7 (List.length x5))
    ((hmac_length N (List.getD x5 (Int.toNat x7) ([] : List UInt8))).bind fun y =>
      comb (y, ())
      (comb ((List.getD x5 (Int.toNat x7) ([] : List UInt8)), ())
        (rec (IntKind.wrap IntKind.i64 (x7 + (1 : Int))))
        (k0))
      (k0))
    (none))
  (k1)

noncomputable def hmac_framed1_p1 (N : Nat) (x5 : (List (List UInt8))) (x6 : Int) (x7 : Int) (k0 : Option (List DT4)) (k1 : Option (List DT4)) : Option (List DT4) :=
  iter (fun (v : Int) r => hmac_framed1_s1 N x5 x6 v (fun x7 => (r x7)) k0 k1) N x7

noncomputable def g1_2 (N : Nat) (i : ((List (List UInt8)) × Int)) (v : Int) (r : Int → Option (List DT4)) (K : Ex → List A → Option (List DT4)) : Option (List DT4) :=
  hmac_framed1_s1 N i.1 i.2 v (fun x7 => (r x7)) (K .ret (mkS [(0, .yld)] 22 ((), ()))) (K (.exit 0) (mkS [(0, .yld)] 22 ((), ())))

noncomputable def h1_2 (N : Nat) : Hd (List DT4) := fun st K => (unS [(0, .yld), (4, .v (.sl .str)), (0, .v (.int .i64)), (0, .v (.int .i64))] 15 (restr [7, 6, 5, 0] 0 st)).bind fun x => iter (fun v r => g1_2 N ((fun x => (x.2.1, x.2.2.1)) x) v r K) N ((fun x => x.2.2.2.1) x)

noncomputable def t1_2 (N : Nat) : Tab (List DT4) := []

theorem ok1_2 {N : Nat} {G : GY [.str]} (hG : RestrOk G) (hev : EvOk G Tryz.prog (E_2 N) N L_2 body_2) : YOk G Tryz.prog (nodeAt body_2 [0, 1]) (h1_2 N) :=
  loopY_ok hG (s := [(0, .yld), (4, .v (.sl .str)), (0, .v (.int .i64)), (0, .v (.int .i64))]) (m := 15) (g1_2 N) [7, 6, 5, 0] N (fun x => (x.2.1, x.2.2.1)) (fun x => x.2.2.2.1) (fun i v => ((), i.1, i.2, v, ())) (fun _ => rfl) (hev (t1_2 N) TabOkY.nil [0, 0, 1]) (fun i v r K => by kernel_rfl)

noncomputable def hmac_framed1 (N : Nat) (x1 : (List (List UInt8))) : Option (List DT4) :=
  hmac_framed1_p1 N x1 (((List.length x1) : Nat) : Int) (0 : Int)
  (some ([] : List DT4))
  (some ([] : List DT4))

noncomputable def t_2 (N : Nat) : Tab (List DT4) := [([0, 1], h1_2 N)]

theorem link_2 (N : Nat) (x : T.den (.pair (.ptr (.sl .str)) .unit)) : evYX (E_2 N) [.str] comb N (t_2 N) L_2 Tryz.f50 [.v (.ptr (.sl .str)) x.1] = hmac_framed1 N x.1 := by kernel_rfl

noncomputable def hmac_framed1_itr (N : Nat) : Dat → ItRes := itRes (ts := [.str]) (.pair (.ptr (.sl .str)) .unit) (fun x => hmac_framed1 N x.1)

theorem hmac_framed1_it (N : Nat) : ItOk Tryz.prog glob 50 (hmac_framed1_itr N) := ItOk.of (ts := [.str]) (E := E_2 N) (H := t_2 N) (L := L_2) (N := N) (body := body_2) (Eok_2 N) rfl Tryz.func50 (by kernel_rfl) (by decide) (fun G hG hev => (TabOkY.cons (ok1_2 hG hev) TabOkY.nil)) (fun x y h => ⟨_, rfl, by rw [link_2]; exact h⟩)

noncomputable def body_3 : Code := (Tryz.f32.body).getD .skip

noncomputable def L_3 : List (List Nat × List Nat) := [([0], [1]), ([0, 1], [2]), ([1, 1], [2])]

noncomputable def E_3 (N : Nat) : Env := mkEnv tys glob [] [] [] [] false [] [(50, hmac_framed1_itr N)]

theorem Eok_3 (N : Nat) : EnvOk Tryz.prog (E_3 N) := mkEnv_ok mixed tys_ok (FnsOk.nil) (ItsOk.cons (hmac_framed1_it N) (ItsOk.nil))

noncomputable def hmac_framed (N : Nat) (parts : (List (List UInt8))) : Option ((List (List UInt8)) × Unit) :=
  some (parts, ())

noncomputable def t_3 (N : Nat) : Tab ((List (List UInt8)) × Unit) := []

theorem link_3 (N : Nat) (x : denS [(0, .v (.sl .str))]) : evFX (E_3 N) N (t_3 N) L_3 Tryz.f32 (mkS [(0, .v (.sl .str))] 0 x) (kRes (.v (.fn 50 (.pair (.ptr (.sl .str)) .unit))) 1) = hmac_framed N x.1 := by kernel_rfl

noncomputable def hmac_framed_res (N : Nat) : List A → Res := resOf [(0, .v (.sl .str))] (fun x => hmac_framed N x.1) (oRes (.v (.fn 50 (.pair (.ptr (.sl .str)) .unit))) 1)

theorem hmac_framed_ct (N : Nat) : Contract Tryz.prog glob 32 (hmac_framed_res N) :=
  Contract.of (E := E_3 N) (H := t_3 N) (L := L_3) (N := N) (body := body_3) (K := (kRes (.v (.fn 50 (.pair (.ptr (.sl .str)) .unit))) 1)) (Eok_3 N) Tryz.func32 (by kernel_rfl) (by decide) (fun _ hb => TabOk.nil) (fun x y h => by rw [link_3]; exact h) (kRes_ok (s := (.v (.fn 50 (.pair (.ptr (.sl .str)) .unit)))) (m := 1))

noncomputable def body_4 : Code := (Tryz.f33.body).getD .skip

noncomputable def L_4 : List (List Nat × List Nat) := [([0], [0, 1]), ([0, 1], [0, 1]), ([0, 1, 1], [1, 0]), ([0, 1, 1, 1], [4, 5, 0]), ([1, 1, 1, 1], [4, 5, 0])]

noncomputable def E_4 (N : Nat) : Env := mkEnv tys glob [(52, cc_res)] [] [] [0] false [] [(50, hmac_framed1_itr N)]

theorem Eok_4 (N : Nat) : EnvOk Tryz.prog (E_4 N) := mkEnv_ok mixed tys_ok (FnsOk.cons (cc_ct glob) (FnsOk.nil)) (ItsOk.cons (hmac_framed1_it N) (ItsOk.nil))

noncomputable def strings_Builder_WriteString (N : Nat) (b : DT10) (s : (List UInt8)) : Option ((Int × Go.Value × Unit) × (DT10 × Unit)) :=
  cond (decide ((((List.length b.2.1) + (List.length (ofStr s))) * 1) ≤ 70368744177664))
  (some (((((List.length s) : Nat) : Int), (Go.Value.nilIface, ())), ((b.1, ((b.2.1 ++ (ofStr s)), b.2.2)), ())))
  (none)

noncomputable def t_4 (N : Nat) : Tab ((Int × Go.Value × Unit) × (DT10 × Unit)) := []

theorem link_4 (N : Nat) (x : denS [(0, .box TT8), (0, .v .str)]) : evFX (E_4 N) N (t_4 N) L_4 Tryz.f33 (mkS [(0, .box TT8), (0, .v .str)] 0 x) (kResB (.tup [(.int .i64), .opq]) [(0, .box TT8)] 1) = strings_Builder_WriteString N x.1 x.2.1 := by kernel_rfl

noncomputable def strings_Builder_WriteString_res (N : Nat) : List A → Res := resOf [(0, .box TT8), (0, .v .str)] (fun x => strings_Builder_WriteString N x.1 x.2.1) (oResB (.tup [(.int .i64), .opq]) [(0, .box TT8)] 1)

theorem strings_Builder_WriteString_ct (N : Nat) : Contract Tryz.prog glob 33 (strings_Builder_WriteString_res N) :=
  Contract.of (E := E_4 N) (H := t_4 N) (L := L_4) (N := N) (body := body_4) (K := (kResB (.tup [(.int .i64), .opq]) [(0, .box TT8)] 1)) (Eok_4 N) Tryz.func33 (by kernel_rfl) (by decide) (fun _ hb => TabOk.nil) (fun x y h => by rw [link_4]; exact h) (kResB_ok (s := (.tup [(.int .i64), .opq])) (os := [(0, .box TT8)]) (m := 1))

noncomputable def body_5 : Code := (Tryz.f15.body).getD .skip

noncomputable def L_5 : List (List Nat × List Nat) := [([0], [0]), ([0, 1], [0, 3]), ([0, 0, 1, 1], [6, 3]), ([0, 1, 0, 1, 1], [3]), ([0, 0, 1, 0, 1, 1], [4, 3]), ([0, 1, 0, 1, 0, 1, 1], [3]), ([1, 0, 1, 0, 1, 1], [3]), ([1, 0, 1, 1], [3]), ([0, 1, 1, 1], [2]), ([1, 1, 1, 1], [2])]

noncomputable def E_5 (N : Nat) : Env := mkEnv tys glob [(33, strings_Builder_WriteString_res N), (32, hmac_framed_res N), (34, str_res)] [] [] [] false [(3, TT8)] [(50, hmac_framed1_itr N)]

theorem Eok_5 (N : Nat) : EnvOk Tryz.prog (E_5 N) := mkEnv_ok mixed tys_ok (FnsOk.cons (strings_Builder_WriteString_ct N) (FnsOk.cons (hmac_framed_ct N) (FnsOk.cons (str_ct glob) (FnsOk.nil)))) (ItsOk.cons (hmac_framed1_it N) (ItsOk.nil))

noncomputable def hmac_Frame_s1 (N : Nat) (out_1 : DT10) (y : DT4) (rec : DT10 → Option (List UInt8)) (k0 : DT10 → Option (List UInt8)) : Option (List UInt8) :=
  (strings_Builder_WriteString N out_1 y.1).bind fun y1 =>
  rec y1.2.1

noncomputable def hmac_Frame_fit1 (N : Nat) (out : DT10) (x6 : ((List (List UInt8)) × Unit)) : Option (List DT4) := (hmac_framed1 N x6.1)

noncomputable def hmac_Frame_i1 (N : Nat) (out : DT10) (x6 : ((List (List UInt8)) × Unit)) : Unit := ()

noncomputable def hmac_Frame_v1 (N : Nat) (out : DT10) (x6 : ((List (List UInt8)) × Unit)) : DT10 := out

noncomputable def hmac_Frame_p1 (N : Nat) (out : DT10) (x6 : ((List (List UInt8)) × Unit)) (k0 : DT10 → Option (List UInt8)) : Option (List UInt8) :=
  (hmac_Frame_fit1 N out x6).bind fun ys => iterL (fun (y : DT4) (v : DT10) r => hmac_Frame_s1 N v y (fun out_1 => (r out_1)) k0) (fun (v : DT10) => k0 v) ys out

noncomputable def g1_5 (N : Nat) (y : DT4) (i : Unit) (v : DT10) (r : DT10 → Option (List UInt8)) (K : Ex → List A → Option (List UInt8)) : Option (List UInt8) :=
  hmac_Frame_s1 N v y (fun out_1 => (r out_1)) (fun a0 => (K .normal (mkS [(3, .box TT8)] 7 (a0, ()))))

noncomputable def h1_5 (N : Nat) : Hd (List UInt8) := fun st K => (unS [(3, .box TT8), (2, .v (.fn 50 (.pair (.ptr (.sl .str)) .unit)))] 4 (restr [6, 3] 0 st)).bind fun x => ((fun x => hmac_Frame_fit1 N x.1 x.2.1) x).bind fun xs => iterL (fun y v r => g1_5 N y ((fun x => hmac_Frame_i1 N x.1 x.2.1) x) v r K) (fun v => K .normal (mkS [(3, .box TT8)] 7 ((fun i v => (v, ())) ((fun x => hmac_Frame_i1 N x.1 x.2.1) x) v))) xs ((fun x => hmac_Frame_v1 N x.1 x.2.1) x)

theorem ok1_5 {N : Nat} {c : Ctx} (hb : Base Tryz.prog (E_5 N) c) : CodeOk Tryz.prog c (nodeAt body_5 [0, 1, 0, 1, 1]) (h1_5 N) :=
  rf_ok (ts := [.str]) (s := [(3, .box TT8), (2, .v (.fn 50 (.pair (.ptr (.sl .str)) .unit)))]) (m := 4) (s2 := [(3, .box TT8)]) (m2 := 7) [6, 3] (fun x => hmac_Frame_fit1 N x.1 x.2.1) (fun x => hmac_Frame_i1 N x.1 x.2.1) (fun x => hmac_Frame_v1 N x.1 x.2.1) (fun i v => (v, ())) (rfF (E_5 N) N [.str] (nodeAt body_5 [0, 1, 0, 1, 1])) (g1_5 N) (evN_sound hb N [] L_5 body_5 TabOk.nil [0, 1, 0, 1, 1] _ rfl) (fun x K => by kernel_rfl) (fun y i v r K => by kernel_rfl)

noncomputable def hmac_Frame (N : Nat) (parts : (List (List UInt8))) : Option (List UInt8) :=
  hmac_Frame_p1 N ((), (([] : List Int), ())) (parts, ())
  (fun out_1 => (str_F (out_1, ())).bind fun y =>
    some y.1)

noncomputable def t_5 (N : Nat) : Tab (List UInt8) := [([0, 1, 0, 1, 1], h1_5 N)]

theorem link_5 (N : Nat) (x : denS [(0, .v (.sl .str))]) : evFX (E_5 N) N (t_5 N) L_5 Tryz.f15 (mkS [(0, .v (.sl .str))] 0 x) (kRes (.v .str) 1) = hmac_Frame N x.1 := by kernel_rfl

noncomputable def hmac_Frame_res (N : Nat) : List A → Res := resOf [(0, .v (.sl .str))] (fun x => hmac_Frame N x.1) (oRes (.v .str) 1)

theorem hmac_Frame_ct (N : Nat) : Contract Tryz.prog glob 15 (hmac_Frame_res N) :=
  Contract.of (E := E_5 N) (H := t_5 N) (L := L_5) (N := N) (body := body_5) (K := (kRes (.v .str) 1)) (Eok_5 N) Tryz.func15 (by kernel_rfl) (by decide) (fun _ hb => (TabOk.cons (ok1_5 hb) TabOk.nil)) (fun x y h => by rw [link_5]; exact h) (kRes_ok (s := (.v .str)) (m := 1))

noncomputable def body_6 : Code := (Tryz.f89.body).getD .skip

noncomputable def L_6 : List (List Nat × List Nat) := [([0], [0]), ([0, 1], [0]), ([1, 1], [0])]

noncomputable def E_6 (N : Nat) : Env := mkEnv tys glob [] [] [] [] false [] [(50, hmac_framed1_itr N)]

theorem Eok_6 (N : Nat) : EnvOk Tryz.prog (E_6 N) := mkEnv_ok mixed tys_ok (FnsOk.nil) (ItsOk.cons (hmac_framed1_it N) (ItsOk.nil))

noncomputable def sha_First (N : Nat) : Option (List Int) :=
  some ([(1779033703 : Int), (3144134277 : Int), (1013904242 : Int), (2773480762 : Int), (1359893119 : Int), (2600822924 : Int), (528734635 : Int), (1541459225 : Int)] : List Int)

noncomputable def t_6 (N : Nat) : Tab (List Int) := []

theorem link_6 (N : Nat) (x : denS []) : evFX (E_6 N) N (t_6 N) L_6 Tryz.f89 (mkS [] 0 x) (kRes (.v (.arr 8 (.int .u32))) 0) = sha_First N := by kernel_rfl

noncomputable def sha_First_res (N : Nat) : List A → Res := resOf [] (fun x => sha_First N) (oRes (.v (.arr 8 (.int .u32))) 0)

theorem sha_First_ct (N : Nat) : Contract Tryz.prog glob 89 (sha_First_res N) :=
  Contract.of (E := E_6 N) (H := t_6 N) (L := L_6) (N := N) (body := body_6) (K := (kRes (.v (.arr 8 (.int .u32))) 0)) (Eok_6 N) Tryz.func89 (by kernel_rfl) (by decide) (fun _ hb => TabOk.nil) (fun x y h => by rw [link_6]; exact h) (kRes_ok (s := (.v (.arr 8 (.int .u32)))) (m := 0))

noncomputable def body_7 : Code := (Tryz.f81.body).getD .skip

noncomputable def L_7 : List (List Nat × List Nat) := [([0], []), ([0, 1], [0]), ([1, 1], [0])]

noncomputable def E_7 (N : Nat) : Env := mkEnv tys glob [(89, sha_First_res N)] [] [] [] false [] [(50, hmac_framed1_itr N)]

theorem Eok_7 (N : Nat) : EnvOk Tryz.prog (E_7 N) := mkEnv_ok mixed tys_ok (FnsOk.cons (sha_First_ct N) (FnsOk.nil)) (ItsOk.cons (hmac_framed1_it N) (ItsOk.nil))

noncomputable def sha_New (N : Nat) : Option DT3 :=
  some (true, (([(1779033703 : Int), (3144134277 : Int), (1013904242 : Int), (2773480762 : Int), (1359893119 : Int), (2600822924 : Int), (528734635 : Int), (1541459225 : Int)] : List Int), (([] : List UInt8), ((0 : Int), ()))))

noncomputable def t_7 (N : Nat) : Tab DT3 := []

theorem link_7 (N : Nat) (x : denS []) : evFX (E_7 N) N (t_7 N) L_7 Tryz.f81 (mkS [] 0 x) (kRes (.box TT2) 0) = sha_New N := by kernel_rfl

noncomputable def sha_New_res (N : Nat) : List A → Res := resOf [] (fun x => sha_New N) (oRes (.box TT2) 0)

theorem sha_New_ct (N : Nat) : Contract Tryz.prog glob 81 (sha_New_res N) :=
  Contract.of (E := E_7 N) (H := t_7 N) (L := L_7) (N := N) (body := body_7) (K := (kRes (.box TT2) 0)) (Eok_7 N) Tryz.func81 (by kernel_rfl) (by decide) (fun _ hb => TabOk.nil) (fun x y h => by rw [link_7]; exact h) (kRes_ok (s := (.box TT2)) (m := 0))

noncomputable def body_8 : Code := (Tryz.f107.body).getD .skip

noncomputable def L_8 : List (List Nat × List Nat) := [([0], [1, 0]), ([0, 1], [0, 5]), ([0, 1, 1], [4]), ([1, 1, 1], [4])]

noncomputable def E_8 (N : Nat) : Env := mkEnv tys glob [] [] [] [] false [] [(50, hmac_framed1_itr N)]

theorem Eok_8 (N : Nat) : EnvOk Tryz.prog (E_8 N) := mkEnv_ok mixed tys_ok (FnsOk.nil) (ItsOk.cons (hmac_framed1_it N) (ItsOk.nil))

noncomputable def math_bits_RotateLeft32 (N : Nat) (x0 : Int) (k : Int) : Option Int :=
  cond (decide ((0 : Int) ≤ (IntKind.wrap IntKind.u64 ((32 : Int) - (bitsOp Go.BinOp.and IntKind.u64 (IntKind.wrap IntKind.u64 k) (31 : Int))))))
  (some (bitsOp Go.BinOp.or IntKind.u32 (shlI IntKind.u32 x0 (bitsOp Go.BinOp.and IntKind.u64 (IntKind.wrap IntKind.u64 k) (31 : Int))) (shrI IntKind.u32 x0 (IntKind.wrap IntKind.u64 ((32 : Int) - (bitsOp Go.BinOp.and IntKind.u64 (IntKind.wrap IntKind.u64 k) (31 : Int)))))))
  (none)

noncomputable def t_8 (N : Nat) : Tab Int := []

theorem link_8 (N : Nat) (x : denS [(0, .v (.int .u32)), (0, .v (.int .i64))]) : evFX (E_8 N) N (t_8 N) L_8 Tryz.f107 (mkS [(0, .v (.int .u32)), (0, .v (.int .i64))] 0 x) (kRes (.v (.int .u32)) 2) = math_bits_RotateLeft32 N x.1 x.2.1 := by kernel_rfl

noncomputable def math_bits_RotateLeft32_res (N : Nat) : List A → Res := resOf [(0, .v (.int .u32)), (0, .v (.int .i64))] (fun x => math_bits_RotateLeft32 N x.1 x.2.1) (oRes (.v (.int .u32)) 2)

theorem math_bits_RotateLeft32_ct (N : Nat) : Contract Tryz.prog glob 107 (math_bits_RotateLeft32_res N) :=
  Contract.of (E := E_8 N) (H := t_8 N) (L := L_8) (N := N) (body := body_8) (K := (kRes (.v (.int .u32)) 2)) (Eok_8 N) Tryz.func107 (by kernel_rfl) (by decide) (fun _ hb => TabOk.nil) (fun x y h => by rw [link_8]; exact h) (kRes_ok (s := (.v (.int .u32))) (m := 2))

noncomputable def body_9 : Code := (Tryz.f106.body).getD .skip

noncomputable def L_9 : List (List Nat × List Nat) := [([0], [0, 1]), ([0, 1], [4]), ([1, 1], [4])]

noncomputable def E_9 (N : Nat) : Env := mkEnv tys glob [(107, math_bits_RotateLeft32_res N)] [] [] [] false [] [(50, hmac_framed1_itr N)]

theorem Eok_9 (N : Nat) : EnvOk Tryz.prog (E_9 N) := mkEnv_ok mixed tys_ok (FnsOk.cons (math_bits_RotateLeft32_ct N) (FnsOk.nil)) (ItsOk.cons (hmac_framed1_it N) (ItsOk.nil))

noncomputable def sha_ror (N : Nat) (x0 : Int) (n : Int) : Option Int :=
  (math_bits_RotateLeft32 N x0 (IntKind.wrap IntKind.i64 ((0 : Int) - n))).bind fun y =>
  some y

noncomputable def t_9 (N : Nat) : Tab Int := []

theorem link_9 (N : Nat) (x : denS [(0, .v (.int .u32)), (0, .v (.int .i64))]) : evFX (E_9 N) N (t_9 N) L_9 Tryz.f106 (mkS [(0, .v (.int .u32)), (0, .v (.int .i64))] 0 x) (kRes (.v (.int .u32)) 2) = sha_ror N x.1 x.2.1 := by kernel_rfl

noncomputable def sha_ror_res (N : Nat) : List A → Res := resOf [(0, .v (.int .u32)), (0, .v (.int .i64))] (fun x => sha_ror N x.1 x.2.1) (oRes (.v (.int .u32)) 2)

theorem sha_ror_ct (N : Nat) : Contract Tryz.prog glob 106 (sha_ror_res N) :=
  Contract.of (E := E_9 N) (H := t_9 N) (L := L_9) (N := N) (body := body_9) (K := (kRes (.v (.int .u32)) 2)) (Eok_9 N) Tryz.func106 (by kernel_rfl) (by decide) (fun _ hb => TabOk.nil) (fun x y h => by rw [link_9]; exact h) (kRes_ok (s := (.v (.int .u32))) (m := 2))

noncomputable def body_10 : Code := (Tryz.f103.body).getD .skip

noncomputable def L_10 : List (List Nat × List Nat) := [([0], [0, 2]), ([0, 1], [0, 3, 2]), ([0, 0, 1, 1], [11, 0, 3, 2]), ([0, 1, 0, 1, 1], [11, 0, 3, 2]), ([0, 0, 0, 1, 0, 1, 1], [12, 11, 0, 3, 2]), ([0, 1, 0, 0, 1, 0, 1, 1], [11, 0, 3, 2]), ([1, 0, 1, 0, 0, 1, 0, 1, 1], [3, 2]), ([0, 0, 0, 1, 1, 0, 0, 1, 0, 1, 1], [0, 4, 3, 11, 2]), ([0, 1, 0, 0, 1, 1, 0, 0, 1, 0, 1, 1], [4, 5, 3, 11, 0, 2]), ([1, 1, 0, 0, 1, 1, 0, 0, 1, 0, 1, 1], [11, 0, 3, 2]), ([0, 1, 1, 0, 0, 1, 0, 1, 1], [11, 0, 3, 2]), ([1, 1, 1, 0, 0, 1, 0, 1, 1], [11, 0, 3, 2]), ([1, 0, 1, 1], [3, 2]), ([0, 0, 1, 1, 1], [6, 3, 2]), ([0, 1, 0, 1, 1, 1], [6, 3, 2]), ([0, 0, 0, 0, 1, 0, 1, 1, 1], [43, 6, 3, 2]), ([1, 0, 0, 0, 1, 0, 1, 1, 1], [6, 3, 2]), ([1, 1, 0, 0, 0, 1, 0, 1, 1, 1], [3, 2]), ([0, 0, 0, 1, 0, 0, 1, 0, 1, 1, 1], [7, 8, 6, 3, 2]), ([0, 1, 0, 0, 1, 0, 0, 1, 0, 1, 1, 1], [8, 6, 3, 9, 2]), ([0, 1, 1, 0, 0, 1, 0, 0, 1, 0, 1, 1, 1], [6, 10, 3, 9, 2]), ([1, 1, 1, 0, 0, 1, 0, 0, 1, 0, 1, 1, 1], [6, 3, 2]), ([0, 1, 0, 0, 1, 0, 1, 1, 1], [6, 3, 2]), ([1, 1, 0, 0, 1, 0, 1, 1, 1], [6, 3, 2]), ([1, 0, 1, 1, 1], [3, 2]), ([0, 1, 1, 1, 1], [2]), ([1, 1, 1, 1, 1], [2])]

noncomputable def E_10 (N : Nat) : Env := mkEnv tys glob [(106, sha_ror_res N)] [] [] [] false [] [(50, hmac_framed1_itr N)]

theorem Eok_10 (N : Nat) : EnvOk Tryz.prog (E_10 N) := mkEnv_ok mixed tys_ok (FnsOk.cons (sha_ror_ct N) (FnsOk.nil)) (ItsOk.cons (hmac_framed1_it N) (ItsOk.nil))

noncomputable def sha_schedule_s1 (N : Nat) (block : (List UInt8)) (x2 : (List Int)) (w : (List Int)) (x11 : Int) (rec : (List Int) → Int → Option (List Int)) (k0 : (List Int) → Option (List Int)) : Option (List Int) :=
  cond (decide (x11 < (16 : Int)))
  (cond (decide (((0 : Int) ≤ (IntKind.wrap IntKind.i64 ((IntKind.wrap IntKind.i64 ((4 : Int) * x11)) + (4 : Int)))) ∧ ((IntKind.wrap IntKind.i64 ((IntKind.wrap IntKind.i64 ((4 : Int) * x11)) + (4 : Int))) ≤ (((List.length block) : Nat) : Int))))
    (cond (decide (((0 : Int) ≤ (IntKind.wrap IntKind.i64 ((4 : Int) * x11))) ∧ ((IntKind.wrap IntKind.i64 ((4 : Int) * x11)) ≤ (IntKind.wrap IntKind.i64 ((IntKind.wrap IntKind.i64 ((4 : Int) * x11)) + (4 : Int))))))
      (cond (inR (0 : Int) (List.length (cut block (Int.toNat (IntKind.wrap IntKind.i64 ((4 : Int) * x11))) (Int.toNat (IntKind.wrap IntKind.i64 ((IntKind.wrap IntKind.i64 ((4 : Int) * x11)) + (4 : Int)))))))
        (cond (inR (1 : Int) (List.length (cut block (Int.toNat (IntKind.wrap IntKind.i64 ((4 : Int) * x11))) (Int.toNat (IntKind.wrap IntKind.i64 ((IntKind.wrap IntKind.i64 ((4 : Int) * x11)) + (4 : Int)))))))
          (cond (inR (2 : Int) (List.length (cut block (Int.toNat (IntKind.wrap IntKind.i64 ((4 : Int) * x11))) (Int.toNat (IntKind.wrap IntKind.i64 ((IntKind.wrap IntKind.i64 ((4 : Int) * x11)) + (4 : Int)))))))
            (cond (inR (3 : Int) (List.length (cut block (Int.toNat (IntKind.wrap IntKind.i64 ((4 : Int) * x11))) (Int.toNat (IntKind.wrap IntKind.i64 ((IntKind.wrap IntKind.i64 ((4 : Int) * x11)) + (4 : Int)))))))
              (cond (inR x11 64)
                (cond (decide ((Int.toNat x11) < (List.length w)))
                  (rec (List.set w (Int.toNat x11) (bitsOp Go.BinOp.or IntKind.u32 (bitsOp Go.BinOp.or IntKind.u32 (bitsOp Go.BinOp.or IntKind.u32 (shlI IntKind.u32 (IntKind.wrap IntKind.u32 (((UInt8.toNat (List.getD (cut block (Int.toNat (IntKind.wrap IntKind.i64 ((4 : Int) * x11))) (Int.toNat (IntKind.wrap IntKind.i64 ((IntKind.wrap IntKind.i64 ((4 : Int) * x11)) + (4 : Int))))) 0 (0 : UInt8))) : Nat) : Int)) (24 : Int)) (shlI IntKind.u32 (IntKind.wrap IntKind.u32 (((UInt8.toNat (List.getD (cut block (Int.toNat (IntKind.wrap IntKind.i64 ((4 : Int) * x11))) (Int.toNat (IntKind.wrap IntKind.i64 ((IntKind.wrap IntKind.i64 ((4 : Int) * x11)) + (4 : Int))))) 1 (0 : UInt8))) : Nat) : Int)) (16 : Int))) (shlI IntKind.u32 (IntKind.wrap IntKind.u32 (((UInt8.toNat (List.getD (cut block (Int.toNat (IntKind.wrap IntKind.i64 ((4 : Int) * x11))) (Int.toNat (IntKind.wrap IntKind.i64 ((IntKind.wrap IntKind.i64 ((4 : Int) * x11)) + (4 : Int))))) 2 (0 : UInt8))) : Nat) : Int)) (8 : Int))) (IntKind.wrap IntKind.u32 (((UInt8.toNat (List.getD (cut block (Int.toNat (IntKind.wrap IntKind.i64 ((4 : Int) * x11))) (Int.toNat (IntKind.wrap IntKind.i64 ((IntKind.wrap IntKind.i64 ((4 : Int) * x11)) + (4 : Int))))) 3 (0 : UInt8))) : Nat) : Int)))) (IntKind.wrap IntKind.i64 (x11 + (1 : Int))))
                  (none))
                (none))
              (none))
            (none))
          (none))
        (none))
      (none))
    (none))
  (k0 w)

noncomputable def sha_schedule_p1 (N : Nat) (block : (List UInt8)) (x2 : (List Int)) (w : (List Int)) (x11 : Int) (k0 : (List Int) → Option (List Int)) : Option (List Int) :=
  iter (fun (v : ((List Int) × Int)) r => sha_schedule_s1 N block x2 v.1 v.2 (fun w x11 => (r (w, x11))) k0) N (w, x11)

noncomputable def g1_10 (N : Nat) (i : ((List UInt8) × (List Int))) (v : ((List Int) × Int)) (r : ((List Int) × Int) → Option (List Int)) (K : Ex → List A → Option (List Int)) : Option (List Int) :=
  sha_schedule_s1 N i.1 i.2 v.1 v.2 (fun w x11 => (r (w, x11))) (fun a1 => (K (.exit 0) (mkS [(2, .box (.arr 64 (.int .u32))), (0, .box (.arr 64 (.int .u32)))] 82 (i.2, a1, ()))))

noncomputable def h1_10 (N : Nat) : Hd (List Int) := fun st K => (unS [(0, .v .str), (1, .box (.arr 64 (.int .u32))), (0, .box (.arr 64 (.int .u32))), (7, .v (.int .i64))] 74 (restr [11, 0, 3, 2] 0 st)).bind fun x => iter (fun v r => g1_10 N ((fun x => (x.1, x.2.1)) x) v r K) N ((fun x => (x.2.2.1, x.2.2.2.1)) x)

noncomputable def t1_10 (N : Nat) : Tab (List Int) := []

theorem ok1_10 {N : Nat} {c : Ctx} (hb : Base Tryz.prog (E_10 N) c) : CodeOk Tryz.prog c (nodeAt body_10 [0, 1, 0, 1, 1]) (h1_10 N) :=
  loop_ok (s := [(0, .v .str), (1, .box (.arr 64 (.int .u32))), (0, .box (.arr 64 (.int .u32))), (7, .v (.int .i64))]) (m := 74) (g1_10 N) [11, 0, 3, 2] N (fun x => (x.1, x.2.1)) (fun x => (x.2.2.1, x.2.2.2.1)) (fun i v => (i.1, i.2, v.1, v.2, ())) (fun _ => rfl) (evN_sound hb N (t1_10 N) L_10 body_10 TabOk.nil [0, 0, 1, 0, 1, 1] _ rfl) (fun i v r K => by kernel_rfl)

noncomputable def sha_schedule_s2 (N : Nat) (x2 : (List Int)) (w : (List Int)) (t : Int) (rec : (List Int) → Int → Option (List Int)) (k0 : (List Int) → Option (List Int)) : Option (List Int) :=
  cond (decide (t < (64 : Int)))
  (cond (inR (IntKind.wrap IntKind.i64 (t - (15 : Int))) 64)
    (cond (decide ((Int.toNat (IntKind.wrap IntKind.i64 (t - (15 : Int)))) < (List.length w)))
      (cond (inR (IntKind.wrap IntKind.i64 (t - (2 : Int))) 64)
        (cond (decide ((Int.toNat (IntKind.wrap IntKind.i64 (t - (2 : Int)))) < (List.length w)))
          (cond (inR (IntKind.wrap IntKind.i64 (t - (7 : Int))) 64)
            (cond (decide ((Int.toNat (IntKind.wrap IntKind.i64 (t - (7 : Int)))) < (List.length w)))
              (cond (inR (IntKind.wrap IntKind.i64 (t - (16 : Int))) 64)
                (cond (decide ((Int.toNat (IntKind.wrap IntKind.i64 (t - (16 : Int)))) < (List.length w)))
                  (cond (inR t 64)
                    (cond (decide ((Int.toNat t) < (List.length w)))
                      (rec (List.set w (Int.toNat t) (IntKind.wrap IntKind.u32 ((IntKind.wrap IntKind.u32 ((IntKind.wrap IntKind.u32 ((bitsOp Go.BinOp.xor IntKind.u32 (bitsOp Go.BinOp.xor IntKind.u32 (bitsOp Go.BinOp.or IntKind.u32 (shlI IntKind.u32 (List.getD w (Int.toNat (IntKind.wrap IntKind.i64 (t - (2 : Int)))) (0 : Int)) (bitsOp Go.BinOp.and IntKind.u64 (IntKind.wrap IntKind.u64 (IntKind.wrap IntKind.i64 ((0 : Int) - (17 : Int)))) (31 : Int))) (shrI IntKind.u32 (List.getD w (Int.toNat (IntKind.wrap IntKind.i64 (t - (2 : Int)))) (0 : Int)) (IntKind.wrap IntKind.u64 ((32 : Int) - (bitsOp Go.BinOp.and IntKind.u64 (IntKind.wrap IntKind.u64 (IntKind.wrap IntKind.i64 ((0 : Int) - (17 : Int)))) (31 : Int)))))) (bitsOp Go.BinOp.or IntKind.u32 (shlI IntKind.u32 (List.getD w (Int.toNat (IntKind.wrap IntKind.i64 (t - (2 : Int)))) (0 : Int)) (bitsOp Go.BinOp.and IntKind.u64 (IntKind.wrap IntKind.u64 (IntKind.wrap IntKind.i64 ((0 : Int) - (19 : Int)))) (31 : Int))) (shrI IntKind.u32 (List.getD w (Int.toNat (IntKind.wrap IntKind.i64 (t - (2 : Int)))) (0 : Int)) (IntKind.wrap IntKind.u64 ((32 : Int) - (bitsOp Go.BinOp.and IntKind.u64 (IntKind.wrap IntKind.u64 (IntKind.wrap IntKind.i64 ((0 : Int) - (19 : Int)))) (31 : Int))))))) (shrI IntKind.u32 (List.getD w (Int.toNat (IntKind.wrap IntKind.i64 (t - (2 : Int)))) (0 : Int)) (10 : Int))) + (List.getD w (Int.toNat (IntKind.wrap IntKind.i64 (t - (7 : Int)))) (0 : Int)))) + (bitsOp Go.BinOp.xor IntKind.u32 (bitsOp Go.BinOp.xor IntKind.u32 (bitsOp Go.BinOp.or IntKind.u32 (shlI IntKind.u32 (List.getD w (Int.toNat (IntKind.wrap IntKind.i64 (t - (15 : Int)))) (0 : Int)) (bitsOp Go.BinOp.and IntKind.u64 (IntKind.wrap IntKind.u64 (IntKind.wrap IntKind.i64 ((0 : Int) - (7 : Int)))) (31 : Int))) (shrI IntKind.u32 (List.getD w (Int.toNat (IntKind.wrap IntKind.i64 (t - (15 : Int)))) (0 : Int)) (IntKind.wrap IntKind.u64 ((32 : Int) - (bitsOp Go.BinOp.and IntKind.u64 (IntKind.wrap IntKind.u64 (IntKind.wrap IntKind.i64 ((0 : Int) - (7 : Int)))) (31 : Int)))))) (bitsOp Go.BinOp.or IntKind.u32 (shlI IntKind.u32 (List.getD w (Int.toNat (IntKind.wrap IntKind.i64 (t - (15 : Int)))) (0 : Int)) (bitsOp Go.BinOp.and IntKind.u64 (IntKind.wrap IntKind.u64 (IntKind.wrap IntKind.i64 ((0 : Int) - (18 : Int)))) (31 : Int))) (shrI IntKind.u32 (List.getD w (Int.toNat (IntKind.wrap IntKind.i64 (t - (15 : Int)))) (0 : Int)) (IntKind.wrap IntKind.u64 ((32 : Int) - (bitsOp Go.BinOp.and IntKind.u64 (IntKind.wrap IntKind.u64 (IntKind.wrap IntKind.i64 ((0 : Int) - (18 : Int)))) (31 : Int))))))) (shrI IntKind.u32 (List.getD w (Int.toNat (IntKind.wrap IntKind.i64 (t - (15 : Int)))) (0 : Int)) (3 : Int))))) + (List.getD w (Int.toNat (IntKind.wrap IntKind.i64 (t - (16 : Int)))) (0 : Int))))) (IntKind.wrap IntKind.i64 (t + (1 : Int))))
                      (none))
                    (none))
                  (none))
                (none))
              (none))
            (none))
          (none))
        (none))
      (none))
    (none))
  (k0 w)

noncomputable def sha_schedule_p2 (N : Nat) (x2 : (List Int)) (w : (List Int)) (t : Int) (k0 : (List Int) → Option (List Int)) : Option (List Int) :=
  iter (fun (v : ((List Int) × Int)) r => sha_schedule_s2 N x2 v.1 v.2 (fun w t => (r (w, t))) k0) N (w, t)

noncomputable def g2_10 (N : Nat) (i : (List Int)) (v : ((List Int) × Int)) (r : ((List Int) × Int) → Option (List Int)) (K : Ex → List A → Option (List Int)) : Option (List Int) :=
  sha_schedule_s2 N i v.1 v.2 (fun w t => (r (w, t))) (fun a1 => (K (.exit 2) (mkS [(2, .box (.arr 64 (.int .u32))), (0, .box (.arr 64 (.int .u32)))] 82 (i, a1, ()))))

noncomputable def h2_10 (N : Nat) : Hd (List Int) := fun st K => (unS [(2, .box (.arr 64 (.int .u32))), (0, .box (.arr 64 (.int .u32))), (2, .v (.int .i64))] 79 (restr [6, 3, 2] 0 st)).bind fun x => iter (fun v r => g2_10 N ((fun x => x.1) x) v r K) N ((fun x => (x.2.1, x.2.2.1)) x)

noncomputable def t2_10 (N : Nat) : Tab (List Int) := []

theorem ok2_10 {N : Nat} {c : Ctx} (hb : Base Tryz.prog (E_10 N) c) : CodeOk Tryz.prog c (nodeAt body_10 [0, 1, 0, 1, 1, 1]) (h2_10 N) :=
  loop_ok (s := [(2, .box (.arr 64 (.int .u32))), (0, .box (.arr 64 (.int .u32))), (2, .v (.int .i64))]) (m := 79) (g2_10 N) [6, 3, 2] N (fun x => x.1) (fun x => (x.2.1, x.2.2.1)) (fun i v => (i, v.1, v.2, ())) (fun _ => rfl) (evN_sound hb N (t2_10 N) L_10 body_10 TabOk.nil [0, 0, 1, 0, 1, 1, 1] _ rfl) (fun i v r K => by kernel_rfl)

noncomputable def sha_schedule (N : Nat) (block : (List UInt8)) : Option (List Int) :=
  sha_schedule_p1 N block ((0 : Int) :: (0 : Int) :: (0 : Int) :: (0 : Int) :: (0 : Int) :: (0 : Int) :: (0 : Int) :: (0 : Int) :: (0 : Int) :: (0 : Int) :: (0 : Int) :: (0 : Int) :: (0 : Int) :: (0 : Int) :: (0 : Int) :: (0 : Int) :: (0 : Int) :: (0 : Int) :: (0 : Int) :: (0 : Int) :: (0 : Int) :: (0 : Int) :: (0 : Int) :: (0 : Int) :: (0 : Int) :: (0 : Int) :: (0 : Int) :: (0 : Int) :: (0 : Int) :: (0 : Int) :: (0 : Int) :: (0 : Int) :: (0 : Int) :: (0 : Int) :: (0 : Int) :: (0 : Int) :: (0 : Int) :: (0 : Int) :: (0 : Int) :: (0 : Int) :: (0 : Int) :: (0 : Int) :: (0 : Int) :: (0 : Int) :: (0 : Int) :: (0 : Int) :: (0 : Int) :: (0 : Int) :: (0 : Int) :: (0 : Int) :: (0 : Int) :: (0 : Int) :: (0 : Int) :: (0 : Int) :: (0 : Int) :: (0 : Int) :: (0 : Int) :: (0 : Int) :: (0 : Int) :: (0 : Int) :: (0 : Int) :: (0 : Int) :: (0 : Int) :: (0 : Int) :: ([] : List Int)) ((0 : Int) :: (0 : Int) :: (0 : Int) :: (0 : Int) :: (0 : Int) :: (0 : Int) :: (0 : Int) :: (0 : Int) :: (0 : Int) :: (0 : Int) :: (0 : Int) :: (0 : Int) :: (0 : Int) :: (0 : Int) :: (0 : Int) :: (0 : Int) :: (0 : Int) :: (0 : Int) :: (0 : Int) :: (0 : Int) :: (0 : Int) :: (0 : Int) :: (0 : Int) :: (0 : Int) :: (0 : Int) :: (0 : Int) :: (0 : Int) :: (0 : Int) :: (0 : Int) :: (0 : Int) :: (0 : Int) :: (0 : Int) :: (0 : Int) :: (0 : Int) :: (0 : Int) :: (0 : Int) :: (0 : Int) :: (0 : Int) :: (0 : Int) :: (0 : Int) :: (0 : Int) :: (0 : Int) :: (0 : Int) :: (0 : Int) :: (0 : Int) :: (0 : Int) :: (0 : Int) :: (0 : Int) :: (0 : Int) :: (0 : Int) :: (0 : Int) :: (0 : Int) :: (0 : Int) :: (0 : Int) :: (0 : Int) :: (0 : Int) :: (0 : Int) :: (0 : Int) :: (0 : Int) :: (0 : Int) :: (0 : Int) :: (0 : Int) :: (0 : Int) :: (0 : Int) :: ([] : List Int)) (0 : Int)
  (fun w => sha_schedule_p2 N ((0 : Int) :: (0 : Int) :: (0 : Int) :: (0 : Int) :: (0 : Int) :: (0 : Int) :: (0 : Int) :: (0 : Int) :: (0 : Int) :: (0 : Int) :: (0 : Int) :: (0 : Int) :: (0 : Int) :: (0 : Int) :: (0 : Int) :: (0 : Int) :: (0 : Int) :: (0 : Int) :: (0 : Int) :: (0 : Int) :: (0 : Int) :: (0 : Int) :: (0 : Int) :: (0 : Int) :: (0 : Int) :: (0 : Int) :: (0 : Int) :: (0 : Int) :: (0 : Int) :: (0 : Int) :: (0 : Int) :: (0 : Int) :: (0 : Int) :: (0 : Int) :: (0 : Int) :: (0 : Int) :: (0 : Int) :: (0 : Int) :: (0 : Int) :: (0 : Int) :: (0 : Int) :: (0 : Int) :: (0 : Int) :: (0 : Int) :: (0 : Int) :: (0 : Int) :: (0 : Int) :: (0 : Int) :: (0 : Int) :: (0 : Int) :: (0 : Int) :: (0 : Int) :: (0 : Int) :: (0 : Int) :: (0 : Int) :: (0 : Int) :: (0 : Int) :: (0 : Int) :: (0 : Int) :: (0 : Int) :: (0 : Int) :: (0 : Int) :: (0 : Int) :: (0 : Int) :: ([] : List Int)) w (16 : Int)
    (fun w1 => some w1))

noncomputable def t_10 (N : Nat) : Tab (List Int) := [([0, 1, 0, 1, 1], h1_10 N), ([0, 1, 0, 1, 1, 1], h2_10 N)]

theorem link_10 (N : Nat) (x : denS [(0, .v .str)]) : evFX (E_10 N) N (t_10 N) L_10 Tryz.f103 (mkS [(0, .v .str)] 0 x) (kRes (.v (.arr 64 (.int .u32))) 1) = sha_schedule N x.1 := by kernel_rfl

noncomputable def sha_schedule_res (N : Nat) : List A → Res := resOf [(0, .v .str)] (fun x => sha_schedule N x.1) (oRes (.v (.arr 64 (.int .u32))) 1)

theorem sha_schedule_ct (N : Nat) : Contract Tryz.prog glob 103 (sha_schedule_res N) :=
  Contract.of (E := E_10 N) (H := t_10 N) (L := L_10) (N := N) (body := body_10) (K := (kRes (.v (.arr 64 (.int .u32))) 1)) (Eok_10 N) Tryz.func103 (by kernel_rfl) (by decide) (fun _ hb => (TabOk.cons (ok1_10 hb) (TabOk.cons (ok2_10 hb) TabOk.nil))) (fun x y h => by rw [link_10]; exact h) (kRes_ok (s := (.v (.arr 64 (.int .u32)))) (m := 1))

noncomputable def body_11 : Code := (Tryz.f104.body).getD .skip

noncomputable def L_11 : List (List Nat × List Nat) := [([0], [2, 1, 4]), ([0, 1], [12, 9, 10, 11, 1, 5, 6, 7, 8, 4]), ([0, 1, 1], [5, 6, 7, 13, 8, 9, 10, 11, 4]), ([0, 1, 1, 1], [13, 14, 5, 6, 7, 8, 9, 10, 11, 4]), ([0, 1, 1, 1, 1], [4]), ([1, 1, 1, 1, 1], [4])]

noncomputable def E_11 (N : Nat) : Env := mkEnv tys glob [(106, sha_ror_res N)] [] [] [] false [] [(50, hmac_framed1_itr N)]

theorem Eok_11 (N : Nat) : EnvOk Tryz.prog (E_11 N) := mkEnv_ok mixed tys_ok (FnsOk.cons (sha_ror_ct N) (FnsOk.nil)) (ItsOk.cons (hmac_framed1_it N) (ItsOk.nil))

noncomputable def sha_round (N : Nat) (v_ : (List Int)) (k : Int) : Option (List Int) :=
  cond (decide (0 < (List.length v_)))
  (cond (decide (1 < (List.length v_)))
    (cond (decide (2 < (List.length v_)))
      (cond (decide (3 < (List.length v_)))
        (cond (decide (4 < (List.length v_)))
          (cond (decide (5 < (List.length v_)))
            (cond (decide (6 < (List.length v_)))
              (cond (decide (7 < (List.length v_)))
                (some ([(IntKind.wrap IntKind.u32 ((IntKind.wrap IntKind.u32 ((IntKind.wrap IntKind.u32 ((IntKind.wrap IntKind.u32 ((List.getD v_ 7 (0 : Int)) + (bitsOp Go.BinOp.xor IntKind.u32 (bitsOp Go.BinOp.xor IntKind.u32 (bitsOp Go.BinOp.or IntKind.u32 (shlI IntKind.u32 (List.getD v_ 4 (0 : Int)) (bitsOp Go.BinOp.and IntKind.u64 (IntKind.wrap IntKind.u64 (IntKind.wrap IntKind.i64 ((0 : Int) - (6 : Int)))) (31 : Int))) (shrI IntKind.u32 (List.getD v_ 4 (0 : Int)) (IntKind.wrap IntKind.u64 ((32 : Int) - (bitsOp Go.BinOp.and IntKind.u64 (IntKind.wrap IntKind.u64 (IntKind.wrap IntKind.i64 ((0 : Int) - (6 : Int)))) (31 : Int)))))) (bitsOp Go.BinOp.or IntKind.u32 (shlI IntKind.u32 (List.getD v_ 4 (0 : Int)) (bitsOp Go.BinOp.and IntKind.u64 (IntKind.wrap IntKind.u64 (IntKind.wrap IntKind.i64 ((0 : Int) - (11 : Int)))) (31 : Int))) (shrI IntKind.u32 (List.getD v_ 4 (0 : Int)) (IntKind.wrap IntKind.u64 ((32 : Int) - (bitsOp Go.BinOp.and IntKind.u64 (IntKind.wrap IntKind.u64 (IntKind.wrap IntKind.i64 ((0 : Int) - (11 : Int)))) (31 : Int))))))) (bitsOp Go.BinOp.or IntKind.u32 (shlI IntKind.u32 (List.getD v_ 4 (0 : Int)) (bitsOp Go.BinOp.and IntKind.u64 (IntKind.wrap IntKind.u64 (IntKind.wrap IntKind.i64 ((0 : Int) - (25 : Int)))) (31 : Int))) (shrI IntKind.u32 (List.getD v_ 4 (0 : Int)) (IntKind.wrap IntKind.u64 ((32 : Int) - (bitsOp Go.BinOp.and IntKind.u64 (IntKind.wrap IntKind.u64 (IntKind.wrap IntKind.i64 ((0 : Int) - (25 : Int)))) (31 : Int))))))))) + (bitsOp Go.BinOp.xor IntKind.u32 (bitsOp Go.BinOp.and IntKind.u32 (List.getD v_ 4 (0 : Int)) (List.getD v_ 5 (0 : Int))) (bitsOp Go.BinOp.and IntKind.u32 (bitsOp Go.BinOp.xor IntKind.u32 (if ((IntKind.signed IntKind.u32) = true) then (-(1 : Int)) else (IntKind.max IntKind.u32)) (List.getD v_ 4 (0 : Int))) (List.getD v_ 6 (0 : Int)))))) + k)) + (IntKind.wrap IntKind.u32 ((bitsOp Go.BinOp.xor IntKind.u32 (bitsOp Go.BinOp.xor IntKind.u32 (bitsOp Go.BinOp.or IntKind.u32 (shlI IntKind.u32 (List.getD v_ 0 (0 : Int)) (bitsOp Go.BinOp.and IntKind.u64 (IntKind.wrap IntKind.u64 (IntKind.wrap IntKind.i64 ((0 : Int) - (2 : Int)))) (31 : Int))) (shrI IntKind.u32 (List.getD v_ 0 (0 : Int)) (IntKind.wrap IntKind.u64 ((32 : Int) - (bitsOp Go.BinOp.and IntKind.u64 (IntKind.wrap IntKind.u64 (IntKind.wrap IntKind.i64 ((0 : Int) - (2 : Int)))) (31 : Int)))))) (bitsOp Go.BinOp.or IntKind.u32 (shlI IntKind.u32 (List.getD v_ 0 (0 : Int)) (bitsOp Go.BinOp.and IntKind.u64 (IntKind.wrap IntKind.u64 (IntKind.wrap IntKind.i64 ((0 : Int) - (13 : Int)))) (31 : Int))) (shrI IntKind.u32 (List.getD v_ 0 (0 : Int)) (IntKind.wrap IntKind.u64 ((32 : Int) - (bitsOp Go.BinOp.and IntKind.u64 (IntKind.wrap IntKind.u64 (IntKind.wrap IntKind.i64 ((0 : Int) - (13 : Int)))) (31 : Int))))))) (bitsOp Go.BinOp.or IntKind.u32 (shlI IntKind.u32 (List.getD v_ 0 (0 : Int)) (bitsOp Go.BinOp.and IntKind.u64 (IntKind.wrap IntKind.u64 (IntKind.wrap IntKind.i64 ((0 : Int) - (22 : Int)))) (31 : Int))) (shrI IntKind.u32 (List.getD v_ 0 (0 : Int)) (IntKind.wrap IntKind.u64 ((32 : Int) - (bitsOp Go.BinOp.and IntKind.u64 (IntKind.wrap IntKind.u64 (IntKind.wrap IntKind.i64 ((0 : Int) - (22 : Int)))) (31 : Int))))))) + (bitsOp Go.BinOp.xor IntKind.u32 (bitsOp Go.BinOp.xor IntKind.u32 (bitsOp Go.BinOp.and IntKind.u32 (List.getD v_ 0 (0 : Int)) (List.getD v_ 1 (0 : Int))) (bitsOp Go.BinOp.and IntKind.u32 (List.getD v_ 0 (0 : Int)) (List.getD v_ 2 (0 : Int)))) (bitsOp Go.BinOp.and IntKind.u32 (List.getD v_ 1 (0 : Int)) (List.getD v_ 2 (0 : Int)))))))), (List.getD v_ 0 (0 : Int)), (List.getD v_ 1 (0 : Int)), (List.getD v_ 2 (0 : Int)), (IntKind.wrap IntKind.u32 ((List.getD v_ 3 (0 : Int)) + (IntKind.wrap IntKind.u32 ((IntKind.wrap IntKind.u32 ((IntKind.wrap IntKind.u32 ((List.getD v_ 7 (0 : Int)) + (bitsOp Go.BinOp.xor IntKind.u32 (bitsOp Go.BinOp.xor IntKind.u32 (bitsOp Go.BinOp.or IntKind.u32 (shlI IntKind.u32 (List.getD v_ 4 (0 : Int)) (bitsOp Go.BinOp.and IntKind.u64 (IntKind.wrap IntKind.u64 (IntKind.wrap IntKind.i64 ((0 : Int) - (6 : Int)))) (31 : Int))) (shrI IntKind.u32 (List.getD v_ 4 (0 : Int)) (IntKind.wrap IntKind.u64 ((32 : Int) - (bitsOp Go.BinOp.and IntKind.u64 (IntKind.wrap IntKind.u64 (IntKind.wrap IntKind.i64 ((0 : Int) - (6 : Int)))) (31 : Int)))))) (bitsOp Go.BinOp.or IntKind.u32 (shlI IntKind.u32 (List.getD v_ 4 (0 : Int)) (bitsOp Go.BinOp.and IntKind.u64 (IntKind.wrap IntKind.u64 (IntKind.wrap IntKind.i64 ((0 : Int) - (11 : Int)))) (31 : Int))) (shrI IntKind.u32 (List.getD v_ 4 (0 : Int)) (IntKind.wrap IntKind.u64 ((32 : Int) - (bitsOp Go.BinOp.and IntKind.u64 (IntKind.wrap IntKind.u64 (IntKind.wrap IntKind.i64 ((0 : Int) - (11 : Int)))) (31 : Int))))))) (bitsOp Go.BinOp.or IntKind.u32 (shlI IntKind.u32 (List.getD v_ 4 (0 : Int)) (bitsOp Go.BinOp.and IntKind.u64 (IntKind.wrap IntKind.u64 (IntKind.wrap IntKind.i64 ((0 : Int) - (25 : Int)))) (31 : Int))) (shrI IntKind.u32 (List.getD v_ 4 (0 : Int)) (IntKind.wrap IntKind.u64 ((32 : Int) - (bitsOp Go.BinOp.and IntKind.u64 (IntKind.wrap IntKind.u64 (IntKind.wrap IntKind.i64 ((0 : Int) - (25 : Int)))) (31 : Int))))))))) + (bitsOp Go.BinOp.xor IntKind.u32 (bitsOp Go.BinOp.and IntKind.u32 (List.getD v_ 4 (0 : Int)) (List.getD v_ 5 (0 : Int))) (bitsOp Go.BinOp.and IntKind.u32 (bitsOp Go.BinOp.xor IntKind.u32 (if ((IntKind.signed IntKind.u32) = true) then (-(1 : Int)) else (IntKind.max IntKind.u32)) (List.getD v_ 4 (0 : Int))) (List.getD v_ 6 (0 : Int)))))) + k)))), (List.getD v_ 4 (0 : Int)), (List.getD v_ 5 (0 : Int)), (List.getD v_ 6 (0 : Int))] : List Int))
                (none))
              (none))
            (none))
          (none))
        (none))
      (none))
    (none))
  (none)

noncomputable def t_11 (N : Nat) : Tab (List Int) := []

theorem link_11 (N : Nat) (x : denS [(0, .v (.arr 8 (.int .u32))), (0, .v (.int .u32))]) : evFX (E_11 N) N (t_11 N) L_11 Tryz.f104 (mkS [(0, .v (.arr 8 (.int .u32))), (0, .v (.int .u32))] 0 x) (kRes (.v (.arr 8 (.int .u32))) 2) = sha_round N x.1 x.2.1 := by kernel_rfl

noncomputable def sha_round_res (N : Nat) : List A → Res := resOf [(0, .v (.arr 8 (.int .u32))), (0, .v (.int .u32))] (fun x => sha_round N x.1 x.2.1) (oRes (.v (.arr 8 (.int .u32))) 2)

theorem sha_round_ct (N : Nat) : Contract Tryz.prog glob 104 (sha_round_res N) :=
  Contract.of (E := E_11 N) (H := t_11 N) (L := L_11) (N := N) (body := body_11) (K := (kRes (.v (.arr 8 (.int .u32))) 2)) (Eok_11 N) Tryz.func104 (by kernel_rfl) (by decide) (fun _ hb => TabOk.nil) (fun x y h => by rw [link_11]; exact h) (kRes_ok (s := (.v (.arr 8 (.int .u32)))) (m := 2))

noncomputable def body_12 : Code := (Tryz.f97.body).getD .skip

noncomputable def L_12 : List (List Nat × List Nat) := [([0], [1, 2, 4]), ([0, 0, 1], [11, 2, 4, 1]), ([1, 0, 1], [1, 2, 4]), ([0, 0, 1, 0, 1], [4]), ([1, 0, 1, 0, 1], [4]), ([0, 1, 1], [2, 5, 4]), ([0, 1, 1, 1], [6, 5, 2, 4]), ([0, 0, 1, 1, 1, 1], [16, 6, 5, 2, 4]), ([0, 1, 0, 1, 1, 1, 1], [16, 6, 5, 2, 4]), ([0, 0, 0, 1, 0, 1, 1, 1, 1], [17, 16, 6, 5, 2, 4]), ([0, 1, 0, 0, 1, 0, 1, 1, 1, 1], [16, 6, 5, 2, 4]), ([1, 0, 1, 0, 0, 1, 0, 1, 1, 1, 1], [6, 2, 4]), ([0, 0, 0, 1, 1, 0, 0, 1, 0, 1, 1, 1, 1], [6, 7, 5, 16, 2, 4]), ([1, 0, 0, 1, 1, 0, 0, 1, 0, 1, 1, 1, 1], [16, 6, 5, 2, 4]), ([0, 1, 1, 0, 0, 1, 0, 1, 1, 1, 1], [16, 6, 5, 2, 4]), ([1, 1, 1, 0, 0, 1, 0, 1, 1, 1, 1], [16, 6, 5, 2, 4]), ([1, 0, 1, 1, 1, 1], [6, 2, 4]), ([0, 0, 1, 1, 1, 1, 1], [29, 6, 2, 4]), ([0, 1, 0, 1, 1, 1, 1, 1], [29, 6, 2, 4]), ([0, 0, 0, 1, 0, 1, 1, 1, 1, 1], [30, 29, 6, 2, 4]), ([0, 1, 0, 0, 1, 0, 1, 1, 1, 1, 1], [29, 6, 2, 4]), ([1, 0, 1, 0, 0, 1, 0, 1, 1, 1, 1, 1], [6, 4]), ([0, 0, 0, 1, 1, 0, 0, 1, 0, 1, 1, 1, 1, 1], [8, 6, 2, 29, 4]), ([1, 0, 0, 1, 1, 0, 0, 1, 0, 1, 1, 1, 1, 1], [29, 6, 2, 4]), ([0, 1, 1, 0, 0, 1, 0, 1, 1, 1, 1, 1], [29, 6, 2, 4]), ([1, 1, 1, 0, 0, 1, 0, 1, 1, 1, 1, 1], [29, 6, 2, 4]), ([1, 0, 1, 1, 1, 1, 1], [6, 4]), ([0, 1, 1, 1, 1, 1, 1], [4]), ([1, 1, 1, 1, 1, 1, 1], [4])]

noncomputable def E_12 (N : Nat) : Env := mkEnv tys glob [(104, sha_round_res N), (103, sha_schedule_res N)] [] [] [] false [] [(50, hmac_framed1_itr N)]

theorem Eok_12 (N : Nat) : EnvOk Tryz.prog (E_12 N) := mkEnv_ok mixed tys_ok (FnsOk.cons (sha_round_ct N) (FnsOk.cons (sha_schedule_ct N) (FnsOk.nil))) (ItsOk.cons (hmac_framed1_it N) (ItsOk.nil))

noncomputable def sha_Step_s1 (N : Nat) (h : (List Int)) (x4 : (List Int)) (w : (List Int)) (v_ : (List Int)) (x16 : Int) (rec : (List Int) → Int → Option (List Int)) (k0 : (List Int) → Option (List Int)) : Option (List Int) :=
  cond (decide (x16 < (64 : Int)))
  (cond (inR x16 64)
    (cond (inR x16 64)
      (cond (decide ((Int.toNat x16) < (List.length w)))
        ((sha_round N v_ (IntKind.wrap IntKind.u32 ((List.getD glob0 (Int.toNat x16) (0 : Int)) + (List.getD w (Int.toNat x16) (0 : Int))))).bind fun y =>
          rec y (IntKind.wrap IntKind.i64 (x16 + (1 : Int))))
        (none))
      (none))
    (none))
  (k0 v_)

noncomputable def sha_Step_p1 (N : Nat) (h : (List Int)) (x4 : (List Int)) (w : (List Int)) (v_ : (List Int)) (x16 : Int) (k0 : (List Int) → Option (List Int)) : Option (List Int) :=
  iter (fun (v : ((List Int) × Int)) r => sha_Step_s1 N h x4 w v.1 v.2 (fun v_ x16 => (r (v_, x16))) k0) N (v_, x16)

noncomputable def g1_12 (N : Nat) (i : ((List Int) × (List Int) × (List Int))) (v : ((List Int) × Int)) (r : ((List Int) × Int) → Option (List Int)) (K : Ex → List A → Option (List Int)) : Option (List Int) :=
  sha_Step_s1 N i.1 i.2.1 i.2.2 v.1 v.2 (fun v_ x16 => (r (v_, x16))) (fun a2 => (K (.exit 0) (mkS [(2, .box (.arr 8 (.int .u32))), (1, .box (.arr 8 (.int .u32))), (1, .box (.arr 8 (.int .u32)))] 35 (i.1, i.2.1, a2, ()))))

noncomputable def h1_12 (N : Nat) : Hd (List Int) := fun st K => (unS [(2, .box (.arr 8 (.int .u32))), (1, .box (.arr 8 (.int .u32))), (0, .box (.arr 64 (.int .u32))), (0, .box (.arr 8 (.int .u32))), (9, .v (.int .i64))] 25 (restr [16, 6, 5, 2, 4] 0 st)).bind fun x => iter (fun v r => g1_12 N ((fun x => (x.1, x.2.1, x.2.2.1)) x) v r K) N ((fun x => (x.2.2.2.1, x.2.2.2.2.1)) x)

noncomputable def t1_12 (N : Nat) : Tab (List Int) := []

theorem ok1_12 {N : Nat} {c : Ctx} (hb : Base Tryz.prog (E_12 N) c) : CodeOk Tryz.prog c (nodeAt body_12 [0, 1, 0, 1, 1, 1, 1]) (h1_12 N) :=
  loop_ok (s := [(2, .box (.arr 8 (.int .u32))), (1, .box (.arr 8 (.int .u32))), (0, .box (.arr 64 (.int .u32))), (0, .box (.arr 8 (.int .u32))), (9, .v (.int .i64))]) (m := 25) (g1_12 N) [16, 6, 5, 2, 4] N (fun x => (x.1, x.2.1, x.2.2.1)) (fun x => (x.2.2.2.1, x.2.2.2.2.1)) (fun i v => (i.1, i.2.1, i.2.2, v.1, v.2, ())) (fun _ => rfl) (evN_sound hb N (t1_12 N) L_12 body_12 TabOk.nil [0, 0, 1, 0, 1, 1, 1, 1] _ rfl) (fun i v r K => by kernel_rfl)

noncomputable def sha_Step_s2 (N : Nat) (h : (List Int)) (x4 : (List Int)) (v_ : (List Int)) (x29 : Int) (rec : (List Int) → Int → Option (List Int)) (k0 : (List Int) → Option (List Int)) : Option (List Int) :=
  cond (decide (x29 < (8 : Int)))
  (cond (inR x29 8)
    (cond (decide ((Int.toNat x29) < (List.length v_)))
      (cond (inR x29 8)
        (cond (decide ((Int.toNat x29) < (List.length h)))
          (cond (inR x29 8)
            (cond (decide ((Int.toNat x29) < (List.length v_)))
              (rec (List.set v_ (Int.toNat x29) (IntKind.wrap IntKind.u32 ((List.getD v_ (Int.toNat x29) (0 : Int)) + (List.getD h (Int.toNat x29) (0 : Int))))) (IntKind.wrap IntKind.i64 (x29 + (1 : Int))))
              (none))
            (none))
          (none))
        (none))
      (none))
    (none))
  (k0 v_)

noncomputable def sha_Step_p2 (N : Nat) (h : (List Int)) (x4 : (List Int)) (v_ : (List Int)) (x29 : Int) (k0 : (List Int) → Option (List Int)) : Option (List Int) :=
  iter (fun (v : ((List Int) × Int)) r => sha_Step_s2 N h x4 v.1 v.2 (fun v_ x29 => (r (v_, x29))) k0) N (v_, x29)

noncomputable def g2_12 (N : Nat) (i : ((List Int) × (List Int))) (v : ((List Int) × Int)) (r : ((List Int) × Int) → Option (List Int)) (K : Ex → List A → Option (List Int)) : Option (List Int) :=
  sha_Step_s2 N i.1 i.2 v.1 v.2 (fun v_ x29 => (r (v_, x29))) (fun a1 => (K (.exit 2) (mkS [(4, .box (.arr 8 (.int .u32))), (1, .box (.arr 8 (.int .u32)))] 35 (i.2, a1, ()))))

noncomputable def h2_12 (N : Nat) : Hd (List Int) := fun st K => (unS [(2, .box (.arr 8 (.int .u32))), (1, .box (.arr 8 (.int .u32))), (1, .box (.arr 8 (.int .u32))), (22, .v (.int .i64))] 12 (restr [29, 6, 2, 4] 0 st)).bind fun x => iter (fun v r => g2_12 N ((fun x => (x.1, x.2.1)) x) v r K) N ((fun x => (x.2.2.1, x.2.2.2.1)) x)

noncomputable def t2_12 (N : Nat) : Tab (List Int) := []

theorem ok2_12 {N : Nat} {c : Ctx} (hb : Base Tryz.prog (E_12 N) c) : CodeOk Tryz.prog c (nodeAt body_12 [0, 1, 0, 1, 1, 1, 1, 1]) (h2_12 N) :=
  loop_ok (s := [(2, .box (.arr 8 (.int .u32))), (1, .box (.arr 8 (.int .u32))), (1, .box (.arr 8 (.int .u32))), (22, .v (.int .i64))]) (m := 12) (g2_12 N) [29, 6, 2, 4] N (fun x => (x.1, x.2.1)) (fun x => (x.2.2.1, x.2.2.2.1)) (fun i v => (i.1, i.2, v.1, v.2, ())) (fun _ => rfl) (evN_sound hb N (t2_12 N) L_12 body_12 TabOk.nil [0, 0, 1, 0, 1, 1, 1, 1, 1] _ rfl) (fun i v r K => by kernel_rfl)

noncomputable def sha_Step (N : Nat) (h : (List Int)) (block : (List UInt8)) : Option (List Int) :=
  cond ((((List.length block) : Nat) : Int) != (64 : Int))
  (some h)
  ((sha_schedule N block).bind fun y =>
    sha_Step_p1 N h ([(0 : Int), (0 : Int), (0 : Int), (0 : Int), (0 : Int), (0 : Int), (0 : Int), (0 : Int)] : List Int) y h (0 : Int)
    (fun v_ => sha_Step_p2 N h ([(0 : Int), (0 : Int), (0 : Int), (0 : Int), (0 : Int), (0 : Int), (0 : Int), (0 : Int)] : List Int) v_ (0 : Int)
      (fun v_1 => some v_1)))

noncomputable def t_12 (N : Nat) : Tab (List Int) := [([0, 1, 0, 1, 1, 1, 1], h1_12 N), ([0, 1, 0, 1, 1, 1, 1, 1], h2_12 N)]

theorem link_12 (N : Nat) (x : denS [(0, .v (.arr 8 (.int .u32))), (0, .v .str)]) : evFX (E_12 N) N (t_12 N) L_12 Tryz.f97 (mkS [(0, .v (.arr 8 (.int .u32))), (0, .v .str)] 0 x) (kRes (.v (.arr 8 (.int .u32))) 2) = sha_Step N x.1 x.2.1 := by kernel_rfl

noncomputable def sha_Step_res (N : Nat) : List A → Res := resOf [(0, .v (.arr 8 (.int .u32))), (0, .v .str)] (fun x => sha_Step N x.1 x.2.1) (oRes (.v (.arr 8 (.int .u32))) 2)

theorem sha_Step_ct (N : Nat) : Contract Tryz.prog glob 97 (sha_Step_res N) :=
  Contract.of (E := E_12 N) (H := t_12 N) (L := L_12) (N := N) (body := body_12) (K := (kRes (.v (.arr 8 (.int .u32))) 2)) (Eok_12 N) Tryz.func97 (by kernel_rfl) (by decide) (fun _ hb => (TabOk.cons (ok1_12 hb) (TabOk.cons (ok2_12 hb) TabOk.nil))) (fun x y h => by rw [link_12]; exact h) (kRes_ok (s := (.v (.arr 8 (.int .u32)))) (m := 2))

noncomputable def body_13 : Code := (Tryz.f90.body).getD .skip

noncomputable def L_13 : List (List Nat × List Nat) := [([0], [1, 2, 4]), ([0, 0, 1], [5, 1, 2, 4]), ([0, 1, 0, 1], [5, 1, 2, 4]), ([0, 0, 0, 0, 1, 0, 1], [9, 2, 1, 5, 4]), ([1, 0, 0, 0, 1, 0, 1], [2, 1, 5, 4]), ([1, 1, 0, 0, 0, 1, 0, 1], [2, 4]), ([0, 0, 1, 0, 0, 1, 0, 1], [5, 1, 2, 4]), ([0, 1, 0, 0, 1, 0, 1], [5, 1, 2, 4]), ([1, 1, 0, 0, 1, 0, 1], [5, 1, 2, 4]), ([1, 0, 1], [2, 4]), ([0, 1, 1], [4]), ([1, 1, 1], [4])]

noncomputable def E_13 (N : Nat) : Env := mkEnv tys glob [(97, sha_Step_res N)] [] [] [] false [] [(50, hmac_framed1_itr N)]

theorem Eok_13 (N : Nat) : EnvOk Tryz.prog (E_13 N) := mkEnv_ok mixed tys_ok (FnsOk.cons (sha_Step_ct N) (FnsOk.nil)) (ItsOk.cons (hmac_framed1_it N) (ItsOk.nil))

noncomputable def sha_steps_s1 (N : Nat) (s : (List UInt8)) (x4 : (List Int)) (h : (List Int)) (i : Int) (rec : (List Int) → Int → Option (List Int)) (k0 : (List Int) → Option (List Int)) : Option (List Int) :=
  cond (decide (i < (((List.length s) : Nat) : Int)))
  (cond (decide (((0 : Int) ≤ (IntKind.wrap IntKind.i64 (i + (64 : Int)))) ∧ ((IntKind.wrap IntKind.i64 (i + (64 : Int))) ≤ (((List.length s) : Nat) : Int))))
    (cond (decide (((0 : Int) ≤ i) ∧ (i ≤ (IntKind.wrap IntKind.i64 (i + (64 : Int))))))
      ((sha_Step N h (cut s (Int.toNat i) (Int.toNat (IntKind.wrap IntKind.i64 (i + (64 : Int)))))).bind fun y =>
        rec y (IntKind.wrap IntKind.i64 (i + (64 : Int))))
      (none))
    (none))
  (k0 h)

noncomputable def sha_steps_p1 (N : Nat) (s : (List UInt8)) (h : (List Int)) (x4 : (List Int)) (i : Int) (k0 : (List Int) → Option (List Int)) : Option (List Int) :=
  iter (fun (v : ((List Int) × Int)) r => sha_steps_s1 N s x4 v.1 v.2 (fun h i => (r (h, i))) k0) N (h, i)

noncomputable def g1_13 (N : Nat) (i : ((List UInt8) × (List Int))) (v : ((List Int) × Int)) (r : ((List Int) × Int) → Option (List Int)) (K : Ex → List A → Option (List Int)) : Option (List Int) :=
  sha_steps_s1 N i.1 i.2 v.1 v.2 (fun h i => (r (h, i))) (fun a0 => (K (.exit 0) (mkS [(2, .box (.arr 8 (.int .u32))), (1, .box (.arr 8 (.int .u32)))] 15 (a0, i.2, ()))))

noncomputable def h1_13 (N : Nat) : Hd (List Int) := fun st K => (unS [(1, .v .str), (0, .box (.arr 8 (.int .u32))), (1, .box (.arr 8 (.int .u32))), (0, .v (.int .i64))] 14 (restr [5, 1, 2, 4] 0 st)).bind fun x => iter (fun v r => g1_13 N ((fun x => (x.1, x.2.2.1)) x) v r K) N ((fun x => (x.2.1, x.2.2.2.1)) x)

noncomputable def t1_13 (N : Nat) : Tab (List Int) := []

theorem ok1_13 {N : Nat} {c : Ctx} (hb : Base Tryz.prog (E_13 N) c) : CodeOk Tryz.prog c (nodeAt body_13 [0, 1, 0, 1]) (h1_13 N) :=
  loop_ok (s := [(1, .v .str), (0, .box (.arr 8 (.int .u32))), (1, .box (.arr 8 (.int .u32))), (0, .v (.int .i64))]) (m := 14) (g1_13 N) [5, 1, 2, 4] N (fun x => (x.1, x.2.2.1)) (fun x => (x.2.1, x.2.2.2.1)) (fun i v => (i.1, v.1, i.2, v.2, ())) (fun _ => rfl) (evN_sound hb N (t1_13 N) L_13 body_13 TabOk.nil [0, 0, 1, 0, 1] _ rfl) (fun i v r K => by kernel_rfl)

noncomputable def sha_steps (N : Nat) (h : (List Int)) (s : (List UInt8)) : Option (List Int) :=
  sha_steps_p1 N s h ([(0 : Int), (0 : Int), (0 : Int), (0 : Int), (0 : Int), (0 : Int), (0 : Int), (0 : Int)] : List Int) (0 : Int)
  (fun h1 => some h1)

noncomputable def t_13 (N : Nat) : Tab (List Int) := [([0, 1, 0, 1], h1_13 N)]

theorem link_13 (N : Nat) (x : denS [(0, .v (.arr 8 (.int .u32))), (0, .v .str)]) : evFX (E_13 N) N (t_13 N) L_13 Tryz.f90 (mkS [(0, .v (.arr 8 (.int .u32))), (0, .v .str)] 0 x) (kRes (.v (.arr 8 (.int .u32))) 2) = sha_steps N x.1 x.2.1 := by kernel_rfl

noncomputable def sha_steps_res (N : Nat) : List A → Res := resOf [(0, .v (.arr 8 (.int .u32))), (0, .v .str)] (fun x => sha_steps N x.1 x.2.1) (oRes (.v (.arr 8 (.int .u32))) 2)

theorem sha_steps_ct (N : Nat) : Contract Tryz.prog glob 90 (sha_steps_res N) :=
  Contract.of (E := E_13 N) (H := t_13 N) (L := L_13) (N := N) (body := body_13) (K := (kRes (.v (.arr 8 (.int .u32))) 2)) (Eok_13 N) Tryz.func90 (by kernel_rfl) (by decide) (fun _ hb => (TabOk.cons (ok1_13 hb) TabOk.nil)) (fun x y h => by rw [link_13]; exact h) (kRes_ok (s := (.v (.arr 8 (.int .u32)))) (m := 2))

noncomputable def body_14 : Code := (Tryz.f82.body).getD .skip

noncomputable def L_14 : List (List Nat × List Nat) := [([0, 0], [14, 0, 1]), ([1, 0], [0, 1]), ([0, 1, 0], [0]), ([0, 1], [0, 1]), ([0, 1, 1], [4, 0]), ([0, 1, 1, 1], [0, 4, 5]), ([0, 1, 1, 1, 1], [0, 4, 5]), ([1, 1, 1, 1, 1], [0])]

noncomputable def E_14 (N : Nat) : Env := mkEnv tys glob [(90, sha_steps_res N)] [] [] [0] false [] [(50, hmac_framed1_itr N)]

theorem Eok_14 (N : Nat) : EnvOk Tryz.prog (E_14 N) := mkEnv_ok mixed tys_ok (FnsOk.cons (sha_steps_ct N) (FnsOk.nil)) (ItsOk.cons (hmac_framed1_it N) (ItsOk.nil))

noncomputable def sha_Hash_Add_p1 (N : Nat) (h : DT3) (s : (List UInt8)) (k0 : Option ((Unit) × (DT3 × Unit))) (k1 : Option ((Unit) × (DT3 × Unit))) : Option ((Unit) × (DT3 × Unit)) :=
  cond (!h.1)
  (k0)
  (k1)

noncomputable def g1_14 (N : Nat) (x : denS [(0, .box TT2), (0, .v .str)]) (K : Ex → List A → Option ((Unit) × (DT3 × Unit))) : Option ((Unit) × (DT3 × Unit)) :=
  sha_Hash_Add_p1 N x.1 x.2.1 (K .ret (mkS [(0, .box TT2)] 52 (x.1, ()))) (K .normal (mkS [(0, .box TT2), (0, .v .str)] 51 (x.1, x.2.1, ())))

noncomputable def h1_14 (N : Nat) : Hd ((Unit) × (DT3 × Unit)) := fun st K => (unS [(0, .box TT2), (0, .v .str)] 51 (restr [0, 1] 0 st)).bind fun x => g1_14 N x K

noncomputable def t1_14 (N : Nat) : Tab ((Unit) × (DT3 × Unit)) := []

theorem ok1_14 {N : Nat} {c : Ctx} (hb : Base Tryz.prog (E_14 N) c) : CodeOk Tryz.prog c (nodeAt body_14 [0]) (h1_14 N) :=
  piece_ok (s := [(0, .box TT2), (0, .v .str)]) (m := 51) (g := g1_14 N) [0, 1] (evN_sound hb N (t1_14 N) L_14 body_14 TabOk.nil [0] _ rfl) (fun x K => by kernel_rfl)

noncomputable def sha_Hash_Add (N : Nat) (h : DT3) (s : (List UInt8)) : Option ((Unit) × (DT3 × Unit)) :=
  sha_Hash_Add_p1 N h s
  (some ((), (h, ())))
  (cond (decide (((List.length h.2.2.1) + (List.length s)) ≤ 9223372036854775807))
    (cond (decide (((0 : Int) ≤ (IntKind.wrap IntKind.i64 ((((List.length (h.2.2.1 ++ s)) : Nat) : Int) - (Int.tmod (((List.length (h.2.2.1 ++ s)) : Nat) : Int) (64 : Int))))) ∧ ((IntKind.wrap IntKind.i64 ((((List.length (h.2.2.1 ++ s)) : Nat) : Int) - (Int.tmod (((List.length (h.2.2.1 ++ s)) : Nat) : Int) (64 : Int)))) ≤ (((List.length (h.2.2.1 ++ s)) : Nat) : Int))))
      ((sha_steps N h.2.1 (cut (h.2.2.1 ++ s) 0 (Int.toNat (IntKind.wrap IntKind.i64 ((((List.length (h.2.2.1 ++ s)) : Nat) : Int) - (Int.tmod (((List.length (h.2.2.1 ++ s)) : Nat) : Int) (64 : Int))))))).bind fun y =>
        cond (decide (((0 : Int) ≤ (IntKind.wrap IntKind.i64 ((((List.length (h.2.2.1 ++ s)) : Nat) : Int) - (Int.tmod (((List.length (h.2.2.1 ++ s)) : Nat) : Int) (64 : Int))))) ∧ ((IntKind.wrap IntKind.i64 ((((List.length (h.2.2.1 ++ s)) : Nat) : Int) - (Int.tmod (((List.length (h.2.2.1 ++ s)) : Nat) : Int) (64 : Int)))) ≤ (((List.length (h.2.2.1 ++ s)) : Nat) : Int))))
        (some ((), ((h.1, (y, ((cut (h.2.2.1 ++ s) (Int.toNat (IntKind.wrap IntKind.i64 ((((List.length (h.2.2.1 ++ s)) : Nat) : Int) - (Int.tmod (((List.length (h.2.2.1 ++ s)) : Nat) : Int) (64 : Int))))) (List.length (h.2.2.1 ++ s))), ((IntKind.wrap IntKind.i64 (h.2.2.2.1 + (((List.length s) : Nat) : Int))), h.2.2.2.2)))), ())))
        (none))
      (none))
    (none))

noncomputable def t_14 (N : Nat) : Tab ((Unit) × (DT3 × Unit)) := [([0], h1_14 N)]

theorem link_14 (N : Nat) (x : denS [(0, .box TT2), (0, .v .str)]) : evFX (E_14 N) N (t_14 N) L_14 Tryz.f82 (mkS [(0, .box TT2), (0, .v .str)] 0 x) (kResB (.tup []) [(0, .box TT2)] 1) = sha_Hash_Add N x.1 x.2.1 := by kernel_rfl

noncomputable def sha_Hash_Add_res (N : Nat) : List A → Res := resOf [(0, .box TT2), (0, .v .str)] (fun x => sha_Hash_Add N x.1 x.2.1) (oResB (.tup []) [(0, .box TT2)] 1)

theorem sha_Hash_Add_ct (N : Nat) : Contract Tryz.prog glob 82 (sha_Hash_Add_res N) :=
  Contract.of (E := E_14 N) (H := t_14 N) (L := L_14) (N := N) (body := body_14) (K := (kResB (.tup []) [(0, .box TT2)] 1)) (Eok_14 N) Tryz.func82 (by kernel_rfl) (by decide) (fun _ hb => (TabOk.cons (ok1_14 hb) TabOk.nil)) (fun x y h => by rw [link_14]; exact h) (kResB_ok (s := (.tup [])) (os := [(0, .box TT2)]) (m := 1))

noncomputable def body_15 : Code := (Tryz.f82.body).getD .skip

noncomputable def L_15 : List (List Nat × List Nat) := [([0, 0], [14, 0, 1]), ([1, 0], [0, 1]), ([0, 1, 0], []), ([0, 1], [0, 1]), ([0, 1, 1], [4, 0]), ([0, 1, 1, 1], [0, 4, 5]), ([0, 1, 1, 1, 1], [0, 4, 5]), ([1, 1, 1, 1, 1], [])]

noncomputable def E_15 (N : Nat) : Env := mkEnv tys glob [(90, sha_steps_res N)] [] [] [] false [] [(50, hmac_framed1_itr N)]

theorem Eok_15 (N : Nat) : EnvOk Tryz.prog (E_15 N) := mkEnv_ok mixed tys_ok (FnsOk.cons (sha_steps_ct N) (FnsOk.nil)) (ItsOk.cons (hmac_framed1_it N) (ItsOk.nil))

noncomputable def sha_Hash_Add_nil_p1 (N : Nat) (s : (List UInt8)) (k0 : Option (Unit)) : Option (Unit) :=
  k0

noncomputable def g1_15 (N : Nat) (x : denS [(0, .nilp), (0, .v .str)]) (K : Ex → List A → Option (Unit)) : Option (Unit) :=
  sha_Hash_Add_nil_p1 N x.2.1 (K .ret (mkS [] 53 ()))

noncomputable def h1_15 (N : Nat) : Hd (Unit) := fun st K => (unS [(0, .nilp), (0, .v .str)] 51 (restr [0, 1] 0 st)).bind fun x => g1_15 N x K

noncomputable def t1_15 (N : Nat) : Tab (Unit) := []

theorem ok1_15 {N : Nat} {c : Ctx} (hb : Base Tryz.prog (E_15 N) c) : CodeOk Tryz.prog c (nodeAt body_15 [0]) (h1_15 N) :=
  piece_ok (s := [(0, .nilp), (0, .v .str)]) (m := 51) (g := g1_15 N) [0, 1] (evN_sound hb N (t1_15 N) L_15 body_15 TabOk.nil [0] _ rfl) (fun x K => by kernel_rfl)

noncomputable def sha_Hash_Add_nil (N : Nat) (s : (List UInt8)) : Option (Unit) :=
  sha_Hash_Add_nil_p1 N s
  (some ())

noncomputable def t_15 (N : Nat) : Tab (Unit) := [([0], h1_15 N)]

theorem link_15 (N : Nat) (x : denS [(0, .nilp), (0, .v .str)]) : evFX (E_15 N) N (t_15 N) L_15 Tryz.f82 (mkS [(0, .nilp), (0, .v .str)] 0 x) (kRes (.tup []) 2) = sha_Hash_Add_nil N x.2.1 := by kernel_rfl

noncomputable def sha_Hash_Add_nil_res (N : Nat) : List A → Res := resOf [(0, .nilp), (0, .v .str)] (fun x => sha_Hash_Add_nil N x.2.1) (oRes (.tup []) 2)

theorem sha_Hash_Add_nil_ct (N : Nat) : Contract Tryz.prog glob 82 (sha_Hash_Add_nil_res N) :=
  Contract.of (E := E_15 N) (H := t_15 N) (L := L_15) (N := N) (body := body_15) (K := (kRes (.tup []) 2)) (Eok_15 N) Tryz.func82 (by kernel_rfl) (by decide) (fun _ hb => (TabOk.cons (ok1_15 hb) TabOk.nil)) (fun x y h => by rw [link_15]; exact h) (kRes_ok (s := (.tup [])) (m := 2))

noncomputable def sha_Hash_Add_nil_all (N : Nat) : List A → Res := resAlt [(0, .nilp), (0, .v .str)] (fun x => sha_Hash_Add_nil N x.2.1) (oRes (.tup []) 2) (sha_Hash_Add_res N)

theorem sha_Hash_Add_nil_allct (N : Nat) : Contract Tryz.prog glob 82 (sha_Hash_Add_nil_all N) := Contract.alt (sha_Hash_Add_nil_ct N) (sha_Hash_Add_ct N)

noncomputable def body_16 : Code := (Tryz.f66.body).getD .skip

noncomputable def L_16 : List (List Nat × List Nat) := [([0], [1, 0]), ([0, 1], [1, 0]), ([0, 0, 1, 1], [10, 0, 1]), ([1, 0, 1, 1], [0, 1]), ([0, 0, 1, 0, 1, 1], [4]), ([1, 0, 1, 0, 1, 1], [4]), ([0, 1, 1, 1], [4]), ([1, 1, 1, 1], [4])]

noncomputable def E_16 (N : Nat) : Env := mkEnv tys glob [] [] [] [] false [] [(50, hmac_framed1_itr N)]

theorem Eok_16 (N : Nat) : EnvOk Tryz.prog (E_16 N) := mkEnv_ok mixed tys_ok (FnsOk.nil) (ItsOk.cons (hmac_framed1_it N) (ItsOk.nil))

noncomputable def octet_Pad (N : Nat) (s : (List UInt8)) (n : Int) : Option (List UInt8) :=
  cond (decide ((if ((65536 : Int) < n) then (65536 : Int) else n) ≤ (((List.length s) : Nat) : Int)))
  (some s)
  (cond (decide (((0 : Int) ≤ (IntKind.wrap IntKind.i64 ((if ((65536 : Int) < n) then (65536 : Int) else n) - (((List.length s) : Nat) : Int)))) ∧ (((IntKind.wrap IntKind.i64 ((if ((65536 : Int) < n) then (65536 : Int) else n) - (((List.length s) : Nat) : Int))) ≤ (IntKind.wrap IntKind.i64 ((if ((65536 : Int) < n) then (65536 : Int) else n) - (((List.length s) : Nat) : Int)))) ∧ ((((IntKind.wrap IntKind.i64 ((if ((65536 : Int) < n) then (65536 : Int) else n) - (((List.length s) : Nat) : Int))) * (1 : Int)) ≤ (281474976710656 : Int)) ∧ ((IntKind.wrap IntKind.i64 ((if ((65536 : Int) < n) then (65536 : Int) else n) - (((List.length s) : Nat) : Int))) ≤ (9223372036854775807 : Int))))))
    (cond (decide (((List.length s) + (List.length (toStr (List.replicate (Int.toNat (IntKind.wrap IntKind.i64 ((if ((65536 : Int) < n) then (65536 : Int) else n) - (((List.length s) : Nat) : Int)))) (0 : Int))))) ≤ 9223372036854775807))
      (some (s ++ (toStr (List.replicate (Int.toNat (IntKind.wrap IntKind.i64 ((if ((65536 : Int) < n) then (65536 : Int) else n) - (((List.length s) : Nat) : Int)))) (0 : Int)))))
      (none))
    (none))

noncomputable def t_16 (N : Nat) : Tab (List UInt8) := []

theorem link_16 (N : Nat) (x : denS [(0, .v .str), (0, .v (.int .i64))]) : evFX (E_16 N) N (t_16 N) L_16 Tryz.f66 (mkS [(0, .v .str), (0, .v (.int .i64))] 0 x) (kRes (.v .str) 2) = octet_Pad N x.1 x.2.1 := by kernel_rfl

noncomputable def octet_Pad_res (N : Nat) : List A → Res := resOf [(0, .v .str), (0, .v (.int .i64))] (fun x => octet_Pad N x.1 x.2.1) (oRes (.v .str) 2)

theorem octet_Pad_ct (N : Nat) : Contract Tryz.prog glob 66 (octet_Pad_res N) :=
  Contract.of (E := E_16 N) (H := t_16 N) (L := L_16) (N := N) (body := body_16) (K := (kRes (.v .str) 2)) (Eok_16 N) Tryz.func66 (by kernel_rfl) (by decide) (fun _ hb => TabOk.nil) (fun x y h => by rw [link_16]; exact h) (kRes_ok (s := (.v .str)) (m := 2))

noncomputable def body_17 : Code := (Tryz.f98.body).getD .skip

noncomputable def L_17 : List (List Nat × List Nat) := [([0], [1, 0]), ([0, 1], [1, 5, 0]), ([0, 0, 1, 1], [10, 9, 5, 0, 1]), ([0, 1, 0, 1, 1], [10, 9, 5, 0, 1]), ([0, 0, 0, 1, 0, 1, 1], [11, 10, 5, 0, 1, 9]), ([0, 1, 0, 0, 1, 0, 1, 1], [10, 5, 0, 1, 9]), ([1, 0, 1, 0, 0, 1, 0, 1, 1], [5]), ([0, 0, 0, 1, 1, 0, 0, 1, 0, 1, 1], [5, 6, 0, 1, 10, 9]), ([1, 0, 0, 1, 1, 0, 0, 1, 0, 1, 1], [10, 9, 5, 0, 1]), ([0, 1, 1, 0, 0, 1, 0, 1, 1], [10, 9, 5, 0, 1]), ([1, 1, 1, 0, 0, 1, 0, 1, 1], [10, 9, 5, 0, 1]), ([1, 0, 1, 1], [5]), ([0, 1, 1, 1], [4]), ([1, 1, 1, 1], [4])]

noncomputable def E_17 (N : Nat) : Env := mkEnv tys glob [] [(5, (.int .u8))] [] [] false [] [(50, hmac_framed1_itr N)]

theorem Eok_17 (N : Nat) : EnvOk Tryz.prog (E_17 N) := mkEnv_ok mixed tys_ok (FnsOk.nil) (ItsOk.cons (hmac_framed1_it N) (ItsOk.nil))

noncomputable def sha_bigEndian_s1 (N : Nat) (n : Int) (size : Int) (x9 : Int) (out : (List Int)) (x10 : Int) (rec : (List Int) → Int → Option (List UInt8)) (k0 : (List Int) → Option (List UInt8)) : Option (List UInt8) :=
  cond (decide (x10 < x9))
  (cond (decide ((0 : Int) ≤ (IntKind.wrap IntKind.i64 ((8 : Int) * (IntKind.wrap IntKind.i64 ((IntKind.wrap IntKind.i64 (size - (1 : Int))) - x10))))))
    (cond (inR x10 (List.length out))
      (cond (decide ((Int.toNat x10) < (List.length out)))
        (rec (List.set out (Int.toNat x10) (IntKind.wrap IntKind.u8 (shrI IntKind.u64 n (IntKind.wrap IntKind.i64 ((8 : Int) * (IntKind.wrap IntKind.i64 ((IntKind.wrap IntKind.i64 (size - (1 : Int))) - x10))))))) (IntKind.wrap IntKind.i64 (x10 + (1 : Int))))
        (none))
      (none))
    (none))
  (k0 out)

noncomputable def sha_bigEndian_p1 (N : Nat) (n : Int) (size : Int) (out : (List Int)) (x9 : Int) (x10 : Int) (k0 : (List Int) → Option (List UInt8)) : Option (List UInt8) :=
  iter (fun (v : ((List Int) × Int)) r => sha_bigEndian_s1 N n size x9 v.1 v.2 (fun out x10 => (r (out, x10))) k0) N (out, x10)

noncomputable def g1_17 (N : Nat) (i : (Int × Int × Int)) (v : ((List Int) × Int)) (r : ((List Int) × Int) → Option (List UInt8)) (K : Ex → List A → Option (List UInt8)) : Option (List UInt8) :=
  sha_bigEndian_s1 N i.1 i.2.1 i.2.2 v.1 v.2 (fun out x10 => (r (out, x10))) (fun a0 => (K (.exit 0) (mkS [(5, .row (.int .u8))] 21 (a0, ()))))

noncomputable def h1_17 (N : Nat) : Hd (List UInt8) := fun st K => (unS [(0, .v (.int .u64)), (0, .v (.int .i64)), (3, .row (.int .u8)), (3, .v (.int .i64)), (0, .v (.int .i64))] 16 (restr [10, 9, 5, 0, 1] 0 st)).bind fun x => iter (fun v r => g1_17 N ((fun x => (x.1, x.2.1, x.2.2.2.1)) x) v r K) N ((fun x => (x.2.2.1, x.2.2.2.2.1)) x)

noncomputable def t1_17 (N : Nat) : Tab (List UInt8) := []

theorem ok1_17 {N : Nat} {c : Ctx} (hb : Base Tryz.prog (E_17 N) c) : CodeOk Tryz.prog c (nodeAt body_17 [0, 1, 0, 1, 1]) (h1_17 N) :=
  loop_ok (s := [(0, .v (.int .u64)), (0, .v (.int .i64)), (3, .row (.int .u8)), (3, .v (.int .i64)), (0, .v (.int .i64))]) (m := 16) (g1_17 N) [10, 9, 5, 0, 1] N (fun x => (x.1, x.2.1, x.2.2.2.1)) (fun x => (x.2.2.1, x.2.2.2.2.1)) (fun i v => (i.1, i.2.1, v.1, i.2.2, v.2, ())) (fun _ => rfl) (evN_sound hb N (t1_17 N) L_17 body_17 TabOk.nil [0, 0, 1, 0, 1, 1] _ rfl) (fun i v r K => by kernel_rfl)

noncomputable def sha_bigEndian (N : Nat) (n : Int) (size : Int) : Option (List UInt8) :=
  cond (decide (((0 : Int) ≤ size) ∧ ((size ≤ size) ∧ (((size * (1 : Int)) ≤ (281474976710656 : Int)) ∧ (size ≤ (9223372036854775807 : Int))))))
  (sha_bigEndian_p1 N n size (List.replicate (Int.toNat size) (0 : Int)) size (0 : Int)
    (fun out => some (toStr out)))
  (none)

noncomputable def t_17 (N : Nat) : Tab (List UInt8) := [([0, 1, 0, 1, 1], h1_17 N)]

theorem link_17 (N : Nat) (x : denS [(0, .v (.int .u64)), (0, .v (.int .i64))]) : evFX (E_17 N) N (t_17 N) L_17 Tryz.f98 (mkS [(0, .v (.int .u64)), (0, .v (.int .i64))] 0 x) (kRes (.v .str) 2) = sha_bigEndian N x.1 x.2.1 := by kernel_rfl

noncomputable def sha_bigEndian_res (N : Nat) : List A → Res := resOf [(0, .v (.int .u64)), (0, .v (.int .i64))] (fun x => sha_bigEndian N x.1 x.2.1) (oRes (.v .str) 2)

theorem sha_bigEndian_ct (N : Nat) : Contract Tryz.prog glob 98 (sha_bigEndian_res N) :=
  Contract.of (E := E_17 N) (H := t_17 N) (L := L_17) (N := N) (body := body_17) (K := (kRes (.v .str) 2)) (Eok_17 N) Tryz.func98 (by kernel_rfl) (by decide) (fun _ hb => (TabOk.cons (ok1_17 hb) TabOk.nil)) (fun x y h => by rw [link_17]; exact h) (kRes_ok (s := (.v .str)) (m := 2))

noncomputable def body_18 : Code := (Tryz.f92.body).getD .skip

noncomputable def L_18 : List (List Nat × List Nat) := [([0], [0]), ([0, 1], [3, 0]), ([0, 1, 1], [2]), ([1, 1, 1], [2])]

noncomputable def E_18 (N : Nat) : Env := mkEnv tys glob [(98, sha_bigEndian_res N), (66, octet_Pad_res N)] [] [] [] false [] [(50, hmac_framed1_itr N)]

theorem Eok_18 (N : Nat) : EnvOk Tryz.prog (E_18 N) := mkEnv_ok mixed tys_ok (FnsOk.cons (sha_bigEndian_ct N) (FnsOk.cons (octet_Pad_ct N) (FnsOk.nil))) (ItsOk.cons (hmac_framed1_it N) (ItsOk.nil))

noncomputable def sha_tail (N : Nat) (n : Int) : Option (List UInt8) :=
  (octet_Pad N ([(128 : UInt8)] : List UInt8) (IntKind.wrap IntKind.i64 ((1 : Int) + (Int.tmod (IntKind.wrap IntKind.i64 ((119 : Int) - (Int.tmod n (64 : Int)))) (64 : Int))))).bind fun y =>
  (sha_bigEndian N (IntKind.wrap IntKind.u64 ((8 : Int) * (IntKind.wrap IntKind.u64 n))) (8 : Int)).bind fun y1 =>
  cond (decide (((List.length y) + (List.length y1)) ≤ 9223372036854775807))
  (some (y ++ y1))
  (none)

noncomputable def t_18 (N : Nat) : Tab (List UInt8) := []

theorem link_18 (N : Nat) (x : denS [(0, .v (.int .i64))]) : evFX (E_18 N) N (t_18 N) L_18 Tryz.f92 (mkS [(0, .v (.int .i64))] 0 x) (kRes (.v .str) 1) = sha_tail N x.1 := by kernel_rfl

noncomputable def sha_tail_res (N : Nat) : List A → Res := resOf [(0, .v (.int .i64))] (fun x => sha_tail N x.1) (oRes (.v .str) 1)

theorem sha_tail_ct (N : Nat) : Contract Tryz.prog glob 92 (sha_tail_res N) :=
  Contract.of (E := E_18 N) (H := t_18 N) (L := L_18) (N := N) (body := body_18) (K := (kRes (.v .str) 1)) (Eok_18 N) Tryz.func92 (by kernel_rfl) (by decide) (fun _ hb => TabOk.nil) (fun x y h => by rw [link_18]; exact h) (kRes_ok (s := (.v .str)) (m := 1))

noncomputable def body_19 : Code := (Tryz.f91.body).getD .skip

noncomputable def L_19 : List (List Nat × List Nat) := [([0], [1]), ([0, 1], [1, 3]), ([0, 0, 1, 1], [7, 6, 3]), ([0, 1, 0, 1, 1], [7, 6, 3]), ([0, 0, 0, 1, 0, 1, 1], [8, 6, 7, 3]), ([0, 1, 0, 0, 1, 0, 1, 1], [6, 7, 3]), ([1, 0, 1, 0, 0, 1, 0, 1, 1], [3]), ([0, 0, 0, 1, 1, 0, 0, 1, 0, 1, 1], [3, 5, 7, 6]), ([1, 0, 0, 1, 1, 0, 0, 1, 0, 1, 1], [7, 6, 3]), ([0, 1, 1, 0, 0, 1, 0, 1, 1], [7, 6, 3]), ([1, 1, 1, 0, 0, 1, 0, 1, 1], [7, 6, 3]), ([1, 0, 1, 1], [3]), ([0, 1, 1, 1], [2]), ([1, 1, 1, 1], [2])]

noncomputable def E_19 (N : Nat) : Env := mkEnv tys glob [(98, sha_bigEndian_res N)] [] [] [] false [] [(50, hmac_framed1_itr N)]

theorem Eok_19 (N : Nat) : EnvOk Tryz.prog (E_19 N) := mkEnv_ok mixed tys_ok (FnsOk.cons (sha_bigEndian_ct N) (FnsOk.nil)) (ItsOk.cons (hmac_framed1_it N) (ItsOk.nil))

noncomputable def sha_Tell_s1 (N : Nat) (x6 : (List Int)) (out : (List UInt8)) (x7 : Int) (rec : (List UInt8) → Int → Option (List UInt8)) (k0 : (List UInt8) → Option (List UInt8)) : Option (List UInt8) :=
  cond (decide (x7 < (8 : Int)))
  (cond (inR x7 8)
    ((sha_bigEndian N (IntKind.wrap IntKind.u64 (List.getD x6 (Int.toNat x7) (0 : Int))) (4 : Int)).bind fun y =>
      cond (decide (((List.length out) + (List.length y)) ≤ 9223372036854775807))
      (rec (out ++ y) (IntKind.wrap IntKind.i64 (x7 + (1 : Int))))
      (none))
    (none))
  (k0 out)

noncomputable def sha_Tell_p1 (N : Nat) (out : (List UInt8)) (x6 : (List Int)) (x7 : Int) (k0 : (List UInt8) → Option (List UInt8)) : Option (List UInt8) :=
  iter (fun (v : ((List UInt8) × Int)) r => sha_Tell_s1 N x6 v.1 v.2 (fun out x7 => (r (out, x7))) k0) N (out, x7)

noncomputable def g1_19 (N : Nat) (i : (List Int)) (v : ((List UInt8) × Int)) (r : ((List UInt8) × Int) → Option (List UInt8)) (K : Ex → List A → Option (List UInt8)) : Option (List UInt8) :=
  sha_Tell_s1 N i v.1 v.2 (fun out x7 => (r (out, x7))) (fun a0 => (K (.exit 0) (mkS [(3, .v .str)] 13 (a0, ()))))

noncomputable def h1_19 (N : Nat) : Hd (List UInt8) := fun st K => (unS [(3, .v .str), (2, .v (.arr 8 (.int .u32))), (0, .v (.int .i64))] 9 (restr [7, 6, 3] 0 st)).bind fun x => iter (fun v r => g1_19 N ((fun x => x.2.1) x) v r K) N ((fun x => (x.1, x.2.2.1)) x)

noncomputable def t1_19 (N : Nat) : Tab (List UInt8) := []

theorem ok1_19 {N : Nat} {c : Ctx} (hb : Base Tryz.prog (E_19 N) c) : CodeOk Tryz.prog c (nodeAt body_19 [0, 1, 0, 1, 1]) (h1_19 N) :=
  loop_ok (s := [(3, .v .str), (2, .v (.arr 8 (.int .u32))), (0, .v (.int .i64))]) (m := 9) (g1_19 N) [7, 6, 3] N (fun x => x.2.1) (fun x => (x.1, x.2.2.1)) (fun i v => (v.1, i, v.2, ())) (fun _ => rfl) (evN_sound hb N (t1_19 N) L_19 body_19 TabOk.nil [0, 0, 1, 0, 1, 1] _ rfl) (fun i v r K => by kernel_rfl)

noncomputable def sha_Tell (N : Nat) (h : (List Int)) : Option (List UInt8) :=
  sha_Tell_p1 N ([] : List UInt8) h (0 : Int)
  (fun out => some out)

noncomputable def t_19 (N : Nat) : Tab (List UInt8) := [([0, 1, 0, 1, 1], h1_19 N)]

theorem link_19 (N : Nat) (x : denS [(0, .v (.arr 8 (.int .u32)))]) : evFX (E_19 N) N (t_19 N) L_19 Tryz.f91 (mkS [(0, .v (.arr 8 (.int .u32)))] 0 x) (kRes (.v .str) 1) = sha_Tell N x.1 := by kernel_rfl

noncomputable def sha_Tell_res (N : Nat) : List A → Res := resOf [(0, .v (.arr 8 (.int .u32)))] (fun x => sha_Tell N x.1) (oRes (.v .str) 1)

theorem sha_Tell_ct (N : Nat) : Contract Tryz.prog glob 91 (sha_Tell_res N) :=
  Contract.of (E := E_19 N) (H := t_19 N) (L := L_19) (N := N) (body := body_19) (K := (kRes (.v .str) 1)) (Eok_19 N) Tryz.func91 (by kernel_rfl) (by decide) (fun _ hb => (TabOk.cons (ok1_19 hb) TabOk.nil)) (fun x y h => by rw [link_19]; exact h) (kRes_ok (s := (.v .str)) (m := 1))

noncomputable def body_20 : Code := (Tryz.f83.body).getD .skip

noncomputable def L_20 : List (List Nat × List Nat) := [([0], [0]), ([0, 0, 1], [11, 0]), ([1, 0, 1], [0]), ([0, 0, 1, 0, 1], [2, 0]), ([1, 0, 1, 0, 1], [2, 0]), ([0, 1, 1], [2, 0]), ([1, 1, 1], [2, 0])]

noncomputable def E_20 (N : Nat) : Env := mkEnv tys glob [(91, sha_Tell_res N), (92, sha_tail_res N), (90, sha_steps_res N)] [] [] [0] false [] [(50, hmac_framed1_itr N)]

theorem Eok_20 (N : Nat) : EnvOk Tryz.prog (E_20 N) := mkEnv_ok mixed tys_ok (FnsOk.cons (sha_Tell_ct N) (FnsOk.cons (sha_tail_ct N) (FnsOk.cons (sha_steps_ct N) (FnsOk.nil)))) (ItsOk.cons (hmac_framed1_it N) (ItsOk.nil))

noncomputable def sha_Hash_Sum1_p2 (N : Nat) (h : DT3) (k0 : Bool → Option DT9) : Option DT9 :=
  k0 (!h.1)

noncomputable def g2_20 (N : Nat) (x : denS [(0, .box TT2)]) (K : Ex → List A → Option DT9) : Option DT9 :=
  sha_Hash_Sum1_p2 N x.1 (fun a1 => (K .normal (mkS [(0, .box TT2), (10, .v .bool)] 17 (x.1, a1, ()))))

noncomputable def h2_20 (N : Nat) : Hd DT9 := fun st K => (unS [(0, .box TT2)] 28 (restr [0] 0 st)).bind fun x => g2_20 N x K

noncomputable def t2_20 (N : Nat) : Tab DT9 := []

theorem ok2_20 {N : Nat} {c : Ctx} (hb : Base Tryz.prog (E_20 N) c) : CodeOk Tryz.prog c (nodeAt body_20 [0, 0, 1]) (h2_20 N) :=
  piece_ok (s := [(0, .box TT2)]) (m := 28) (g := g2_20 N) [0] (evN_sound hb N (t2_20 N) L_20 body_20 TabOk.nil [0, 0, 1] _ rfl) (fun x K => by kernel_rfl)

noncomputable def sha_Hash_Sum1_p1 (N : Nat) (h : DT3) (k0 : Option DT9) : Option DT9 :=
  sha_Hash_Sum1_p2 N h
  (fun x11 => cond x11
    (none)
    (k0))

noncomputable def g1_20 (N : Nat) (x : denS [(0, .box TT2)]) (K : Ex → List A → Option DT9) : Option DT9 :=
  sha_Hash_Sum1_p1 N x.1 (K .normal (mkS [(0, .box TT2)] 28 (x.1, ())))

noncomputable def h1_20 (N : Nat) : Hd DT9 := fun st K => (unS [(0, .box TT2)] 28 (restr [0] 0 st)).bind fun x => g1_20 N x K

noncomputable def t1_20 (N : Nat) : Tab DT9 := [([0, 0, 1], h2_20 N)]

theorem ok1_20 {N : Nat} {c : Ctx} (hb : Base Tryz.prog (E_20 N) c) : CodeOk Tryz.prog c (nodeAt body_20 [0, 1]) (h1_20 N) :=
  piece_ok (s := [(0, .box TT2)]) (m := 28) (g := g1_20 N) [0] (evN_sound hb N (t1_20 N) L_20 body_20 (TabOk.cons (ok2_20 hb) TabOk.nil) [0, 1] _ rfl) (fun x K => by kernel_rfl)

noncomputable def sha_Hash_Sum1 (N : Nat) (h : DT3) : Option DT9 :=
  sha_Hash_Sum1_p1 N h
  ((sha_tail N h.2.2.2.1).bind fun y =>
    cond (decide (((List.length h.2.2.1) + (List.length y)) ≤ 9223372036854775807))
    ((sha_steps N h.2.1 (h.2.2.1 ++ y)).bind fun y1 =>
      (sha_Tell N y1).bind fun y2 =>
      some (y2, (h, ())))
    (none))

noncomputable def t_20 (N : Nat) : Tab DT9 := [([0, 1], h1_20 N)]

theorem link_20 (N : Nat) (x : denS [(0, .box TT2)]) : evFX (E_20 N) N (t_20 N) L_20 Tryz.f83 (mkS [(0, .box TT2)] 0 x) (kResB (.v .str) [(0, .box TT2)] 0) = sha_Hash_Sum1 N x.1 := by kernel_rfl

noncomputable def sha_Hash_Sum1_res (N : Nat) : List A → Res := resOf [(0, .box TT2)] (fun x => sha_Hash_Sum1 N x.1) (oResB (.v .str) [(0, .box TT2)] 0)

theorem sha_Hash_Sum1_ct (N : Nat) : Contract Tryz.prog glob 83 (sha_Hash_Sum1_res N) :=
  Contract.of (E := E_20 N) (H := t_20 N) (L := L_20) (N := N) (body := body_20) (K := (kResB (.v .str) [(0, .box TT2)] 0)) (Eok_20 N) Tryz.func83 (by kernel_rfl) (by decide) (fun _ hb => (TabOk.cons (ok1_20 hb) TabOk.nil)) (fun x y h => by rw [link_20]; exact h) (kResB_ok (s := (.v .str)) (os := [(0, .box TT2)]) (m := 0))

noncomputable def body_21 : Code := (Tryz.f65.body).getD .skip

noncomputable def L_21 : List (List Nat × List Nat) := [([0], [0]), ([0, 1], [3, 0]), ([0, 1, 1], [3]), ([0, 1, 1, 1], [2]), ([1, 1, 1, 1], [2])]

noncomputable def E_21 (N : Nat) : Env := mkEnv tys glob [(83, sha_Hash_Sum1_res N), (82, sha_Hash_Add_nil_all N), (81, sha_New_res N)] [] [] [] false [] [(50, hmac_framed1_itr N)]

theorem Eok_21 (N : Nat) : EnvOk Tryz.prog (E_21 N) := mkEnv_ok mixed tys_ok (FnsOk.cons (sha_Hash_Sum1_ct N) (FnsOk.cons (sha_Hash_Add_nil_allct N) (FnsOk.cons (sha_New_ct N) (FnsOk.nil)))) (ItsOk.cons (hmac_framed1_it N) (ItsOk.nil))

noncomputable def sha_Sum (N : Nat) (s : (List UInt8)) : Option (List UInt8) :=
  (sha_Hash_Add N (true, (([(1779033703 : Int), (3144134277 : Int), (1013904242 : Int), (2773480762 : Int), (1359893119 : Int), (2600822924 : Int), (528734635 : Int), (1541459225 : Int)] : List Int), (([] : List UInt8), ((0 : Int), ())))) s).bind fun y =>
  (sha_Hash_Sum1 N y.2.1).bind fun y1 =>
  some y1.1

noncomputable def t_21 (N : Nat) : Tab (List UInt8) := []

theorem link_21 (N : Nat) (x : denS [(0, .v .str)]) : evFX (E_21 N) N (t_21 N) L_21 Tryz.f65 (mkS [(0, .v .str)] 0 x) (kRes (.v .str) 1) = sha_Sum N x.1 := by kernel_rfl

noncomputable def sha_Sum_res (N : Nat) : List A → Res := resOf [(0, .v .str)] (fun x => sha_Sum N x.1) (oRes (.v .str) 1)

theorem sha_Sum_ct (N : Nat) : Contract Tryz.prog glob 65 (sha_Sum_res N) :=
  Contract.of (E := E_21 N) (H := t_21 N) (L := L_21) (N := N) (body := body_21) (K := (kRes (.v .str) 1)) (Eok_21 N) Tryz.func65 (by kernel_rfl) (by decide) (fun _ hb => TabOk.nil) (fun x y h => by rw [link_21]; exact h) (kRes_ok (s := (.v .str)) (m := 1))

noncomputable def body_22 : Code := (Tryz.f83.body).getD .skip

noncomputable def L_22 : List (List Nat × List Nat) := [([0], [0]), ([0, 0, 1], [11, 0]), ([1, 0, 1], [0]), ([0, 0, 1, 0, 1], [2, 0]), ([1, 0, 1, 0, 1], [2, 0]), ([0, 1, 1], [2, 0]), ([1, 1, 1], [2, 0])]

noncomputable def E_22 (N : Nat) : Env := mkEnv tys glob [(65, sha_Sum_res N), (91, sha_Tell_res N), (92, sha_tail_res N), (90, sha_steps_res N)] [] [] [0] false [] [(50, hmac_framed1_itr N)]

theorem Eok_22 (N : Nat) : EnvOk Tryz.prog (E_22 N) := mkEnv_ok mixed tys_ok (FnsOk.cons (sha_Sum_ct N) (FnsOk.cons (sha_Tell_ct N) (FnsOk.cons (sha_tail_ct N) (FnsOk.cons (sha_steps_ct N) (FnsOk.nil))))) (ItsOk.cons (hmac_framed1_it N) (ItsOk.nil))

noncomputable def sha_Hash_Sum_p2 (N : Nat) (h : DT3) (k0 : Bool → Option DT9) : Option DT9 :=
  k0 (!h.1)

noncomputable def g2_22 (N : Nat) (x : denS [(0, .box TT2)]) (K : Ex → List A → Option DT9) : Option DT9 :=
  sha_Hash_Sum_p2 N x.1 (fun a1 => (K .normal (mkS [(0, .box TT2), (10, .v .bool)] 17 (x.1, a1, ()))))

noncomputable def h2_22 (N : Nat) : Hd DT9 := fun st K => (unS [(0, .box TT2)] 28 (restr [0] 0 st)).bind fun x => g2_22 N x K

noncomputable def t2_22 (N : Nat) : Tab DT9 := []

theorem ok2_22 {N : Nat} {c : Ctx} (hb : Base Tryz.prog (E_22 N) c) : CodeOk Tryz.prog c (nodeAt body_22 [0, 0, 1]) (h2_22 N) :=
  piece_ok (s := [(0, .box TT2)]) (m := 28) (g := g2_22 N) [0] (evN_sound hb N (t2_22 N) L_22 body_22 TabOk.nil [0, 0, 1] _ rfl) (fun x K => by kernel_rfl)

noncomputable def sha_Hash_Sum_p1 (N : Nat) (h : DT3) (k0 : (List UInt8) → Option DT9) (k1 : Option DT9) : Option DT9 :=
  sha_Hash_Sum_p2 N h
  (fun x11 => cond x11
    ((sha_Sum N ([] : List UInt8)).bind fun y =>
      k0 y)
    (k1))

noncomputable def g1_22 (N : Nat) (x : denS [(0, .box TT2)]) (K : Ex → List A → Option DT9) : Option DT9 :=
  sha_Hash_Sum_p1 N x.1 (fun a1 => (K .ret (mkS [(0, .box TT2), (1, .v .str)] 26 (x.1, a1, ())))) (K .normal (mkS [(0, .box TT2)] 28 (x.1, ())))

noncomputable def h1_22 (N : Nat) : Hd DT9 := fun st K => (unS [(0, .box TT2)] 28 (restr [0] 0 st)).bind fun x => g1_22 N x K

noncomputable def t1_22 (N : Nat) : Tab DT9 := [([0, 0, 1], h2_22 N)]

theorem ok1_22 {N : Nat} {c : Ctx} (hb : Base Tryz.prog (E_22 N) c) : CodeOk Tryz.prog c (nodeAt body_22 [0, 1]) (h1_22 N) :=
  piece_ok (s := [(0, .box TT2)]) (m := 28) (g := g1_22 N) [0] (evN_sound hb N (t1_22 N) L_22 body_22 (TabOk.cons (ok2_22 hb) TabOk.nil) [0, 1] _ rfl) (fun x K => by kernel_rfl)

noncomputable def sha_Hash_Sum (N : Nat) (h : DT3) : Option DT9 :=
  sha_Hash_Sum_p1 N h
  (fun x2 => some (x2, (h, ())))
  ((sha_tail N h.2.2.2.1).bind fun y =>
    cond (decide (((List.length h.2.2.1) + (List.length y)) ≤ 9223372036854775807))
    ((sha_steps N h.2.1 (h.2.2.1 ++ y)).bind fun y1 =>
      (sha_Tell N y1).bind fun y2 =>
      some (y2, (h, ())))
    (none))

noncomputable def t_22 (N : Nat) : Tab DT9 := [([0, 1], h1_22 N)]

theorem link_22 (N : Nat) (x : denS [(0, .box TT2)]) : evFX (E_22 N) N (t_22 N) L_22 Tryz.f83 (mkS [(0, .box TT2)] 0 x) (kResB (.v .str) [(0, .box TT2)] 0) = sha_Hash_Sum N x.1 := by kernel_rfl

noncomputable def sha_Hash_Sum_res (N : Nat) : List A → Res := resOf [(0, .box TT2)] (fun x => sha_Hash_Sum N x.1) (oResB (.v .str) [(0, .box TT2)] 0)

theorem sha_Hash_Sum_ct (N : Nat) : Contract Tryz.prog glob 83 (sha_Hash_Sum_res N) :=
  Contract.of (E := E_22 N) (H := t_22 N) (L := L_22) (N := N) (body := body_22) (K := (kResB (.v .str) [(0, .box TT2)] 0)) (Eok_22 N) Tryz.func83 (by kernel_rfl) (by decide) (fun _ hb => (TabOk.cons (ok1_22 hb) TabOk.nil)) (fun x y h => by rw [link_22]; exact h) (kResB_ok (s := (.v .str)) (os := [(0, .box TT2)]) (m := 0))

noncomputable def sha_Hash_Sum_all (N : Nat) : List A → Res := resAlt [(0, .box TT2)] (fun x => sha_Hash_Sum N x.1) (oResB (.v .str) [(0, .box TT2)] 0) (sha_Hash_Sum1_res N)

theorem sha_Hash_Sum_allct (N : Nat) : Contract Tryz.prog glob 83 (sha_Hash_Sum_all N) := Contract.alt (sha_Hash_Sum_ct N) (sha_Hash_Sum1_ct N)

noncomputable def body_23 : Code := (Tryz.f83.body).getD .skip

noncomputable def L_23 : List (List Nat × List Nat) := [([0], [0]), ([0, 0, 1], [11, 0]), ([1, 0, 1], [0]), ([0, 0, 1, 0, 1], [2]), ([1, 0, 1, 0, 1], [2]), ([0, 1, 1], [2]), ([1, 1, 1], [2])]

noncomputable def E_23 (N : Nat) : Env := mkEnv tys glob [(65, sha_Sum_res N), (91, sha_Tell_res N), (92, sha_tail_res N), (90, sha_steps_res N)] [] [] [] false [] [(50, hmac_framed1_itr N)]

theorem Eok_23 (N : Nat) : EnvOk Tryz.prog (E_23 N) := mkEnv_ok mixed tys_ok (FnsOk.cons (sha_Sum_ct N) (FnsOk.cons (sha_Tell_ct N) (FnsOk.cons (sha_tail_ct N) (FnsOk.cons (sha_steps_ct N) (FnsOk.nil))))) (ItsOk.cons (hmac_framed1_it N) (ItsOk.nil))

noncomputable def sha_Hash_Sum_nil_p2 (N : Nat) (k0 : Bool → Option (List UInt8)) : Option (List UInt8) :=
  k0 true

noncomputable def g2_23 (N : Nat) (x : denS [(0, .nilp)]) (K : Ex → List A → Option (List UInt8)) : Option (List UInt8) :=
  sha_Hash_Sum_nil_p2 N (fun a0 => (K .normal (mkS [(0, .nilp), (10, .v .bool)] 17 ((), a0, ()))))

noncomputable def h2_23 (N : Nat) : Hd (List UInt8) := fun st K => (unS [(0, .nilp)] 28 (restr [0] 0 st)).bind fun x => g2_23 N x K

noncomputable def t2_23 (N : Nat) : Tab (List UInt8) := []

theorem ok2_23 {N : Nat} {c : Ctx} (hb : Base Tryz.prog (E_23 N) c) : CodeOk Tryz.prog c (nodeAt body_23 [0, 0, 1]) (h2_23 N) :=
  piece_ok (s := [(0, .nilp)]) (m := 28) (g := g2_23 N) [0] (evN_sound hb N (t2_23 N) L_23 body_23 TabOk.nil [0, 0, 1] _ rfl) (fun x K => by kernel_rfl)

noncomputable def sha_Hash_Sum_nil_p1 (N : Nat) (k0 : (List UInt8) → Option (List UInt8)) (k1 : Option (List UInt8)) : Option (List UInt8) :=
  sha_Hash_Sum_nil_p2 N
  (fun x11 => cond x11
    ((sha_Sum N ([] : List UInt8)).bind fun y =>
      k0 y)
    (k1))

noncomputable def g1_23 (N : Nat) (x : denS [(0, .nilp)]) (K : Ex → List A → Option (List UInt8)) : Option (List UInt8) :=
  sha_Hash_Sum_nil_p1 N (fun a0 => (K .ret (mkS [(2, .v .str)] 26 (a0, ())))) (K .normal (mkS [(0, .nilp)] 28 ((), ())))

noncomputable def h1_23 (N : Nat) : Hd (List UInt8) := fun st K => (unS [(0, .nilp)] 28 (restr [0] 0 st)).bind fun x => g1_23 N x K

noncomputable def t1_23 (N : Nat) : Tab (List UInt8) := [([0, 0, 1], h2_23 N)]

theorem ok1_23 {N : Nat} {c : Ctx} (hb : Base Tryz.prog (E_23 N) c) : CodeOk Tryz.prog c (nodeAt body_23 [0, 1]) (h1_23 N) :=
  piece_ok (s := [(0, .nilp)]) (m := 28) (g := g1_23 N) [0] (evN_sound hb N (t1_23 N) L_23 body_23 (TabOk.cons (ok2_23 hb) TabOk.nil) [0, 1] _ rfl) (fun x K => by kernel_rfl)

noncomputable def sha_Hash_Sum_nil (N : Nat) : Option (List UInt8) :=
  sha_Hash_Sum_nil_p1 N
  (fun x2 => some x2)
  (none)

noncomputable def t_23 (N : Nat) : Tab (List UInt8) := [([0, 1], h1_23 N)]

theorem link_23 (N : Nat) (x : denS [(0, .nilp)]) : evFX (E_23 N) N (t_23 N) L_23 Tryz.f83 (mkS [(0, .nilp)] 0 x) (kRes (.v .str) 1) = sha_Hash_Sum_nil N := by kernel_rfl

noncomputable def sha_Hash_Sum_nil_res (N : Nat) : List A → Res := resOf [(0, .nilp)] (fun x => sha_Hash_Sum_nil N) (oRes (.v .str) 1)

theorem sha_Hash_Sum_nil_ct (N : Nat) : Contract Tryz.prog glob 83 (sha_Hash_Sum_nil_res N) :=
  Contract.of (E := E_23 N) (H := t_23 N) (L := L_23) (N := N) (body := body_23) (K := (kRes (.v .str) 1)) (Eok_23 N) Tryz.func83 (by kernel_rfl) (by decide) (fun _ hb => (TabOk.cons (ok1_23 hb) TabOk.nil)) (fun x y h => by rw [link_23]; exact h) (kRes_ok (s := (.v .str)) (m := 1))

noncomputable def sha_Hash_Sum_nil_all (N : Nat) : List A → Res := resAlt [(0, .nilp)] (fun x => sha_Hash_Sum_nil N) (oRes (.v .str) 1) (sha_Hash_Sum_all N)

theorem sha_Hash_Sum_nil_allct (N : Nat) : Contract Tryz.prog glob 83 (sha_Hash_Sum_nil_all N) := Contract.alt (sha_Hash_Sum_nil_ct N) (sha_Hash_Sum_allct N)

noncomputable def body_32 : Code := (Tryz.f47.body).getD .skip

noncomputable def L_32 : List (List Nat × List Nat) := [([0], [0, 1]), ([0, 1], [5, 0, 1]), ([0, 0, 1, 1], [15, 14, 5, 0, 1]), ([0, 1, 0, 1, 1], [15, 14, 5, 0, 1]), ([0, 0, 0, 1, 0, 1, 1], [16, 15, 5, 0, 1, 14]), ([0, 1, 0, 0, 1, 0, 1, 1], [15, 5, 0, 1, 14]), ([1, 0, 1, 0, 0, 1, 0, 1, 1], [5]), ([0, 0, 0, 1, 1, 0, 0, 1, 0, 1, 1], [5, 6, 0, 1, 15, 14]), ([1, 0, 0, 1, 1, 0, 0, 1, 0, 1, 1], [15, 14, 5, 0, 1]), ([0, 1, 1, 0, 0, 1, 0, 1, 1], [15, 14, 5, 0, 1]), ([1, 1, 1, 0, 0, 1, 0, 1, 1], [15, 14, 5, 0, 1]), ([1, 0, 1, 1], [5]), ([0, 1, 1, 1], [4]), ([1, 1, 1, 1], [4])]

noncomputable def E_32 (N : Nat) : Env := mkEnv tys glob [] [(5, (.int .u8))] [] [] false [] [(50, hmac_framed1_itr N)]

theorem Eok_32 (N : Nat) : EnvOk Tryz.prog (E_32 N) := mkEnv_ok mixed tys_ok (FnsOk.nil) (ItsOk.cons (hmac_framed1_it N) (ItsOk.nil))

noncomputable def octet_Xor_s1 (N : Nat) (a : (List UInt8)) (b : (List UInt8)) (x14 : Int) (out : (List Int)) (x15 : Int) (rec : (List Int) → Int → Option (List UInt8)) (k0 : (List Int) → Option (List UInt8)) : Option (List UInt8) :=
  cond (decide (x15 < x14))
  (cond (inR x15 (List.length a))
    (cond (inR x15 (List.length b))
      (cond (inR x15 (List.length out))
        (cond (decide ((Int.toNat x15) < (List.length out)))
          (rec (List.set out (Int.toNat x15) (bitsOp Go.BinOp.xor IntKind.u8 (((UInt8.toNat (List.getD a (Int.toNat x15) (0 : UInt8))) : Nat) : Int) (((UInt8.toNat (List.getD b (Int.toNat x15) (0 : UInt8))) : Nat) : Int))) (IntKind.wrap IntKind.i64 (x15 + (1 : Int))))
          (none))
        (none))
      (none))
    (none))
  (k0 out)

noncomputable def octet_Xor_p1 (N : Nat) (a : (List UInt8)) (b : (List UInt8)) (out : (List Int)) (x14 : Int) (x15 : Int) (k0 : (List Int) → Option (List UInt8)) : Option (List UInt8) :=
  iter (fun (v : ((List Int) × Int)) r => octet_Xor_s1 N a b x14 v.1 v.2 (fun out x15 => (r (out, x15))) k0) N (out, x15)

noncomputable def g1_32 (N : Nat) (i : ((List UInt8) × (List UInt8) × Int)) (v : ((List Int) × Int)) (r : ((List Int) × Int) → Option (List UInt8)) (K : Ex → List A → Option (List UInt8)) : Option (List UInt8) :=
  octet_Xor_s1 N i.1 i.2.1 i.2.2 v.1 v.2 (fun out x15 => (r (out, x15))) (fun a0 => (K (.exit 0) (mkS [(5, .row (.int .u8))] 25 (a0, ()))))

noncomputable def h1_32 (N : Nat) : Hd (List UInt8) := fun st K => (unS [(0, .v .str), (0, .v .str), (3, .row (.int .u8)), (8, .v (.int .i64)), (0, .v (.int .i64))] 15 (restr [15, 14, 5, 0, 1] 0 st)).bind fun x => iter (fun v r => g1_32 N ((fun x => (x.1, x.2.1, x.2.2.2.1)) x) v r K) N ((fun x => (x.2.2.1, x.2.2.2.2.1)) x)

noncomputable def t1_32 (N : Nat) : Tab (List UInt8) := []

theorem ok1_32 {N : Nat} {c : Ctx} (hb : Base Tryz.prog (E_32 N) c) : CodeOk Tryz.prog c (nodeAt body_32 [0, 1, 0, 1, 1]) (h1_32 N) :=
  loop_ok (s := [(0, .v .str), (0, .v .str), (3, .row (.int .u8)), (8, .v (.int .i64)), (0, .v (.int .i64))]) (m := 15) (g1_32 N) [15, 14, 5, 0, 1] N (fun x => (x.1, x.2.1, x.2.2.2.1)) (fun x => (x.2.2.1, x.2.2.2.2.1)) (fun i v => (i.1, i.2.1, v.1, i.2.2, v.2, ())) (fun _ => rfl) (evN_sound hb N (t1_32 N) L_32 body_32 TabOk.nil [0, 0, 1, 0, 1, 1] _ rfl) (fun i v r K => by kernel_rfl)

noncomputable def octet_Xor (N : Nat) (a : (List UInt8)) (b : (List UInt8)) : Option (List UInt8) :=
  cond (decide (((0 : Int) ≤ (if ((((List.length b) : Nat) : Int) < (((List.length a) : Nat) : Int)) then (((List.length b) : Nat) : Int) else (((List.length a) : Nat) : Int))) ∧ (((if ((((List.length b) : Nat) : Int) < (((List.length a) : Nat) : Int)) then (((List.length b) : Nat) : Int) else (((List.length a) : Nat) : Int)) ≤ (if ((((List.length b) : Nat) : Int) < (((List.length a) : Nat) : Int)) then (((List.length b) : Nat) : Int) else (((List.length a) : Nat) : Int))) ∧ ((((if ((((List.length b) : Nat) : Int) < (((List.length a) : Nat) : Int)) then (((List.length b) : Nat) : Int) else (((List.length a) : Nat) : Int)) * (1 : Int)) ≤ (281474976710656 : Int)) ∧ ((if ((((List.length b) : Nat) : Int) < (((List.length a) : Nat) : Int)) then (((List.length b) : Nat) : Int) else (((List.length a) : Nat) : Int)) ≤ (9223372036854775807 : Int))))))
  (octet_Xor_p1 N a b (List.replicate (Int.toNat (if ((((List.length b) : Nat) : Int) < (((List.length a) : Nat) : Int)) then (((List.length b) : Nat) : Int) else (((List.length a) : Nat) : Int))) (0 : Int)) (((List.length (List.replicate (Int.toNat (if ((((List.length b) : Nat) : Int) < (((List.length a) : Nat) : Int)) then (((List.length b) : Nat) : Int) else (((List.length a) : Nat) : Int))) (0 : Int))) : Nat) : Int) (0 : Int)
    (fun out => some (toStr out)))
  (none)

noncomputable def t_32 (N : Nat) : Tab (List UInt8) := [([0, 1, 0, 1, 1], h1_32 N)]

theorem link_32 (N : Nat) (x : denS [(0, .v .str), (0, .v .str)]) : evFX (E_32 N) N (t_32 N) L_32 Tryz.f47 (mkS [(0, .v .str), (0, .v .str)] 0 x) (kRes (.v .str) 2) = octet_Xor N x.1 x.2.1 := by kernel_rfl

noncomputable def octet_Xor_res (N : Nat) : List A → Res := resOf [(0, .v .str), (0, .v .str)] (fun x => octet_Xor N x.1 x.2.1) (oRes (.v .str) 2)

theorem octet_Xor_ct (N : Nat) : Contract Tryz.prog glob 47 (octet_Xor_res N) :=
  Contract.of (E := E_32 N) (H := t_32 N) (L := L_32) (N := N) (body := body_32) (K := (kRes (.v .str) 2)) (Eok_32 N) Tryz.func47 (by kernel_rfl) (by decide) (fun _ hb => (TabOk.cons (ok1_32 hb) TabOk.nil)) (fun x y h => by rw [link_32]; exact h) (kRes_ok (s := (.v .str)) (m := 2))

noncomputable def body_33 : Code := (Tryz.f67.body).getD .skip

noncomputable def L_33 : List (List Nat × List Nat) := [([0], [0, 1, 2]), ([0, 1], [7, 0, 1, 2]), ([0, 1, 1], [7, 2]), ([0, 1, 1, 1], [7]), ([0, 1, 1, 1, 1], [6]), ([1, 1, 1, 1, 1], [6])]

noncomputable def E_33 (N : Nat) : Env := mkEnv tys glob [(47, octet_Xor_res N), (83, sha_Hash_Sum_nil_all N), (82, sha_Hash_Add_nil_all N), (81, sha_New_res N), (84, repeat_res)] [] [] [] false [] [(50, hmac_framed1_itr N)]

theorem Eok_33 (N : Nat) : EnvOk Tryz.prog (E_33 N) := mkEnv_ok mixed tys_ok (FnsOk.cons (octet_Xor_ct N) (FnsOk.cons (sha_Hash_Sum_nil_allct N) (FnsOk.cons (sha_Hash_Add_nil_allct N) (FnsOk.cons (sha_New_ct N) (FnsOk.cons (repeat_ct glob) (FnsOk.nil)))))) (ItsOk.cons (hmac_framed1_it N) (ItsOk.nil))

noncomputable def hmac_keyed (N : Nat) (key : (List UInt8)) (mask : (List UInt8)) (text : (List UInt8)) : Option (List UInt8) :=
  (repeat_F (mask, ((64 : Int), ()))).bind fun y =>
  (octet_Xor N key y).bind fun y1 =>
  (sha_Hash_Add N (true, (([(1779033703 : Int), (3144134277 : Int), (1013904242 : Int), (2773480762 : Int), (1359893119 : Int), (2600822924 : Int), (528734635 : Int), (1541459225 : Int)] : List Int), (([] : List UInt8), ((0 : Int), ())))) y1).bind fun y2 =>
  (sha_Hash_Add N y2.2.1 text).bind fun y3 =>
  (sha_Hash_Sum N y3.2.1).bind fun y4 =>
  some y4.1

noncomputable def t_33 (N : Nat) : Tab (List UInt8) := []

theorem link_33 (N : Nat) (x : denS [(0, .v .str), (0, .v .str), (0, .v .str)]) : evFX (E_33 N) N (t_33 N) L_33 Tryz.f67 (mkS [(0, .v .str), (0, .v .str), (0, .v .str)] 0 x) (kRes (.v .str) 3) = hmac_keyed N x.1 x.2.1 x.2.2.1 := by kernel_rfl

noncomputable def hmac_keyed_res (N : Nat) : List A → Res := resOf [(0, .v .str), (0, .v .str), (0, .v .str)] (fun x => hmac_keyed N x.1 x.2.1 x.2.2.1) (oRes (.v .str) 3)

theorem hmac_keyed_ct (N : Nat) : Contract Tryz.prog glob 67 (hmac_keyed_res N) :=
  Contract.of (E := E_33 N) (H := t_33 N) (L := L_33) (N := N) (body := body_33) (K := (kRes (.v .str) 3)) (Eok_33 N) Tryz.func67 (by kernel_rfl) (by decide) (fun _ hb => TabOk.nil) (fun x y h => by rw [link_33]; exact h) (kRes_ok (s := (.v .str)) (m := 3))

noncomputable def body_34 : Code := (Tryz.f49.body).getD .skip

noncomputable def L_34 : List (List Nat × List Nat) := [([0], [0, 1]), ([0, 0, 1], [8, 0, 1]), ([1, 0, 1], [0, 1]), ([0, 1, 0, 1], [0, 1]), ([0, 1, 1], [0, 1]), ([0, 1, 1, 1], [0, 5]), ([0, 1, 1, 1, 1], [4]), ([1, 1, 1, 1, 1], [4])]

noncomputable def E_34 (N : Nat) : Env := mkEnv tys glob [(67, hmac_keyed_res N), (65, sha_Sum_res N), (66, octet_Pad_res N)] [] [] [] false [] [(50, hmac_framed1_itr N)]

theorem Eok_34 (N : Nat) : EnvOk Tryz.prog (E_34 N) := mkEnv_ok mixed tys_ok (FnsOk.cons (hmac_keyed_ct N) (FnsOk.cons (sha_Sum_ct N) (FnsOk.cons (octet_Pad_ct N) (FnsOk.nil)))) (ItsOk.cons (hmac_framed1_it N) (ItsOk.nil))

noncomputable def hmac_Sum_p1 (N : Nat) (key : (List UInt8)) (text : (List UInt8)) (k0 : (List UInt8) → Option (List UInt8)) : Option (List UInt8) :=
  cond (decide ((64 : Int) < (((List.length key) : Nat) : Int)))
  ((sha_Sum N key).bind fun y =>
    k0 y)
  (k0 key)

noncomputable def g1_34 (N : Nat) (x : denS [(0, .v .str), (0, .v .str)]) (K : Ex → List A → Option (List UInt8)) : Option (List UInt8) :=
  hmac_Sum_p1 N x.1 x.2.1 (fun a0 => (K .normal (mkS [(0, .v .str), (0, .v .str)] 17 (a0, x.2.1, ()))))

noncomputable def h1_34 (N : Nat) : Hd (List UInt8) := fun st K => (unS [(0, .v .str), (0, .v .str)] 17 (restr [0, 1] 0 st)).bind fun x => g1_34 N x K

noncomputable def t1_34 (N : Nat) : Tab (List UInt8) := []

theorem ok1_34 {N : Nat} {c : Ctx} (hb : Base Tryz.prog (E_34 N) c) : CodeOk Tryz.prog c (nodeAt body_34 [0, 1]) (h1_34 N) :=
  piece_ok (s := [(0, .v .str), (0, .v .str)]) (m := 17) (g := g1_34 N) [0, 1] (evN_sound hb N (t1_34 N) L_34 body_34 TabOk.nil [0, 1] _ rfl) (fun x K => by kernel_rfl)

noncomputable def hmac_Sum (N : Nat) (key : (List UInt8)) (text : (List UInt8)) : Option (List UInt8) :=
  hmac_Sum_p1 N key text
  (fun key1 => (octet_Pad N key1 (64 : Int)).bind fun y =>
    (hmac_keyed N y ([(54 : UInt8)] : List UInt8) text).bind fun y1 =>
    (hmac_keyed N y ([(92 : UInt8)] : List UInt8) y1).bind fun y2 =>
    some y2)

noncomputable def t_34 (N : Nat) : Tab (List UInt8) := [([0, 1], h1_34 N)]

theorem link_34 (N : Nat) (x : denS [(0, .v .str), (0, .v .str)]) : evFX (E_34 N) N (t_34 N) L_34 Tryz.f49 (mkS [(0, .v .str), (0, .v .str)] 0 x) (kRes (.v .str) 2) = hmac_Sum N x.1 x.2.1 := by kernel_rfl

noncomputable def hmac_Sum_res (N : Nat) : List A → Res := resOf [(0, .v .str), (0, .v .str)] (fun x => hmac_Sum N x.1 x.2.1) (oRes (.v .str) 2)

theorem hmac_Sum_ct (N : Nat) : Contract Tryz.prog glob 49 (hmac_Sum_res N) :=
  Contract.of (E := E_34 N) (H := t_34 N) (L := L_34) (N := N) (body := body_34) (K := (kRes (.v .str) 2)) (Eok_34 N) Tryz.func49 (by kernel_rfl) (by decide) (fun _ hb => (TabOk.cons (ok1_34 hb) TabOk.nil)) (fun x y h => by rw [link_34]; exact h) (kRes_ok (s := (.v .str)) (m := 2))

noncomputable def body_35 : Code := (Tryz.f42.body).getD .skip

noncomputable def L_35 : List (List Nat × List Nat) := [([0], [0, 1]), ([0, 1], [4]), ([1, 1], [4])]

noncomputable def E_35 (N : Nat) : Env := mkEnv tys glob [(49, hmac_Sum_res N), (15, hmac_Frame_res N)] [] [] [] false [] [(50, hmac_framed1_itr N)]

theorem Eok_35 (N : Nat) : EnvOk Tryz.prog (E_35 N) := mkEnv_ok mixed tys_ok (FnsOk.cons (hmac_Sum_ct N) (FnsOk.cons (hmac_Frame_ct N) (FnsOk.nil))) (ItsOk.cons (hmac_framed1_it N) (ItsOk.nil))

noncomputable def hmac_Parts (N : Nat) (key : (List UInt8)) (parts : (List (List UInt8))) : Option (List UInt8) :=
  (hmac_Frame N parts).bind fun y =>
  (hmac_Sum N key y).bind fun y1 =>
  some y1

noncomputable def t_35 (N : Nat) : Tab (List UInt8) := []

theorem link_35 (N : Nat) (x : denS [(0, .v .str), (0, .v (.sl .str))]) : evFX (E_35 N) N (t_35 N) L_35 Tryz.f42 (mkS [(0, .v .str), (0, .v (.sl .str))] 0 x) (kRes (.v .str) 2) = hmac_Parts N x.1 x.2.1 := by kernel_rfl

noncomputable def hmac_Parts_res (N : Nat) : List A → Res := resOf [(0, .v .str), (0, .v (.sl .str))] (fun x => hmac_Parts N x.1 x.2.1) (oRes (.v .str) 2)

theorem hmac_Parts_ct (N : Nat) : Contract Tryz.prog glob 42 (hmac_Parts_res N) :=
  Contract.of (E := E_35 N) (H := t_35 N) (L := L_35) (N := N) (body := body_35) (K := (kRes (.v .str) 2)) (Eok_35 N) Tryz.func42 (by kernel_rfl) (by decide) (fun _ hb => TabOk.nil) (fun x y h => by rw [link_35]; exact h) (kRes_ok (s := (.v .str)) (m := 2))

noncomputable def body_36 : Code := (Tryz.f30.body).getD .skip

noncomputable def L_36 : List (List Nat × List Nat) := [([0], [0]), ([0, 1], [2]), ([1, 1], [2])]

noncomputable def E_36 (N : Nat) : Env := mkEnv tys glob [(42, hmac_Parts_res N)] [] [] [] false [] [(50, hmac_framed1_itr N)]

theorem Eok_36 (N : Nat) : EnvOk Tryz.prog (E_36 N) := mkEnv_ok mixed tys_ok (FnsOk.cons (hmac_Parts_ct N) (FnsOk.nil)) (ItsOk.cons (hmac_framed1_it N) (ItsOk.nil))

noncomputable def box_hideKey (N : Nat) (key : (List UInt8)) : Option (List UInt8) :=
  (hmac_Parts N key ([([(104 : UInt8), (105 : UInt8), (100 : UInt8), (101 : UInt8)] : List UInt8)] : List (List UInt8))).bind fun y =>
  some y

noncomputable def t_36 (N : Nat) : Tab (List UInt8) := []

theorem link_36 (N : Nat) (x : denS [(0, .v .str)]) : evFX (E_36 N) N (t_36 N) L_36 Tryz.f30 (mkS [(0, .v .str)] 0 x) (kRes (.v .str) 1) = box_hideKey N x.1 := by kernel_rfl

noncomputable def box_hideKey_res (N : Nat) : List A → Res := resOf [(0, .v .str)] (fun x => box_hideKey N x.1) (oRes (.v .str) 1)

theorem box_hideKey_ct (N : Nat) : Contract Tryz.prog glob 30 (box_hideKey_res N) :=
  Contract.of (E := E_36 N) (H := t_36 N) (L := L_36) (N := N) (body := body_36) (K := (kRes (.v .str) 1)) (Eok_36 N) Tryz.func30 (by kernel_rfl) (by decide) (fun _ hb => TabOk.nil) (fun x y h => by rw [link_36]; exact h) (kRes_ok (s := (.v .str)) (m := 1))

noncomputable def body_37 : Code := (Tryz.f88.body).getD .skip

noncomputable def L_37 : List (List Nat × List Nat) := [([0], [0]), ([0, 1], [3, 0]), ([0, 0, 1, 1], [6, 3, 0]), ([0, 1, 0, 1, 1], [6, 3, 0]), ([0, 0, 0, 1, 0, 1, 1], [7, 6, 3, 0]), ([0, 1, 0, 0, 1, 0, 1, 1], [6, 3, 0]), ([1, 0, 1, 0, 0, 1, 0, 1, 1], [3]), ([0, 0, 0, 1, 1, 0, 0, 1, 0, 1, 1], [3, 4, 0, 6]), ([1, 0, 0, 1, 1, 0, 0, 1, 0, 1, 1], [6, 3, 0]), ([0, 1, 1, 0, 0, 1, 0, 1, 1], [6, 3, 0]), ([1, 1, 1, 0, 0, 1, 0, 1, 1], [6, 3, 0]), ([1, 0, 1, 1], [3]), ([0, 1, 1, 1], [2]), ([1, 1, 1, 1], [2])]

noncomputable def E_37 (N : Nat) : Env := mkEnv tys glob [] [(3, (.int .u8))] [] [] false [] [(50, hmac_framed1_itr N)]

theorem Eok_37 (N : Nat) : EnvOk Tryz.prog (E_37 N) := mkEnv_ok mixed tys_ok (FnsOk.nil) (ItsOk.cons (hmac_framed1_it N) (ItsOk.nil))

noncomputable def stream_number_s1 (N : Nat) (n : Int) (out : (List Int)) (x6 : Int) (rec : (List Int) → Int → Option (List UInt8)) (k0 : (List Int) → Option (List UInt8)) : Option (List UInt8) :=
  cond (decide (x6 < (8 : Int)))
  (cond (decide ((0 : Int) ≤ (IntKind.wrap IntKind.i64 ((8 : Int) * (IntKind.wrap IntKind.i64 ((7 : Int) - x6))))))
    (cond (inR x6 (List.length out))
      (cond (decide ((Int.toNat x6) < (List.length out)))
        (rec (List.set out (Int.toNat x6) (IntKind.wrap IntKind.u8 (shrI IntKind.i64 n (IntKind.wrap IntKind.i64 ((8 : Int) * (IntKind.wrap IntKind.i64 ((7 : Int) - x6))))))) (IntKind.wrap IntKind.i64 (x6 + (1 : Int))))
        (none))
      (none))
    (none))
  (k0 out)

noncomputable def stream_number_p1 (N : Nat) (n : Int) (out : (List Int)) (x6 : Int) (k0 : (List Int) → Option (List UInt8)) : Option (List UInt8) :=
  iter (fun (v : ((List Int) × Int)) r => stream_number_s1 N n v.1 v.2 (fun out x6 => (r (out, x6))) k0) N (out, x6)

noncomputable def g1_37 (N : Nat) (i : Int) (v : ((List Int) × Int)) (r : ((List Int) × Int) → Option (List UInt8)) (K : Ex → List A → Option (List UInt8)) : Option (List UInt8) :=
  stream_number_s1 N i v.1 v.2 (fun out x6 => (r (out, x6))) (fun a0 => (K (.exit 0) (mkS [(3, .row (.int .u8))] 17 (a0, ()))))

noncomputable def h1_37 (N : Nat) : Hd (List UInt8) := fun st K => (unS [(0, .v (.int .i64)), (2, .row (.int .u8)), (2, .v (.int .i64))] 14 (restr [6, 3, 0] 0 st)).bind fun x => iter (fun v r => g1_37 N ((fun x => x.1) x) v r K) N ((fun x => (x.2.1, x.2.2.1)) x)

noncomputable def t1_37 (N : Nat) : Tab (List UInt8) := []

theorem ok1_37 {N : Nat} {c : Ctx} (hb : Base Tryz.prog (E_37 N) c) : CodeOk Tryz.prog c (nodeAt body_37 [0, 1, 0, 1, 1]) (h1_37 N) :=
  loop_ok (s := [(0, .v (.int .i64)), (2, .row (.int .u8)), (2, .v (.int .i64))]) (m := 14) (g1_37 N) [6, 3, 0] N (fun x => x.1) (fun x => (x.2.1, x.2.2.1)) (fun i v => (i, v.1, v.2, ())) (fun _ => rfl) (evN_sound hb N (t1_37 N) L_37 body_37 TabOk.nil [0, 0, 1, 0, 1, 1] _ rfl) (fun i v r K => by kernel_rfl)

noncomputable def stream_number (N : Nat) (n : Int) : Option (List UInt8) :=
  stream_number_p1 N n ([(0 : Int), (0 : Int), (0 : Int), (0 : Int), (0 : Int), (0 : Int), (0 : Int), (0 : Int)] : List Int) (0 : Int)
  (fun out => some (toStr out))

noncomputable def t_37 (N : Nat) : Tab (List UInt8) := [([0, 1, 0, 1, 1], h1_37 N)]

theorem link_37 (N : Nat) (x : denS [(0, .v (.int .i64))]) : evFX (E_37 N) N (t_37 N) L_37 Tryz.f88 (mkS [(0, .v (.int .i64))] 0 x) (kRes (.v .str) 1) = stream_number N x.1 := by kernel_rfl

noncomputable def stream_number_res (N : Nat) : List A → Res := resOf [(0, .v (.int .i64))] (fun x => stream_number N x.1) (oRes (.v .str) 1)

theorem stream_number_ct (N : Nat) : Contract Tryz.prog glob 88 (stream_number_res N) :=
  Contract.of (E := E_37 N) (H := t_37 N) (L := L_37) (N := N) (body := body_37) (K := (kRes (.v .str) 1)) (Eok_37 N) Tryz.func88 (by kernel_rfl) (by decide) (fun _ hb => (TabOk.cons (ok1_37 hb) TabOk.nil)) (fun x y h => by rw [link_37]; exact h) (kRes_ok (s := (.v .str)) (m := 1))

noncomputable def body_38 : Code := (Tryz.f80.body).getD .skip

noncomputable def L_38 : List (List Nat × List Nat) := [([0], [2, 0, 1]), ([0, 0, 1], [8, 0, 1, 2]), ([1, 0, 1], [0, 1, 2]), ([0, 0, 1, 0, 1], [6]), ([1, 0, 1, 0, 1], [6]), ([0, 1, 1], [6]), ([1, 1, 1], [6])]

noncomputable def E_38 (N : Nat) : Env := mkEnv tys glob [(88, stream_number_res N), (42, hmac_Parts_res N)] [] [] [] false [] [(50, hmac_framed1_itr N)]

theorem Eok_38 (N : Nat) : EnvOk Tryz.prog (E_38 N) := mkEnv_ok mixed tys_ok (FnsOk.cons (stream_number_ct N) (FnsOk.cons (hmac_Parts_ct N) (FnsOk.nil))) (ItsOk.cons (hmac_framed1_it N) (ItsOk.nil))

noncomputable def stream_Block (N : Nat) (key : (List UInt8)) (nonce : (List UInt8)) (i : Int) : Option (List UInt8) :=
  cond (decide (i < (0 : Int)))
  (some ([] : List UInt8))
  ((stream_number N i).bind fun y =>
    (hmac_Parts N key ([([(115 : UInt8), (116 : UInt8), (114 : UInt8), (101 : UInt8), (97 : UInt8), (109 : UInt8)] : List UInt8), nonce, y] : List (List UInt8))).bind fun y1 =>
    some y1)

noncomputable def t_38 (N : Nat) : Tab (List UInt8) := []

theorem link_38 (N : Nat) (x : denS [(0, .v .str), (0, .v .str), (0, .v (.int .i64))]) : evFX (E_38 N) N (t_38 N) L_38 Tryz.f80 (mkS [(0, .v .str), (0, .v .str), (0, .v (.int .i64))] 0 x) (kRes (.v .str) 3) = stream_Block N x.1 x.2.1 x.2.2.1 := by kernel_rfl

noncomputable def stream_Block_res (N : Nat) : List A → Res := resOf [(0, .v .str), (0, .v .str), (0, .v (.int .i64))] (fun x => stream_Block N x.1 x.2.1 x.2.2.1) (oRes (.v .str) 3)

theorem stream_Block_ct (N : Nat) : Contract Tryz.prog glob 80 (stream_Block_res N) :=
  Contract.of (E := E_38 N) (H := t_38 N) (L := L_38) (N := N) (body := body_38) (K := (kRes (.v .str) 3)) (Eok_38 N) Tryz.func80 (by kernel_rfl) (by decide) (fun _ hb => TabOk.nil) (fun x y h => by rw [link_38]; exact h) (kRes_ok (s := (.v .str)) (m := 3))

noncomputable def body_39 : Code := (Tryz.f79.body).getD .skip

noncomputable def L_39 : List (List Nat × List Nat) := [([0], [10, 9, 0, 2, 3]), ([0, 1], [10, 9, 0, 2, 3]), ([0, 0, 0, 1], [11, 10, 0, 2, 3, 9]), ([0, 1, 0, 0, 1], [10, 0, 2, 3, 9]), ([1, 0, 1, 0, 0, 1], [0]), ([0, 0, 0, 1, 1, 0, 0, 1], [0, 2, 3, 5, 10, 9]), ([0, 1, 0, 0, 1, 1, 0, 0, 1], [19, 0, 10, 9, 2, 3]), ([1, 1, 0, 0, 1, 1, 0, 0, 1], [10, 9, 0, 2, 3]), ([0, 1, 1, 0, 0, 1, 1, 0, 0, 1], [0]), ([0, 1, 1, 0, 0, 1], [10, 9, 0, 2, 3]), ([1, 1, 1, 0, 0, 1], [10, 9, 0, 2, 3]), ([1], [0])]

noncomputable def E_39 (N : Nat) : Env := mkEnv tys glob [(80, stream_Block_res N)] [] [] [0] false [] []

theorem Eok_39 (N : Nat) : EnvOk Tryz.prog (E_39 N) := mkEnv_ok mixed tys_ok (FnsOk.cons (stream_Block_ct N) (FnsOk.nil)) ItsOk.nil

noncomputable def stream_blocks1_s1 (N : Nat) (x2 : (List UInt8)) (x3 : (List UInt8)) (x9 : Int) (x10 : Int) (rec : Int → Option (List DT4)) (k0 : Option (List DT4)) (k1 : Option (List DT4)) : Option (List DT4) :=
  cond (decide (x10 < x9))
  ((stream_Block N x2 x3 x10).bind fun y =>
    comb (y, ())
    (rec (IntKind.wrap IntKind.i64 (x10 + (1 : Int))))
    (k0))
  (k1)

noncomputable def stream_blocks1_p1 (N : Nat) (x2 : (List UInt8)) (x3 : (List UInt8)) (x9 : Int) (x10 : Int) (k0 : Option (List DT4)) (k1 : Option (List DT4)) : Option (List DT4) :=
  iter (fun (v : Int) r => stream_blocks1_s1 N x2 x3 x9 v (fun x10 => (r x10)) k0 k1) N x10

noncomputable def g1_39 (N : Nat) (i : ((List UInt8) × (List UInt8) × Int)) (v : Int) (r : Int → Option (List DT4)) (K : Ex → List A → Option (List DT4)) : Option (List DT4) :=
  stream_blocks1_s1 N i.1 i.2.1 i.2.2 v (fun x10 => (r x10)) (K .ret (mkS [(0, .yld)] 20 ((), ()))) (K (.exit 0) (mkS [(0, .yld)] 20 ((), ())))

noncomputable def h1_39 (N : Nat) : Hd (List DT4) := fun st K => (unS [(0, .yld), (1, .v (.ptr .str)), (0, .v (.ptr .str)), (5, .v (.int .i64)), (0, .v (.int .i64))] 10 (restr [10, 9, 0, 2, 3] 0 st)).bind fun x => iter (fun v r => g1_39 N ((fun x => (x.2.1, x.2.2.1, x.2.2.2.1)) x) v r K) N ((fun x => x.2.2.2.2.1) x)

noncomputable def t1_39 (N : Nat) : Tab (List DT4) := []

theorem ok1_39 {N : Nat} {G : GY [.str]} (hG : RestrOk G) (hev : EvOk G Tryz.prog (E_39 N) N L_39 body_39) : YOk G Tryz.prog (nodeAt body_39 [0, 1]) (h1_39 N) :=
  loopY_ok hG (s := [(0, .yld), (1, .v (.ptr .str)), (0, .v (.ptr .str)), (5, .v (.int .i64)), (0, .v (.int .i64))]) (m := 10) (g1_39 N) [10, 9, 0, 2, 3] N (fun x => (x.2.1, x.2.2.1, x.2.2.2.1)) (fun x => x.2.2.2.2.1) (fun i v => ((), i.1, i.2.1, i.2.2, v, ())) (fun _ => rfl) (hev (t1_39 N) TabOkY.nil [0, 0, 1]) (fun i v r K => by kernel_rfl)

noncomputable def stream_blocks1 (N : Nat) (x1 : Int) (x2 : (List UInt8)) (x3 : (List UInt8)) : Option (List DT4) :=
  stream_blocks1_p1 N x2 x3 (IntKind.wrap IntKind.i64 (Int.tdiv (IntKind.wrap IntKind.i64 ((IntKind.wrap IntKind.i64 (x1 + (32 : Int))) - (1 : Int))) (32 : Int))) (0 : Int)
  (some ([] : List DT4))
  (some ([] : List DT4))

noncomputable def t_39 (N : Nat) : Tab (List DT4) := [([0, 1], h1_39 N)]

theorem link_39 (N : Nat) (x : T.den (.pair (.ptr (.int .i64)) (.pair (.ptr .str) (.pair (.ptr .str) .unit)))) : evYX (E_39 N) [.str] comb N (t_39 N) L_39 Tryz.f79 [.v (.ptr (.int .i64)) x.1, .v (.ptr .str) x.2.1, .v (.ptr .str) x.2.2.1] = stream_blocks1 N x.1 x.2.1 x.2.2.1 := by kernel_rfl

noncomputable def stream_blocks1_itr (N : Nat) : Dat → ItRes := itRes (ts := [.str]) (.pair (.ptr (.int .i64)) (.pair (.ptr .str) (.pair (.ptr .str) .unit))) (fun x => stream_blocks1 N x.1 x.2.1 x.2.2.1)

theorem stream_blocks1_it (N : Nat) : ItOk Tryz.prog glob 79 (stream_blocks1_itr N) := ItOk.of (ts := [.str]) (E := E_39 N) (H := t_39 N) (L := L_39) (N := N) (body := body_39) (Eok_39 N) rfl Tryz.func79 (by kernel_rfl) (by decide) (fun G hG hev => (TabOkY.cons (ok1_39 hG hev) TabOkY.nil)) (fun x y h => ⟨_, rfl, by rw [link_39]; exact h⟩)

noncomputable def body_40 : Code := (Tryz.f64.body).getD .skip

noncomputable def L_40 : List (List Nat × List Nat) := [([0], [5, 3, 4]), ([0, 1], [6]), ([1, 1], [6])]

noncomputable def E_40 (N : Nat) : Env := mkEnv tys glob [] [] [] [] false [] [(79, stream_blocks1_itr N), (50, hmac_framed1_itr N)]

theorem Eok_40 (N : Nat) : EnvOk Tryz.prog (E_40 N) := mkEnv_ok mixed tys_ok (FnsOk.nil) (ItsOk.cons (stream_blocks1_it N) (ItsOk.cons (hmac_framed1_it N) (ItsOk.nil)))

noncomputable def stream_blocks (N : Nat) (key : (List UInt8)) (nonce : (List UInt8)) (n : Int) : Option (Int × ((List UInt8) × DT4)) :=
  some (n, (key, (nonce, ())))

noncomputable def t_40 (N : Nat) : Tab (Int × ((List UInt8) × DT4)) := []

theorem link_40 (N : Nat) (x : denS [(0, .v .str), (0, .v .str), (0, .v (.int .i64))]) : evFX (E_40 N) N (t_40 N) L_40 Tryz.f64 (mkS [(0, .v .str), (0, .v .str), (0, .v (.int .i64))] 0 x) (kRes (.v (.fn 79 (.pair (.ptr (.int .i64)) (.pair (.ptr .str) (.pair (.ptr .str) .unit))))) 3) = stream_blocks N x.1 x.2.1 x.2.2.1 := by kernel_rfl

noncomputable def stream_blocks_res (N : Nat) : List A → Res := resOf [(0, .v .str), (0, .v .str), (0, .v (.int .i64))] (fun x => stream_blocks N x.1 x.2.1 x.2.2.1) (oRes (.v (.fn 79 (.pair (.ptr (.int .i64)) (.pair (.ptr .str) (.pair (.ptr .str) .unit))))) 3)

theorem stream_blocks_ct (N : Nat) : Contract Tryz.prog glob 64 (stream_blocks_res N) :=
  Contract.of (E := E_40 N) (H := t_40 N) (L := L_40) (N := N) (body := body_40) (K := (kRes (.v (.fn 79 (.pair (.ptr (.int .i64)) (.pair (.ptr .str) (.pair (.ptr .str) .unit))))) 3)) (Eok_40 N) Tryz.func64 (by kernel_rfl) (by decide) (fun _ hb => TabOk.nil) (fun x y h => by rw [link_40]; exact h) (kRes_ok (s := (.v (.fn 79 (.pair (.ptr (.int .i64)) (.pair (.ptr .str) (.pair (.ptr .str) .unit)))))) (m := 3))

noncomputable def body_41 : Code := (Tryz.f48.body).getD .skip

noncomputable def L_41 : List (List Nat × List Nat) := [([0], [2, 0, 1]), ([0, 0, 1], [10, 2, 0, 1]), ([1, 0, 1], [2, 0, 1]), ([0, 0, 1, 0, 1], [6]), ([1, 0, 1, 0, 1], [6]), ([0, 1, 1], [0, 1, 2]), ([0, 1, 1, 1], [0, 1, 2, 7]), ([0, 0, 1, 1, 1, 1], [16, 7, 2]), ([0, 1, 0, 1, 1, 1, 1], [7, 2]), ([0, 0, 1, 0, 1, 1, 1, 1], [8, 7, 2]), ([0, 1, 0, 1, 0, 1, 1, 1, 1], [7, 2]), ([1, 0, 1, 0, 1, 1, 1, 1], [7, 2]), ([1, 0, 1, 1, 1, 1], [7, 2]), ([0, 1, 1, 1, 1, 1], [6]), ([1, 1, 1, 1, 1, 1], [6])]

noncomputable def E_41 (N : Nat) : Env := mkEnv tys glob [(64, stream_blocks_res N), (33, strings_Builder_WriteString_res N), (34, str_res)] [] [] [] false [(7, TT8)] [(79, stream_blocks1_itr N), (50, hmac_framed1_itr N)]

theorem Eok_41 (N : Nat) : EnvOk Tryz.prog (E_41 N) := mkEnv_ok mixed tys_ok (FnsOk.cons (stream_blocks_ct N) (FnsOk.cons (strings_Builder_WriteString_ct N) (FnsOk.cons (str_ct glob) (FnsOk.nil)))) (ItsOk.cons (stream_blocks1_it N) (ItsOk.cons (hmac_framed1_it N) (ItsOk.nil)))

noncomputable def stream_Take_s1 (N : Nat) (n_1 : Int) (out_1 : DT10) (y : DT4) (rec : DT10 → Option (List UInt8)) (k0 : DT10 → Option (List UInt8)) : Option (List UInt8) :=
  (strings_Builder_WriteString N out_1 y.1).bind fun y1 =>
  rec y1.2.1

noncomputable def stream_Take_fit1 (N : Nat) (n : Int) (out : DT10) (x16 : (Int × ((List UInt8) × DT4))) : Option (List DT4) := (stream_blocks1 N x16.1 x16.2.1 x16.2.2.1)

noncomputable def stream_Take_i1 (N : Nat) (n : Int) (out : DT10) (x16 : (Int × ((List UInt8) × DT4))) : Int := n

noncomputable def stream_Take_v1 (N : Nat) (n : Int) (out : DT10) (x16 : (Int × ((List UInt8) × DT4))) : DT10 := out

noncomputable def stream_Take_p1 (N : Nat) (n : Int) (out : DT10) (x16 : (Int × ((List UInt8) × DT4))) (k0 : DT10 → Option (List UInt8)) : Option (List UInt8) :=
  (stream_Take_fit1 N n out x16).bind fun ys => iterL (fun (y : DT4) (v : DT10) r => stream_Take_s1 N n v y (fun out_1 => (r out_1)) k0) (fun (v : DT10) => k0 v) ys out

noncomputable def g1_41 (N : Nat) (y : DT4) (i : Int) (v : DT10) (r : DT10 → Option (List UInt8)) (K : Ex → List A → Option (List UInt8)) : Option (List UInt8) :=
  stream_Take_s1 N i v y (fun out_1 => (r out_1)) (fun a1 => (K .normal (mkS [(2, .v (.int .i64)), (4, .box TT8)] 15 (i, a1, ()))))

noncomputable def h1_41 (N : Nat) : Hd (List UInt8) := fun st K => (unS [(2, .v (.int .i64)), (4, .box TT8), (8, .v (.fn 79 (.pair (.ptr (.int .i64)) (.pair (.ptr .str) (.pair (.ptr .str) .unit)))))] 6 (restr [16, 7, 2] 0 st)).bind fun x => ((fun x => stream_Take_fit1 N x.1 x.2.1 x.2.2.1) x).bind fun xs => iterL (fun y v r => g1_41 N y ((fun x => stream_Take_i1 N x.1 x.2.1 x.2.2.1) x) v r K) (fun v => K .normal (mkS [(2, .v (.int .i64)), (4, .box TT8)] 15 ((fun i v => (i, v, ())) ((fun x => stream_Take_i1 N x.1 x.2.1 x.2.2.1) x) v))) xs ((fun x => stream_Take_v1 N x.1 x.2.1 x.2.2.1) x)

theorem ok1_41 {N : Nat} {c : Ctx} (hb : Base Tryz.prog (E_41 N) c) : CodeOk Tryz.prog c (nodeAt body_41 [0, 1, 0, 1, 1, 1, 1]) (h1_41 N) :=
  rf_ok (ts := [.str]) (s := [(2, .v (.int .i64)), (4, .box TT8), (8, .v (.fn 79 (.pair (.ptr (.int .i64)) (.pair (.ptr .str) (.pair (.ptr .str) .unit)))))]) (m := 6) (s2 := [(2, .v (.int .i64)), (4, .box TT8)]) (m2 := 15) [16, 7, 2] (fun x => stream_Take_fit1 N x.1 x.2.1 x.2.2.1) (fun x => stream_Take_i1 N x.1 x.2.1 x.2.2.1) (fun x => stream_Take_v1 N x.1 x.2.1 x.2.2.1) (fun i v => (i, v, ())) (rfF (E_41 N) N [.str] (nodeAt body_41 [0, 1, 0, 1, 1, 1, 1])) (g1_41 N) (evN_sound hb N [] L_41 body_41 TabOk.nil [0, 1, 0, 1, 1, 1, 1] _ rfl) (fun x K => by kernel_rfl) (fun y i v r K => by kernel_rfl)

noncomputable def stream_Take (N : Nat) (key : (List UInt8)) (nonce : (List UInt8)) (n : Int) : Option (List UInt8) :=
  cond (decide (n < (1 : Int)))
  (some ([] : List UInt8))
  (stream_Take_p1 N (if ((65536 : Int) < n) then (65536 : Int) else n) ((), (([] : List Int), ())) ((if ((65536 : Int) < n) then (65536 : Int) else n), (key, (nonce, ())))
    (fun out_1 => (str_F (out_1, ())).bind fun y =>
      cond (decide (((0 : Int) ≤ (if ((65536 : Int) < n) then (65536 : Int) else n)) ∧ ((if ((65536 : Int) < n) then (65536 : Int) else n) ≤ (((List.length y.1) : Nat) : Int))))
      (some (cut y.1 0 (Int.toNat (if ((65536 : Int) < n) then (65536 : Int) else n))))
      (none)))

noncomputable def t_41 (N : Nat) : Tab (List UInt8) := [([0, 1, 0, 1, 1, 1, 1], h1_41 N)]

theorem link_41 (N : Nat) (x : denS [(0, .v .str), (0, .v .str), (0, .v (.int .i64))]) : evFX (E_41 N) N (t_41 N) L_41 Tryz.f48 (mkS [(0, .v .str), (0, .v .str), (0, .v (.int .i64))] 0 x) (kRes (.v .str) 3) = stream_Take N x.1 x.2.1 x.2.2.1 := by kernel_rfl

noncomputable def stream_Take_res (N : Nat) : List A → Res := resOf [(0, .v .str), (0, .v .str), (0, .v (.int .i64))] (fun x => stream_Take N x.1 x.2.1 x.2.2.1) (oRes (.v .str) 3)

theorem stream_Take_ct (N : Nat) : Contract Tryz.prog glob 48 (stream_Take_res N) :=
  Contract.of (E := E_41 N) (H := t_41 N) (L := L_41) (N := N) (body := body_41) (K := (kRes (.v .str) 3)) (Eok_41 N) Tryz.func48 (by kernel_rfl) (by decide) (fun _ hb => (TabOk.cons (ok1_41 hb) TabOk.nil)) (fun x y h => by rw [link_41]; exact h) (kRes_ok (s := (.v .str)) (m := 3))

noncomputable def body_42 : Code := (Tryz.f29.body).getD .skip

noncomputable def L_42 : List (List Nat × List Nat) := [([0], [2, 0, 1]), ([0, 0, 1], [9, 2, 0, 1]), ([1, 0, 1], [2, 0, 1]), ([0, 0, 1, 0, 1], [6]), ([1, 0, 1, 0, 1], [6]), ([0, 1, 1], [6]), ([1, 1, 1], [6])]

noncomputable def E_42 (N : Nat) : Env := mkEnv tys glob [(48, stream_Take_res N), (47, octet_Xor_res N)] [] [] [] false [] [(79, stream_blocks1_itr N), (50, hmac_framed1_itr N)]

theorem Eok_42 (N : Nat) : EnvOk Tryz.prog (E_42 N) := mkEnv_ok mixed tys_ok (FnsOk.cons (stream_Take_ct N) (FnsOk.cons (octet_Xor_ct N) (FnsOk.nil))) (ItsOk.cons (stream_blocks1_it N) (ItsOk.cons (hmac_framed1_it N) (ItsOk.nil)))

noncomputable def stream_Mix (N : Nat) (key : (List UInt8)) (nonce : (List UInt8)) (text : (List UInt8)) : Option (List UInt8) :=
  cond (decide ((65536 : Int) < (((List.length text) : Nat) : Int)))
  (some ([] : List UInt8))
  ((stream_Take N key nonce (((List.length text) : Nat) : Int)).bind fun y =>
    (octet_Xor N text y).bind fun y1 =>
    some y1)

noncomputable def t_42 (N : Nat) : Tab (List UInt8) := []

theorem link_42 (N : Nat) (x : denS [(0, .v .str), (0, .v .str), (0, .v .str)]) : evFX (E_42 N) N (t_42 N) L_42 Tryz.f29 (mkS [(0, .v .str), (0, .v .str), (0, .v .str)] 0 x) (kRes (.v .str) 3) = stream_Mix N x.1 x.2.1 x.2.2.1 := by kernel_rfl

noncomputable def stream_Mix_res (N : Nat) : List A → Res := resOf [(0, .v .str), (0, .v .str), (0, .v .str)] (fun x => stream_Mix N x.1 x.2.1 x.2.2.1) (oRes (.v .str) 3)

theorem stream_Mix_ct (N : Nat) : Contract Tryz.prog glob 29 (stream_Mix_res N) :=
  Contract.of (E := E_42 N) (H := t_42 N) (L := L_42) (N := N) (body := body_42) (K := (kRes (.v .str) 3)) (Eok_42 N) Tryz.func29 (by kernel_rfl) (by decide) (fun _ hb => TabOk.nil) (fun x y h => by rw [link_42]; exact h) (kRes_ok (s := (.v .str)) (m := 3))

noncomputable def body_43 : Code := (Tryz.f31.body).getD .skip

noncomputable def L_43 : List (List Nat × List Nat) := [([0], [0, 1]), ([0, 1], [4]), ([1, 1], [4])]

noncomputable def E_43 (N : Nat) : Env := mkEnv tys glob [(42, hmac_Parts_res N), (49, hmac_Sum_res N)] [] [] [] false [] [(79, stream_blocks1_itr N), (50, hmac_framed1_itr N)]

theorem Eok_43 (N : Nat) : EnvOk Tryz.prog (E_43 N) := mkEnv_ok mixed tys_ok (FnsOk.cons (hmac_Parts_ct N) (FnsOk.cons (hmac_Sum_ct N) (FnsOk.nil))) (ItsOk.cons (stream_blocks1_it N) (ItsOk.cons (hmac_framed1_it N) (ItsOk.nil)))

noncomputable def box_tag (N : Nat) (key : (List UInt8)) (body : (List UInt8)) : Option (List UInt8) :=
  (hmac_Parts N key ([([(116 : UInt8), (97 : UInt8), (103 : UInt8)] : List UInt8)] : List (List UInt8))).bind fun y =>
  (hmac_Sum N y body).bind fun y1 =>
  some y1

noncomputable def t_43 (N : Nat) : Tab (List UInt8) := []

theorem link_43 (N : Nat) (x : denS [(0, .v .str), (0, .v .str)]) : evFX (E_43 N) N (t_43 N) L_43 Tryz.f31 (mkS [(0, .v .str), (0, .v .str)] 0 x) (kRes (.v .str) 2) = box_tag N x.1 x.2.1 := by kernel_rfl

noncomputable def box_tag_res (N : Nat) : List A → Res := resOf [(0, .v .str), (0, .v .str)] (fun x => box_tag N x.1 x.2.1) (oRes (.v .str) 2)

theorem box_tag_ct (N : Nat) : Contract Tryz.prog glob 31 (box_tag_res N) :=
  Contract.of (E := E_43 N) (H := t_43 N) (L := L_43) (N := N) (body := body_43) (K := (kRes (.v .str) 2)) (Eok_43 N) Tryz.func31 (by kernel_rfl) (by decide) (fun _ hb => TabOk.nil) (fun x y h => by rw [link_43]; exact h) (kRes_ok (s := (.v .str)) (m := 2))

noncomputable def body_44 : Code := (Tryz.f14.body).getD .skip

noncomputable def L_44 : List (List Nat × List Nat) := [([0], [1, 2, 0]), ([0, 0, 1], [11, 2, 1, 0]), ([1, 0, 1], [2, 1, 0]), ([0, 0, 1, 0, 1], [6, 7]), ([1, 0, 1, 0, 1], [6, 7]), ([0, 0, 1, 1], [14, 1, 0, 2]), ([1, 0, 1, 1], [1, 0, 2]), ([0, 0, 1, 0, 1, 1], [6, 7]), ([1, 0, 1, 0, 1, 1], [6, 7]), ([0, 1, 1, 1], [8, 0]), ([0, 1, 1, 1, 1], [6, 7]), ([1, 1, 1, 1, 1], [6, 7])]

noncomputable def E_44 (N : Nat) : Env := mkEnv tys glob [(31, box_tag_res N), (29, stream_Mix_res N), (30, box_hideKey_res N)] [] [] [] false [] [(79, stream_blocks1_itr N), (50, hmac_framed1_itr N)]

theorem Eok_44 (N : Nat) : EnvOk Tryz.prog (E_44 N) := mkEnv_ok mixed tys_ok (FnsOk.cons (box_tag_ct N) (FnsOk.cons (stream_Mix_ct N) (FnsOk.cons (box_hideKey_ct N) (FnsOk.nil)))) (ItsOk.cons (stream_blocks1_it N) (ItsOk.cons (hmac_framed1_it N) (ItsOk.nil)))

noncomputable def box_Seal (N : Nat) (key : (List UInt8)) (nonce : (List UInt8)) (text : (List UInt8)) : Option ((List UInt8) × Int × Unit) :=
  cond ((((List.length nonce) : Nat) : Int) != (16 : Int))
  (some (([] : List UInt8), ((7 : Int), ())))
  (cond (decide ((4096 : Int) < (((List.length text) : Nat) : Int)))
    (some (([] : List UInt8), ((3 : Int), ())))
    ((box_hideKey N key).bind fun y =>
      (stream_Mix N y nonce text).bind fun y1 =>
      cond (decide (((List.length nonce) + (List.length y1)) ≤ 9223372036854775807))
      ((box_tag N key (nonce ++ y1)).bind fun y2 =>
        cond (decide (((List.length (nonce ++ y1)) + (List.length y2)) ≤ 9223372036854775807))
        (some (((nonce ++ y1) ++ y2), ((0 : Int), ())))
        (none))
      (none)))

noncomputable def t_44 (N : Nat) : Tab ((List UInt8) × Int × Unit) := []

theorem link_44 (N : Nat) (x : denS [(0, .v .str), (0, .v .str), (0, .v .str)]) : evFX (E_44 N) N (t_44 N) L_44 Tryz.f14 (mkS [(0, .v .str), (0, .v .str), (0, .v .str)] 0 x) (kRes (.tup [.str, (.int .i64)]) 3) = box_Seal N x.1 x.2.1 x.2.2.1 := by kernel_rfl

noncomputable def box_Seal_res (N : Nat) : List A → Res := resOf [(0, .v .str), (0, .v .str), (0, .v .str)] (fun x => box_Seal N x.1 x.2.1 x.2.2.1) (oRes (.tup [.str, (.int .i64)]) 3)

theorem box_Seal_ct (N : Nat) : Contract Tryz.prog glob 14 (box_Seal_res N) :=
  Contract.of (E := E_44 N) (H := t_44 N) (L := L_44) (N := N) (body := body_44) (K := (kRes (.tup [.str, (.int .i64)]) 3)) (Eok_44 N) Tryz.func14 (by kernel_rfl) (by decide) (fun _ hb => TabOk.nil) (fun x y h => by rw [link_44]; exact h) (kRes_ok (s := (.tup [.str, (.int .i64)])) (m := 3))

noncomputable def body_45 : Code := (Tryz.f6.body).getD .skip

noncomputable def L_45 : List (List Nat × List Nat) := [([0], [0, 1, 2, 3]), ([0, 1], [8, 9]), ([1, 1], [8, 9])]

noncomputable def E_45 (N : Nat) : Env := mkEnv tys glob [(14, box_Seal_res N), (15, hmac_Frame_res N)] [] [] [] false [] [(79, stream_blocks1_itr N), (50, hmac_framed1_itr N)]

theorem Eok_45 (N : Nat) : EnvOk Tryz.prog (E_45 N) := mkEnv_ok mixed tys_ok (FnsOk.cons (box_Seal_ct N) (FnsOk.cons (hmac_Frame_ct N) (FnsOk.nil))) (ItsOk.cons (stream_blocks1_it N) (ItsOk.cons (hmac_framed1_it N) (ItsOk.nil)))

noncomputable def notary_Ticket (N : Nat) (notary : (List UInt8)) (nonce : (List UInt8)) (key : (List UInt8)) (text : (List UInt8)) : Option ((List UInt8) × Int × Unit) :=
  (hmac_Frame N ([key, text] : List (List UInt8))).bind fun y =>
  (box_Seal N notary nonce y).bind fun y1 =>
  some (y1.1, (y1.2.1, ()))

noncomputable def t_45 (N : Nat) : Tab ((List UInt8) × Int × Unit) := []

theorem link_45 (N : Nat) (x : denS [(0, .v .str), (0, .v .str), (0, .v .str), (0, .v .str)]) : evFX (E_45 N) N (t_45 N) L_45 Tryz.f6 (mkS [(0, .v .str), (0, .v .str), (0, .v .str), (0, .v .str)] 0 x) (kRes (.tup [.str, (.int .i64)]) 4) = notary_Ticket N x.1 x.2.1 x.2.2.1 x.2.2.2.1 := by kernel_rfl

noncomputable def notary_Ticket_res (N : Nat) : List A → Res := resOf [(0, .v .str), (0, .v .str), (0, .v .str), (0, .v .str)] (fun x => notary_Ticket N x.1 x.2.1 x.2.2.1 x.2.2.2.1) (oRes (.tup [.str, (.int .i64)]) 4)

theorem notary_Ticket_ct (N : Nat) : Contract Tryz.prog glob 6 (notary_Ticket_res N) :=
  Contract.of (E := E_45 N) (H := t_45 N) (L := L_45) (N := N) (body := body_45) (K := (kRes (.tup [.str, (.int .i64)]) 4)) (Eok_45 N) Tryz.func6 (by kernel_rfl) (by decide) (fun _ hb => TabOk.nil) (fun x y h => by rw [link_45]; exact h) (kRes_ok (s := (.tup [.str, (.int .i64)])) (m := 4))

noncomputable def body_46 : Code := (Tryz.f39.body).getD .skip

noncomputable def L_46 : List (List Nat × List Nat) := [([0], [0]), ([0, 0, 1], [5, 0]), ([1, 0, 1], [0]), ([0, 0, 1, 0, 1], [2]), ([1, 0, 1, 0, 1], [2]), ([0, 1, 1], [2]), ([1, 1, 1], [2])]

noncomputable def E_46 (N : Nat) : Env := mkEnv tys glob [] [] [] [] false [] [(79, stream_blocks1_itr N), (50, hmac_framed1_itr N)]

theorem Eok_46 (N : Nat) : EnvOk Tryz.prog (E_46 N) := mkEnv_ok mixed tys_ok (FnsOk.nil) (ItsOk.cons (stream_blocks1_it N) (ItsOk.cons (hmac_framed1_it N) (ItsOk.nil)))

noncomputable def box_Nonce (N : Nat) (s : (List UInt8)) : Option (List UInt8) :=
  cond (decide ((((List.length s) : Nat) : Int) < (16 : Int)))
  (some ([] : List UInt8))
  (cond (decide (((0 : Int) ≤ (16 : Int)) ∧ ((16 : Int) ≤ (((List.length s) : Nat) : Int))))
    (some (cut s 0 16))
    (none))

noncomputable def t_46 (N : Nat) : Tab (List UInt8) := []

theorem link_46 (N : Nat) (x : denS [(0, .v .str)]) : evFX (E_46 N) N (t_46 N) L_46 Tryz.f39 (mkS [(0, .v .str)] 0 x) (kRes (.v .str) 1) = box_Nonce N x.1 := by kernel_rfl

noncomputable def box_Nonce_res (N : Nat) : List A → Res := resOf [(0, .v .str)] (fun x => box_Nonce N x.1) (oRes (.v .str) 1)

theorem box_Nonce_ct (N : Nat) : Contract Tryz.prog glob 39 (box_Nonce_res N) :=
  Contract.of (E := E_46 N) (H := t_46 N) (L := L_46) (N := N) (body := body_46) (K := (kRes (.v .str) 1)) (Eok_46 N) Tryz.func39 (by kernel_rfl) (by decide) (fun _ hb => TabOk.nil) (fun x y h => by rw [link_46]; exact h) (kRes_ok (s := (.v .str)) (m := 1))

noncomputable def body_47 : Code := (Tryz.f38.body).getD .skip

noncomputable def L_47 : List (List Nat × List Nat) := [([0], [5, 1, 2, 3, 0]), ([1], [0, 1, 2, 3]), ([0, 1], [0, 1, 2, 3])]

noncomputable def E_47 (N : Nat) : Env := mkEnv tys glob [(39, box_Nonce_res N), (29, stream_Mix_res N), (30, box_hideKey_res N)] [] [] [0, 1, 2, 3] false [] [(79, stream_blocks1_itr N), (50, hmac_framed1_itr N)]

theorem Eok_47 (N : Nat) : EnvOk Tryz.prog (E_47 N) := mkEnv_ok mixed tys_ok (FnsOk.cons (box_Nonce_ct N) (FnsOk.cons (stream_Mix_ct N) (FnsOk.cons (box_hideKey_ct N) (FnsOk.nil)))) (ItsOk.cons (stream_blocks1_it N) (ItsOk.cons (hmac_framed1_it N) (ItsOk.nil)))

noncomputable def box_Open1 (N : Nat) (x0 : Int) (x1 : (List UInt8)) (x2 : (List UInt8)) (x3 : (List UInt8)) : Option ((Unit) × (Int × (List UInt8) × (List UInt8) × (List UInt8) × Unit)) :=
  cond (x0 == (0 : Int))
  ((box_hideKey N x1).bind fun y =>
    (box_Nonce N x2).bind fun y1 =>
    cond (decide (((0 : Int) ≤ (IntKind.wrap IntKind.i64 ((((List.length x2) : Nat) : Int) - (32 : Int)))) ∧ ((IntKind.wrap IntKind.i64 ((((List.length x2) : Nat) : Int) - (32 : Int))) ≤ (((List.length x2) : Nat) : Int))))
    (cond (decide (((0 : Int) ≤ (16 : Int)) ∧ ((16 : Int) ≤ (IntKind.wrap IntKind.i64 ((((List.length x2) : Nat) : Int) - (32 : Int))))))
      ((stream_Mix N y y1 (cut x2 16 (Int.toNat (IntKind.wrap IntKind.i64 ((((List.length x2) : Nat) : Int) - (32 : Int)))))).bind fun y2 =>
        some ((), (x0, (x1, (x2, (y2, ()))))))
      (none))
    (none))
  (some ((), (x0, (x1, (x2, (x3, ()))))))

noncomputable def t_47 (N : Nat) : Tab ((Unit) × (Int × (List UInt8) × (List UInt8) × (List UInt8) × Unit)) := []

theorem link_47 (N : Nat) (x : denS [(0, .box (.int .i64)), (0, .box .str), (0, .box .str), (0, .box .str)]) : evFX (E_47 N) N (t_47 N) L_47 Tryz.f38 (mkS [(0, .box (.int .i64)), (0, .box .str), (0, .box .str), (0, .box .str)] 0 x) (kResB (.tup []) [(0, .box (.int .i64)), (0, .box .str), (0, .box .str), (0, .box .str)] 0) = box_Open1 N x.1 x.2.1 x.2.2.1 x.2.2.2.1 := by kernel_rfl

noncomputable def box_Open1_res (N : Nat) : List A → Res := resOf [(0, .box (.int .i64)), (0, .box .str), (0, .box .str), (0, .box .str)] (fun x => box_Open1 N x.1 x.2.1 x.2.2.1 x.2.2.2.1) (oResB (.tup []) [(0, .box (.int .i64)), (0, .box .str), (0, .box .str), (0, .box .str)] 0)

theorem box_Open1_ctd (N : Nat) : ContractD Tryz.prog glob 38 (box_Open1_res N) :=
  ContractD.of (E := E_47 N) (H := t_47 N) (L := L_47) (N := N) (body := body_47) (K := (kResB (.tup []) [(0, .box (.int .i64)), (0, .box .str), (0, .box .str), (0, .box .str)] 0)) (Eok_47 N) Tryz.func38 (by kernel_rfl) (by decide) (fun _ hb => TabOk.nil) (fun x y h => by rw [link_47]; exact h) (kResB_ok (s := (.tup [])) (os := [(0, .box (.int .i64)), (0, .box .str), (0, .box .str), (0, .box .str)]) (m := 0))

noncomputable def body_48 : Code := (Tryz.f77.body).getD .skip

noncomputable def L_48 : List (List Nat × List Nat) := [([0], [0, 1]), ([0, 0, 1], [11, 0, 1]), ([1, 0, 1], [0, 1]), ([0, 0, 1, 0, 1], [4]), ([1, 0, 1, 0, 1], [4]), ([0, 1, 1], [0, 5, 1]), ([0, 0, 1, 1, 1], [14, 13, 5, 0, 1]), ([0, 1, 0, 1, 1, 1], [14, 13, 5, 0, 1]), ([0, 0, 0, 1, 0, 1, 1, 1], [15, 14, 5, 0, 1, 13]), ([0, 1, 0, 0, 1, 0, 1, 1, 1], [14, 5, 0, 1, 13]), ([1, 0, 1, 0, 0, 1, 0, 1, 1, 1], [5]), ([0, 0, 0, 1, 1, 0, 0, 1, 0, 1, 1, 1], [5, 0, 6, 1, 14, 13]), ([1, 0, 0, 1, 1, 0, 0, 1, 0, 1, 1, 1], [14, 13, 5, 0, 1]), ([0, 1, 1, 0, 0, 1, 0, 1, 1, 1], [14, 13, 5, 0, 1]), ([1, 1, 1, 0, 0, 1, 0, 1, 1, 1], [14, 13, 5, 0, 1]), ([1, 0, 1, 1, 1], [5]), ([0, 1, 1, 1, 1], [4]), ([1, 1, 1, 1, 1], [4])]

noncomputable def E_48 (N : Nat) : Env := mkEnv tys glob [] [] [] [] false [] [(79, stream_blocks1_itr N), (50, hmac_framed1_itr N)]

theorem Eok_48 (N : Nat) : EnvOk Tryz.prog (E_48 N) := mkEnv_ok mixed tys_ok (FnsOk.nil) (ItsOk.cons (stream_blocks1_it N) (ItsOk.cons (hmac_framed1_it N) (ItsOk.nil)))

noncomputable def octet_Equal_s1 (N : Nat) (a : (List UInt8)) (b : (List UInt8)) (x13 : Int) (differ : Int) (x14 : Int) (rec : Int → Int → Option Bool) (k0 : Int → Option Bool) : Option Bool :=
  cond (decide (x14 < x13))
  (cond (inR x14 (List.length a))
    (cond (inR x14 (List.length b))
      (rec (bitsOp Go.BinOp.or IntKind.u8 differ (bitsOp Go.BinOp.xor IntKind.u8 (((UInt8.toNat (List.getD a (Int.toNat x14) (0 : UInt8))) : Nat) : Int) (((UInt8.toNat (List.getD b (Int.toNat x14) (0 : UInt8))) : Nat) : Int))) (IntKind.wrap IntKind.i64 (x14 + (1 : Int))))
      (none))
    (none))
  (k0 differ)

noncomputable def octet_Equal_p1 (N : Nat) (a : (List UInt8)) (b : (List UInt8)) (differ : Int) (x13 : Int) (x14 : Int) (k0 : Int → Option Bool) : Option Bool :=
  iter (fun (v : (Int × Int)) r => octet_Equal_s1 N a b x13 v.1 v.2 (fun differ x14 => (r (differ, x14))) k0) N (differ, x14)

noncomputable def g1_48 (N : Nat) (i : ((List UInt8) × (List UInt8) × Int)) (v : (Int × Int)) (r : (Int × Int) → Option Bool) (K : Ex → List A → Option Bool) : Option Bool :=
  octet_Equal_s1 N i.1 i.2.1 i.2.2 v.1 v.2 (fun differ x14 => (r (differ, x14))) (fun a0 => (K (.exit 0) (mkS [(5, .v (.int .u8))] 23 (a0, ()))))

noncomputable def h1_48 (N : Nat) : Hd Bool := fun st K => (unS [(0, .v .str), (0, .v .str), (3, .v (.int .u8)), (7, .v (.int .i64)), (0, .v (.int .i64))] 14 (restr [14, 13, 5, 0, 1] 0 st)).bind fun x => iter (fun v r => g1_48 N ((fun x => (x.1, x.2.1, x.2.2.2.1)) x) v r K) N ((fun x => (x.2.2.1, x.2.2.2.2.1)) x)

noncomputable def t1_48 (N : Nat) : Tab Bool := []

theorem ok1_48 {N : Nat} {c : Ctx} (hb : Base Tryz.prog (E_48 N) c) : CodeOk Tryz.prog c (nodeAt body_48 [0, 1, 0, 1, 1, 1]) (h1_48 N) :=
  loop_ok (s := [(0, .v .str), (0, .v .str), (3, .v (.int .u8)), (7, .v (.int .i64)), (0, .v (.int .i64))]) (m := 14) (g1_48 N) [14, 13, 5, 0, 1] N (fun x => (x.1, x.2.1, x.2.2.2.1)) (fun x => (x.2.2.1, x.2.2.2.2.1)) (fun i v => (i.1, i.2.1, v.1, i.2.2, v.2, ())) (fun _ => rfl) (evN_sound hb N (t1_48 N) L_48 body_48 TabOk.nil [0, 0, 1, 0, 1, 1, 1] _ rfl) (fun i v r K => by kernel_rfl)

noncomputable def octet_Equal (N : Nat) (a : (List UInt8)) (b : (List UInt8)) : Option Bool :=
  cond ((((List.length a) : Nat) : Int) != (((List.length b) : Nat) : Int))
  (some false)
  (octet_Equal_p1 N a b (0 : Int) (((List.length a) : Nat) : Int) (0 : Int)
    (fun differ => some (differ == (0 : Int))))

noncomputable def t_48 (N : Nat) : Tab Bool := [([0, 1, 0, 1, 1, 1], h1_48 N)]

theorem link_48 (N : Nat) (x : denS [(0, .v .str), (0, .v .str)]) : evFX (E_48 N) N (t_48 N) L_48 Tryz.f77 (mkS [(0, .v .str), (0, .v .str)] 0 x) (kRes (.v .bool) 2) = octet_Equal N x.1 x.2.1 := by kernel_rfl

noncomputable def octet_Equal_res (N : Nat) : List A → Res := resOf [(0, .v .str), (0, .v .str)] (fun x => octet_Equal N x.1 x.2.1) (oRes (.v .bool) 2)

theorem octet_Equal_ct (N : Nat) : Contract Tryz.prog glob 77 (octet_Equal_res N) :=
  Contract.of (E := E_48 N) (H := t_48 N) (L := L_48) (N := N) (body := body_48) (K := (kRes (.v .bool) 2)) (Eok_48 N) Tryz.func77 (by kernel_rfl) (by decide) (fun _ hb => (TabOk.cons (ok1_48 hb) TabOk.nil)) (fun x y h => by rw [link_48]; exact h) (kRes_ok (s := (.v .bool)) (m := 2))

noncomputable def body_49 : Code := (Tryz.f58.body).getD .skip

noncomputable def L_49 : List (List Nat × List Nat) := [([0], [0, 1]), ([0, 1], [4]), ([1, 1], [4])]

noncomputable def E_49 (N : Nat) : Env := mkEnv tys glob [(77, octet_Equal_res N)] [] [] [] false [] [(79, stream_blocks1_itr N), (50, hmac_framed1_itr N)]

theorem Eok_49 (N : Nat) : EnvOk Tryz.prog (E_49 N) := mkEnv_ok mixed tys_ok (FnsOk.cons (octet_Equal_ct N) (FnsOk.nil)) (ItsOk.cons (stream_blocks1_it N) (ItsOk.cons (hmac_framed1_it N) (ItsOk.nil)))

noncomputable def hmac_Same (N : Nat) (a : (List UInt8)) (b : (List UInt8)) : Option Bool :=
  cond ((((List.length a) : Nat) : Int) == (32 : Int))
  (cond ((((List.length b) : Nat) : Int) == (32 : Int))
    ((octet_Equal N a b).bind fun y =>
      some y)
    (some false))
  (some false)

noncomputable def t_49 (N : Nat) : Tab Bool := []

theorem link_49 (N : Nat) (x : denS [(0, .v .str), (0, .v .str)]) : evFX (E_49 N) N (t_49 N) L_49 Tryz.f58 (mkS [(0, .v .str), (0, .v .str)] 0 x) (kRes (.v .bool) 2) = hmac_Same N x.1 x.2.1 := by kernel_rfl

noncomputable def hmac_Same_res (N : Nat) : List A → Res := resOf [(0, .v .str), (0, .v .str)] (fun x => hmac_Same N x.1 x.2.1) (oRes (.v .bool) 2)

theorem hmac_Same_ct (N : Nat) : Contract Tryz.prog glob 58 (hmac_Same_res N) :=
  Contract.of (E := E_49 N) (H := t_49 N) (L := L_49) (N := N) (body := body_49) (K := (kRes (.v .bool) 2)) (Eok_49 N) Tryz.func58 (by kernel_rfl) (by decide) (fun _ hb => TabOk.nil) (fun x y h => by rw [link_49]; exact h) (kRes_ok (s := (.v .bool)) (m := 2))

noncomputable def body_50 : Code := (Tryz.f40.body).getD .skip

noncomputable def L_50 : List (List Nat × List Nat) := [([0], [1, 0]), ([0, 0, 1], [8, 1, 0]), ([1, 0, 1], [1, 0]), ([0, 0, 1, 0, 1], [4]), ([1, 0, 1, 0, 1], [4]), ([0, 0, 1, 1], [11, 1, 0]), ([1, 0, 1, 1], [1, 0]), ([0, 0, 1, 0, 1, 1], [4]), ([1, 0, 1, 0, 1, 1], [4]), ([0, 1, 1, 1], [1, 5, 0]), ([0, 0, 1, 1, 1, 1], [24]), ([1, 0, 1, 1, 1, 1], []), ([0, 0, 1, 0, 1, 1, 1, 1], [4]), ([1, 0, 1, 0, 1, 1, 1, 1], [4]), ([0, 1, 1, 1, 1, 1], [4]), ([1, 1, 1, 1, 1, 1], [4])]

noncomputable def E_50 (N : Nat) : Env := mkEnv tys glob [(58, hmac_Same_res N), (31, box_tag_res N)] [] [] [] false [] [(79, stream_blocks1_itr N), (50, hmac_framed1_itr N)]

theorem Eok_50 (N : Nat) : EnvOk Tryz.prog (E_50 N) := mkEnv_ok mixed tys_ok (FnsOk.cons (hmac_Same_ct N) (FnsOk.cons (box_tag_ct N) (FnsOk.nil))) (ItsOk.cons (stream_blocks1_it N) (ItsOk.cons (hmac_framed1_it N) (ItsOk.nil)))

noncomputable def box_check (N : Nat) (key : (List UInt8)) (s : (List UInt8)) : Option Int :=
  cond (decide ((((List.length s) : Nat) : Int) < (48 : Int)))
  (some (1 : Int))
  (cond (decide ((4144 : Int) < (((List.length s) : Nat) : Int)))
    (some (3 : Int))
    (cond (decide (((0 : Int) ≤ (IntKind.wrap IntKind.i64 ((((List.length s) : Nat) : Int) - (32 : Int)))) ∧ ((IntKind.wrap IntKind.i64 ((((List.length s) : Nat) : Int) - (32 : Int))) ≤ (((List.length s) : Nat) : Int))))
      (cond (decide (((0 : Int) ≤ (IntKind.wrap IntKind.i64 ((((List.length s) : Nat) : Int) - (32 : Int)))) ∧ ((IntKind.wrap IntKind.i64 ((((List.length s) : Nat) : Int) - (32 : Int))) ≤ (((List.length s) : Nat) : Int))))
        ((box_tag N key (cut s 0 (Int.toNat (IntKind.wrap IntKind.i64 ((((List.length s) : Nat) : Int) - (32 : Int)))))).bind fun y =>
          (hmac_Same N (cut s (Int.toNat (IntKind.wrap IntKind.i64 ((((List.length s) : Nat) : Int) - (32 : Int)))) (List.length s)) y).bind fun y1 =>
          cond (!y1)
          (some (8 : Int))
          (some (0 : Int)))
        (none))
      (none)))

noncomputable def t_50 (N : Nat) : Tab Int := []

theorem link_50 (N : Nat) (x : denS [(0, .v .str), (0, .v .str)]) : evFX (E_50 N) N (t_50 N) L_50 Tryz.f40 (mkS [(0, .v .str), (0, .v .str)] 0 x) (kRes (.v (.int .i64)) 2) = box_check N x.1 x.2.1 := by kernel_rfl

noncomputable def box_check_res (N : Nat) : List A → Res := resOf [(0, .v .str), (0, .v .str)] (fun x => box_check N x.1 x.2.1) (oRes (.v (.int .i64)) 2)

theorem box_check_ct (N : Nat) : Contract Tryz.prog glob 40 (box_check_res N) :=
  Contract.of (E := E_50 N) (H := t_50 N) (L := L_50) (N := N) (body := body_50) (K := (kRes (.v (.int .i64)) 2)) (Eok_50 N) Tryz.func40 (by kernel_rfl) (by decide) (fun _ hb => TabOk.nil) (fun x y h => by rw [link_50]; exact h) (kRes_ok (s := (.v (.int .i64))) (m := 2))

noncomputable def box_Open (N : Nat) (key s : List UInt8) : Option (List UInt8 × Int × Unit) :=
  (box_check N key s).bind fun e => (box_Open1 N e key s []).bind fun y => some (y.2.2.2.2.1, y.2.1, ())

noncomputable def box_Open_res (N : Nat) : List A → Res := resOf [(0, .v .str), (0, .v .str)] (fun x => box_Open N x.1 x.2.1) (oRes (.tup [.str, (.int .i64)]) 2)

theorem box_Open_check {N : Nat} {key s : List UInt8} {e : Int} {w : World} {S : Hp} (hS : Sub S (hp w)) (hg : GlobOk glob S) (he : box_check N key s = some e) :
    Calls Tryz.prog 40 #[.string ⟨⟨key⟩⟩, .string ⟨⟨s⟩⟩] w fun r w' => r = .returned (.int .i64 e) ∧ Go.RowKit.Below w.heap.size w w' ∧ ∃ S', Sub S S' ∧ Sub S' (hp w') ∧ ∀ b, S' b ≠ none → S b ≠ none ∨ w.heap.size ≤ b := by
  have h := (box_check_ct N).2 w S (mkS [(0, .v .str), (0, .v .str)] 0 (key, s, ())) [.string ⟨⟨key⟩⟩, .string ⟨⟨s⟩⟩] (fun _ => []) ⟨rfl, fun i x hx => ?_, fun _ _ => rfl, (fun i j b hb => by cases hb), fun _ => .nil, (fun i b hb => by cases hb)⟩ hS hg
  · have h2 := h e (by show box_check N key s = some e; exact he)
    refine h2.mono ?_
    rintro r w' ⟨v, S', o, ob', rfl, hwf, h3, h4, h5, ⟨⟨hv, _⟩, _⟩, _⟩
    have hv' := VR.int_inv hv
    subst hv'
    refine ⟨rfl, ⟨hwf.os, hwf.tape, hwf.output, hwf.size, fun k hk => hwf.same k hk (by rintro ⟨i, hi⟩; cases hi)⟩, S', h3, h4, fun b hb => ?_⟩
    rcases h5 b hb with h | ⟨i, hi⟩ | h
    · exact .inl h
    · cases hi
    · exact .inr h
  · match i with
    | 0 => simp [mkS, deads, AS.mk] at hx; subst hx; exact ⟨⟨_, rfl, VR.str, rfl⟩, rfl⟩
    | 1 => simp [mkS, deads, AS.mk] at hx; subst hx; exact ⟨⟨_, rfl, VR.str, rfl⟩, rfl⟩
    | i + 2 => simp [mkS, deads] at hx

theorem box_Open_box {h S : Hp} {tv : Nat → Value} {b E : Nat} {t : T} {x : t.den} {v : Value} (ht : t.isAgg = false) (hb : h b = some (.cells #[v] E (0, 0))) (hv : Rd S t x [v]) : ARel h S tv (.box t x) (.pointer (some ⟨b, 0, none⟩)) [b] :=
  ⟨b, #[v], E, (0, 0), [], rfl, rfl, hb, (fun i _ hq => by have := hq.2; omega), RdO.of_rd t x _ hv⟩

theorem box_Open_back {h S : Hp} {tv : Nat → Value} {t : T} {x : t.den} {b : Nat} {o : List Nat} (ht : noOwn t = true) (hs : t.size = 1) (hx : ARel h S tv (.box t x) (.pointer (some ⟨b, 0, none⟩)) o) : ∃ v E fr, h b = some (.cells #[v] E fr) ∧ Rd S t x [v] := by
  obtain ⟨b', cs, E, fr, bs, _, e, hb, _, hr⟩ := hx
  cases e
  obtain ⟨_, hr⟩ := RdO.rd t x _ _ ht hr
  have hl := hr.length
  rw [hs] at hl
  obtain ⟨v, hv⟩ := List.length_eq_one_iff.1 hl
  have : cs = #[v] := by apply Array.toList_inj.1; rw [hv]
  subst this
  exact ⟨v, E, fr, hb, hr⟩

theorem box_Open_ct (N : Nat) : Contract Tryz.prog glob 18 (box_Open_res N) := by
  refine Contract.hand ⟨_, Tryz.func18, by kernel_rfl, by decide⟩ ?_
  intro w S vals ob x y har hS hg hy
  obtain ⟨key, s, u⟩ := x
  cases u
  unfold box_Open at hy
  dsimp only at hy
  cases he : box_check N key s with
  | none => rw [he] at hy; cases hy
  | some e =>
  rw [he, Option.bind_some] at hy
  cases ho : box_Open1 N e key s [] with
  | none => rw [ho] at hy; cases hy
  | some z =>
  rw [ho, Option.bind_some] at hy
  cases hy
  obtain ⟨⟨v0, hv0, hA0, ho0⟩, _⟩ := har.rel 0 _ rfl
  obtain ⟨⟨v1, hv1, hA1, ho1⟩, _⟩ := har.rel 1 _ rfl
  have hlen := har.len
  obtain ⟨u0, u1, rfl⟩ : ∃ u0 u1, vals = [u0, u1] := by
    have : vals.length = 2 := by simpa [mkS, deads] using hlen.symm
    match vals, this with
    | [a, b], _ => exact ⟨a, b, rfl⟩
  simp at hv0 hv1
  subst hv0; subst hv1
  have e0 := hA0.str_inv
  have e1 := hA1.str_inv
  subst e0; subst e1
  have hnone : ∀ i, ob i = [] := by
    intro i
    match i with
    | 0 => exact ho0
    | 1 => exact ho1
    | i + 2 => exact har.out _ (by simp [mkS, deads])
  have hmf : ∀ (fn : Fn) (first cap : Array Value) (w : World), (Instr.makeFunc fn first cap).run Tryz.prog w = .ok (.func fn first cap) w := fun _ _ _ _ => rfl
  obtain ⟨n, hn⟩ : ∃ n, n = w.heap.size := ⟨_, rfl⟩
  have hltS : ∀ b, S b ≠ none → b < n := fun b hb => by
    cases hs : S b with
    | none => exact absurd hs hb
    | some o => rw [hn]; exact hp_lt (hS b o hs)
  obtain ⟨W4, hW4⟩ : ∃ W4, W4 = (((w.alloc (.cells #[.string ⟨⟨key⟩⟩] 9)).alloc (.cells #[.string ⟨⟨s⟩⟩] 9)).alloc (.cells #[.string ⟨#[]⟩] 9)).alloc (.cells #[.int .i64 0] 26) := ⟨_, rfl⟩
  have hh : W4.heap = (((w.heap.push (.cells #[.string ⟨⟨key⟩⟩] 9 (0, 0))).push (.cells #[.string ⟨⟨s⟩⟩] 9 (0, 0))).push (.cells #[.string ⟨#[]⟩] 9 (0, 0))).push (.cells #[.int .i64 0] 26 (0, 0)) := by rw [hW4]; rfl
  have z4 : W4.heap.size = n + 4 := by rw [hh, hn]; simp only [Array.size_push]
  have k0 : W4.heap[n]? = some (.cells #[.string ⟨⟨key⟩⟩] 9 (0, 0)) := by rw [hh, hn]; simp only [Array.getElem?_push, Array.size_push]; rw [if_neg (by omega), if_neg (by omega), if_neg (by omega), if_pos trivial]
  have k1 : W4.heap[n + 1]? = some (.cells #[.string ⟨⟨s⟩⟩] 9 (0, 0)) := by rw [hh, hn]; simp only [Array.getElem?_push, Array.size_push]; rw [if_neg (by omega), if_neg (by omega), if_pos trivial]
  have k2 : W4.heap[n + 2]? = some (.cells #[.string ⟨#[]⟩] 9 (0, 0)) := by rw [hh, hn]; simp only [Array.getElem?_push, Array.size_push]; rw [if_neg (by omega), if_pos (by first | omega | trivial)]
  have k3 : W4.heap[n + 3]? = some (.cells #[.int .i64 0] 26 (0, 0)) := by rw [hh, hn]; simp only [Array.getElem?_push, Array.size_push]; rw [if_pos (by first | omega | trivial)]
  have kl : ∀ b, b < n → W4.heap[b]? = w.heap[b]? := fun b hb => by
    rw [hh]; simp only [Array.getElem?_push, Array.size_push]
    rw [if_neg (by omega), if_neg (by omega), if_neg (by omega), if_neg (by omega)]
  have hS4 : Sub S (hp W4) := fun b o hb => by
    have h1 := hS b o hb
    simp only [hp] at h1 ⊢
    rw [kl b (hltS b (by rw [hb]; simp))]; exact h1
  have t4 : W4.tape = w.tape ∧ W4.os = w.os ∧ W4.output = w.output := by rw [hW4]; exact ⟨rfl, rfl, rfl⟩
  have hck := box_Open_check (N := N) hS4 hg he
  have main : ∀ w5, Go.RowKit.Below W4.heap.size W4 w5 → (∃ S', Sub S S' ∧ Sub S' (hp w5) ∧ ∀ b, S' b ≠ none → S b ≠ none ∨ W4.heap.size ≤ b) →
      CallsD Tryz.prog 38 #[.pointer (some ⟨n + 3, 0, none⟩), .pointer (some ⟨n, 0, none⟩), .pointer (some ⟨n + 1, 0, none⟩), .pointer (some ⟨n + 2, 0, none⟩)] .returning
        ((w5.setCell ⟨n + 2, 0, none⟩ (.string ⟨#[]⟩)).setCell ⟨n + 3, 0, none⟩ (.int .i64 e)) fun r u w7 => (∃ v, r = .returned v) ∧ u = .returning ∧ w7.cell? ⟨n + 2, 0, none⟩ = some (.string ⟨⟨z.2.2.2.2.1⟩⟩) ∧ w7.cell? ⟨n + 3, 0, none⟩ = some (.int .i64 z.2.1) ∧
          Lift.Ends w S (mkS [(0, .v .str), (0, .v .str)] 0 (key, s, ())) [.string ⟨⟨key⟩⟩, .string ⟨⟨s⟩⟩] ob (oRes (.tup [.str, .int .i64]) 2 (z.2.2.2.2.1, z.2.1, ())).1 (oRes (.tup [.str, .int .i64]) 2 (z.2.2.2.2.1, z.2.1, ())).2 (.returned (.tuple #[.string ⟨⟨z.2.2.2.2.1⟩⟩, .int .i64 z.2.1])) w7 := by
    rintro w5 hbel ⟨S5, hS5, hS5w, hnew⟩
    have b0 := hbel.block n (by omega)
    have b1 := hbel.block (n + 1) (by omega)
    have b2 := hbel.block (n + 2) (by omega)
    have b3 := hbel.block (n + 3) (by omega)
    rw [k0] at b0; rw [k1] at b1; rw [k2] at b2; rw [k3] at b3
    have hz5 := hbel.size
    obtain ⟨w6, hw6⟩ : ∃ w6, w6 = (w5.setCell ⟨n + 2, 0, none⟩ (.string ⟨#[]⟩)).setCell ⟨n + 3, 0, none⟩ (.int .i64 e) := ⟨_, rfl⟩
    rw [← hw6]
    have e5 := setCell_eq (w := w5) (b := n + 2) (off := 0) (.string ⟨#[]⟩) b2
    have e6 := setCell_eq (w := w5.setCell ⟨n + 2, 0, none⟩ (.string ⟨#[]⟩)) (b := n + 3) (off := 0) (.int .i64 e) (by rw [e5, hp_setObj_ne (by omega)]; exact b3)
    rw [e6, e5] at hw6
    have m2 : hp w6 (n + 2) = some (.cells #[.string ⟨#[]⟩] 9 (0, 0)) := by rw [hw6, hp_setObj_ne (by omega)]; exact hp_setObj b2
    have m3 : hp w6 (n + 3) = some (.cells #[.int .i64 e] 26 (0, 0)) := by rw [hw6]; exact hp_setObj (o' := .cells #[.int .i64 0] 26 (0, 0)) (by rw [hp_setObj_ne (by omega)]; exact b3)
    have mo : ∀ b, b ≠ n + 2 → b ≠ n + 3 → hp w6 b = hp w5 b := fun b h1 h2 => by rw [hw6, hp_setObj_ne h2, hp_setObj_ne h1]
    have m0 : hp w6 n = some (.cells #[.string ⟨⟨key⟩⟩] 9 (0, 0)) := by rw [mo n (by omega) (by omega)]; exact b0
    have m1 : hp w6 (n + 1) = some (.cells #[.string ⟨⟨s⟩⟩] 9 (0, 0)) := by rw [mo (n + 1) (by omega) (by omega)]; exact b1
    have mz : w6.heap.size = w5.heap.size := by rw [hw6]; simp [setObj']
    have mt : w6.tape = w5.tape ∧ w6.os = w5.os ∧ w6.output = w5.output := by rw [hw6]; exact ⟨rfl, rfl, rfl⟩
    have hS5none : ∀ b, n ≤ b → b < n + 4 → S5 b = none := fun b h1 h2 => by
      cases hs : S5 b with
      | none => rfl
      | some o =>
        rcases hnew b (by rw [hs]; simp) with h | h
        · have := hltS b h; omega
        · omega
    have hS6 : Sub S5 (hp w6) := fun b o hb => by
      rw [mo b (fun h => by subst h; rw [hS5none (n + 2) (by omega) (by omega)] at hb; cases hb) (fun h => by subst h; rw [hS5none (n + 3) (by omega) (by omega)] at hb; cases hb)]
      exact hS5w b o hb
    have hc := box_Open1_ctd N w6 S5 (mkS [(0, .box (.int .i64)), (0, .box .str), (0, .box .str), (0, .box .str)] 0 (e, key, s, [], ())) [.pointer (some ⟨n + 3, 0, none⟩), .pointer (some ⟨n, 0, none⟩), .pointer (some ⟨n + 1, 0, none⟩), .pointer (some ⟨n + 2, 0, none⟩)]
      (fun i => match i with | 0 => [n + 3] | 1 => [n] | 2 => [n + 1] | 3 => [n + 2] | _ => []) ⟨rfl, fun i x hx => ?_, fun i hi => ?_, fun i j b hi hj => ?_, fun i => ?_, fun i b hb => ?_⟩ hS6 (hg.mono hS5) z (by show box_Open1 N e key s [] = some z; exact ho)
    · refine CallsD.mono hc ?_
      rintro r u w7 ⟨rfl, v, S7, o, ob7, rfl, hwf, hS57, hS7, hnew7, _, _, _, houts, _⟩
      obtain ⟨x3, v3, hx3, hv3, _, hA3⟩ := houts 3 _ rfl rfl
      obtain ⟨x0, v0, hx0, hv0', _, hA0'⟩ := houts 0 _ rfl rfl
      have hx3' : x3 = .box .str z.2.2.2.2.1 := (Option.some.inj hx3).symm
      have hx0' : x0 = .box (.int .i64) z.2.1 := (Option.some.inj hx0).symm
      have hv3' : v3 = .pointer (some ⟨n + 2, 0, none⟩) := (Option.some.inj hv3).symm
      have hv0'' : v0 = .pointer (some ⟨n + 3, 0, none⟩) := (Option.some.inj hv0').symm
      subst hx3'; subst hx0'; subst hv3'; subst hv0''
      obtain ⟨q3, E3, f3, g3, h3⟩ := box_Open_back rfl rfl hA3
      obtain ⟨q0, E0, f0, g0, h0⟩ := box_Open_back rfl rfl hA0'
      have h3' : q3 = .string ⟨⟨z.2.2.2.2.1⟩⟩ := by simpa [Rd] using h3
      have h0' : q0 = .int .i64 z.2.1 := by simpa [Rd] using h0
      subst h3'; subst h0'
      refine ⟨⟨v, rfl⟩, rfl, by simp only [hp] at g3; simp [World.cell?, g3], by simp only [hp] at g0; simp [World.cell?, g0], _, S7, [], ob, rfl, ⟨?_, fun b hb _ => ?_, ?_, ?_, ?_⟩, hS5.trans hS57, hS7, fun b hb => ?_, ⟨⟨rfl, _, rfl, .cons VR.str (.cons VR.int .nil)⟩, rfl⟩, (fun k hk => by cases hk), .nil, ?_, ?_, har.inj, har.nd, fun i hi => hi⟩
      · have := hwf.size; omega
      · have h1 := hwf.same b (by omega) (by
          rintro ⟨i, hi⟩
          match i with
          | 0 => simp at hi; omega
          | 1 => simp at hi; omega
          | 2 => simp at hi; omega
          | 3 => simp at hi; omega
          | i + 4 => simp at hi)
        have h2 := mo b (by omega) (by omega)
        simp only [hp] at h2
        rw [h1, h2, hbel.block b (by omega), kl b (by omega)]
      · rw [hwf.tape, mt.1, hbel.tape, t4.1]
      · rw [hwf.os, mt.2.1, hbel.os, t4.2.1]
      · rw [hwf.output, mt.2.2, hbel.output, t4.2.2]
      · rcases hnew7 b hb with h | ⟨i, hi⟩ | h
        · rcases hnew b h with h | h
          · exact .inl h
          · exact .inr (.inr (by omega))
        · refine .inr (.inr ?_)
          match i with
          | 0 => simp at hi; omega
          | 1 => simp at hi; omega
          | 2 => simp at hi; omega
          | 3 => simp at hi; omega
          | i + 4 => simp at hi
        · exact .inr (.inr (by omega))
      · intro i x hx hbx
        match i with
        | 0 => simp [mkS, deads, AS.mk] at hx; subst hx; cases hbx
        | 1 => simp [mkS, deads, AS.mk] at hx; subst hx; cases hbx
        | i + 2 => simp [mkS, deads] at hx
      · intro i k hk
        rw [hnone i] at hk; cases hk
    · match i with
      | 0 => simp [mkS, deads, AS.mk] at hx; subst hx; exact ⟨⟨_, rfl, box_Open_box rfl m3 rfl⟩, rfl⟩
      | 1 => simp [mkS, deads, AS.mk] at hx; subst hx; exact ⟨⟨_, rfl, box_Open_box rfl m0 rfl⟩, rfl⟩
      | 2 => simp [mkS, deads, AS.mk] at hx; subst hx; exact ⟨⟨_, rfl, box_Open_box rfl m1 rfl⟩, rfl⟩
      | 3 => simp [mkS, deads, AS.mk] at hx; subst hx; exact ⟨⟨_, rfl, box_Open_box rfl m2 rfl⟩, rfl⟩
      | i + 4 => simp [mkS, deads] at hx
    · match i with
      | 0 => simp [mkS, deads] at hi
      | 1 => simp [mkS, deads] at hi
      | 2 => simp [mkS, deads] at hi
      | 3 => simp [mkS, deads] at hi
      | i + 4 => rfl
    · match i, j with
      | 0, 0 => rfl
      | 1, 1 => rfl
      | 2, 2 => rfl
      | 3, 3 => rfl
      | i + 4, _ => cases hi
      | 0, 1 => simp at hi hj; omega
      | 0, 2 => simp at hi hj; omega
      | 0, 3 => simp at hi hj; omega
      | 1, 0 => simp at hi hj; omega
      | 1, 2 => simp at hi hj; omega
      | 1, 3 => simp at hi hj; omega
      | 2, 0 => simp at hi hj; omega
      | 2, 1 => simp at hi hj; omega
      | 2, 3 => simp at hi hj; omega
      | 3, 0 => simp at hi hj; omega
      | 3, 1 => simp at hi hj; omega
      | 3, 2 => simp at hi hj; omega
      | 0, j + 4 => cases hj
      | 1, j + 4 => cases hj
      | 2, j + 4 => cases hj
      | 3, j + 4 => cases hj
    · match i with
      | 0 => simp
      | 1 => simp
      | 2 => simp
      | 3 => simp
      | i + 4 => exact .nil
    · match i with
      | 0 => simp at hb; subst hb; exact hS5none _ (by omega) (by omega)
      | 1 => simp at hb; subst hb; exact hS5none _ (by omega) (by omega)
      | 2 => simp at hb; subst hb; exact hS5none _ (by omega) (by omega)
      | 3 => simp at hb; subst hb; exact hS5none _ (by omega) (by omega)
      | i + 4 => cases hb
  have cells : ∀ w5, Go.RowKit.Below W4.heap.size W4 w5 → w5.cell? ⟨n + 2, 0, none⟩ = some (.string ⟨#[]⟩) ∧ w5.frozen? ⟨n + 2, 0, none⟩ = false ∧ w5.cell? ⟨n + 3, 0, none⟩ = some (.int .i64 0) ∧ w5.frozen? ⟨n + 3, 0, none⟩ = false := by
    intro w5 hbel
    have b2 := hbel.block (n + 2) (by omega)
    have b3 := hbel.block (n + 3) (by omega)
    rw [k2] at b2; rw [k3] at b3
    exact ⟨by simp [World.cell?, b2], by simp [World.frozen?, b2], by simp [World.cell?, b3], by simp [World.frozen?, b3]⟩
  clear k0 k1 k2 k3 kl z4 t4 hS4 hlen har hnone ho he hA0 hA1
  subst hW4; subst hn
  go_enter_defers Tryz.func18, Tryz.ntmps18
  go_wp2_with (go_at_call 40; refine hck.mono ?_; rintro r w5 ⟨rfl, hbel, hS5⟩; obtain ⟨d2, d2', d3, d3'⟩ := cells w5 hbel; have HM := Go.Lib.hid (main w5 hbel hS5); clear hck cells main hbel hS5)
  refine leaves_cons (f := 38) (args := #[.pointer (some ⟨w.heap.size + 1 + 1 + 1, 0, none⟩), .pointer (some ⟨w.heap.size, 0, none⟩), .pointer (some ⟨w.heap.size + 1, 0, none⟩), .pointer (some ⟨w.heap.size + 1 + 1, 0, none⟩)]) (by simp) (by simp [go_sem]) ?_
  refine (HM.out).mono ?_
  rintro r u w7 ⟨⟨v, rfl⟩, rfl, c2, c3, hend⟩
  refine ⟨_, ?_, hend⟩
  simp [results, Tryz.results18, go_sem, c2, c3]

noncomputable def body_51 : Code := (Tryz.f60.body).getD .skip

noncomputable def L_51 : List (List Nat × List Nat) := [([0], [0]), ([0, 0, 1], [9, 0]), ([1, 0, 1], [0]), ([0, 0, 1, 0, 1], [2, 3, 4]), ([1, 0, 1, 0, 1], [2, 3, 4]), ([0, 1, 1], [5, 0]), ([0, 0, 1, 1, 1], [10, 5, 0]), ([0, 1, 0, 1, 1, 1], [10, 5, 0]), ([0, 0, 0, 1, 0, 1, 1, 1], [11, 10, 5, 0]), ([0, 1, 0, 0, 1, 0, 1, 1, 1], [10, 5, 0]), ([1, 0, 1, 0, 0, 1, 0, 1, 1, 1], [0, 5]), ([0, 0, 0, 1, 1, 0, 0, 1, 0, 1, 1, 1], [5, 0, 6, 10]), ([1, 0, 0, 1, 1, 0, 0, 1, 0, 1, 1, 1], [10, 5, 0]), ([0, 1, 1, 0, 0, 1, 0, 1, 1, 1], [10, 5, 0]), ([1, 1, 1, 0, 0, 1, 0, 1, 1, 1], [10, 5, 0]), ([1, 0, 1, 1, 1], [0, 5]), ([0, 1, 1, 1, 1], [5, 0]), ([0, 0, 1, 1, 1, 1, 1], [27, 0, 5]), ([1, 0, 1, 1, 1, 1, 1], [0, 5]), ([0, 0, 1, 0, 1, 1, 1, 1, 1], [2, 3, 4]), ([1, 0, 1, 0, 1, 1, 1, 1, 1], [2, 3, 4]), ([0, 1, 1, 1, 1, 1, 1], [2, 3, 4]), ([1, 1, 1, 1, 1, 1, 1], [2, 3, 4])]

noncomputable def E_51 (N : Nat) : Env := mkEnv tys glob [] [] [] [] false [] [(79, stream_blocks1_itr N), (50, hmac_framed1_itr N)]

theorem Eok_51 (N : Nat) : EnvOk Tryz.prog (E_51 N) := mkEnv_ok mixed tys_ok (FnsOk.nil) (ItsOk.cons (stream_blocks1_it N) (ItsOk.cons (hmac_framed1_it N) (ItsOk.nil)))

noncomputable def hmac_cut_s1 (N : Nat) (s : (List UInt8)) (n : Int) (x10 : Int) (rec : Int → Int → Option ((List UInt8) × (List UInt8) × Bool × Unit)) (k0 : Int → Option ((List UInt8) × (List UInt8) × Bool × Unit)) : Option ((List UInt8) × (List UInt8) × Bool × Unit) :=
  cond (decide (x10 < (8 : Int)))
  (cond (inR x10 (List.length s))
    (rec (bitsOp Go.BinOp.or IntKind.u64 (shlI IntKind.u64 n (8 : Int)) (IntKind.wrap IntKind.u64 (((UInt8.toNat (List.getD s (Int.toNat x10) (0 : UInt8))) : Nat) : Int))) (IntKind.wrap IntKind.i64 (x10 + (1 : Int))))
    (none))
  (k0 n)

noncomputable def hmac_cut_p1 (N : Nat) (s : (List UInt8)) (n : Int) (x10 : Int) (k0 : Int → Option ((List UInt8) × (List UInt8) × Bool × Unit)) : Option ((List UInt8) × (List UInt8) × Bool × Unit) :=
  iter (fun (v : (Int × Int)) r => hmac_cut_s1 N s v.1 v.2 (fun n x10 => (r (n, x10))) k0) N (n, x10)

noncomputable def g1_51 (N : Nat) (i : (List UInt8)) (v : (Int × Int)) (r : (Int × Int) → Option ((List UInt8) × (List UInt8) × Bool × Unit)) (K : Ex → List A → Option ((List UInt8) × (List UInt8) × Bool × Unit)) : Option ((List UInt8) × (List UInt8) × Bool × Unit) :=
  hmac_cut_s1 N i v.1 v.2 (fun n x10 => (r (n, x10))) (fun a1 => (K (.exit 0) (mkS [(0, .v .str), (4, .v (.int .u64))] 28 (i, a1, ()))))

noncomputable def h1_51 (N : Nat) : Hd ((List UInt8) × (List UInt8) × Bool × Unit) := fun st K => (unS [(0, .v .str), (4, .v (.int .u64)), (4, .v (.int .i64))] 23 (restr [10, 5, 0] 0 st)).bind fun x => iter (fun v r => g1_51 N ((fun x => x.1) x) v r K) N ((fun x => (x.2.1, x.2.2.1)) x)

noncomputable def t1_51 (N : Nat) : Tab ((List UInt8) × (List UInt8) × Bool × Unit) := []

theorem ok1_51 {N : Nat} {c : Ctx} (hb : Base Tryz.prog (E_51 N) c) : CodeOk Tryz.prog c (nodeAt body_51 [0, 1, 0, 1, 1, 1]) (h1_51 N) :=
  loop_ok (s := [(0, .v .str), (4, .v (.int .u64)), (4, .v (.int .i64))]) (m := 23) (g1_51 N) [10, 5, 0] N (fun x => x.1) (fun x => (x.2.1, x.2.2.1)) (fun i v => (i, v.1, v.2, ())) (fun _ => rfl) (evN_sound hb N (t1_51 N) L_51 body_51 TabOk.nil [0, 0, 1, 0, 1, 1, 1] _ rfl) (fun i v r K => by kernel_rfl)

noncomputable def hmac_cut (N : Nat) (s : (List UInt8)) : Option ((List UInt8) × (List UInt8) × Bool × Unit) :=
  cond (decide ((((List.length s) : Nat) : Int) < (8 : Int)))
  (some (([] : List UInt8), (([] : List UInt8), (false, ()))))
  (hmac_cut_p1 N s (0 : Int) (0 : Int)
    (fun n => cond (decide (((0 : Int) ≤ (8 : Int)) ∧ ((8 : Int) ≤ (((List.length s) : Nat) : Int))))
      (cond (decide ((IntKind.wrap IntKind.u64 (((List.length (cut s 8 (List.length s))) : Nat) : Int)) < n))
        (some (([] : List UInt8), (([] : List UInt8), (false, ()))))
        (cond (decide (((0 : Int) ≤ n) ∧ (n ≤ (((List.length (cut s 8 (List.length s))) : Nat) : Int))))
          (cond (decide (((0 : Int) ≤ n) ∧ (n ≤ (((List.length (cut s 8 (List.length s))) : Nat) : Int))))
            (some ((cut (cut s 8 (List.length s)) 0 (Int.toNat n)), ((cut (cut s 8 (List.length s)) (Int.toNat n) (List.length (cut s 8 (List.length s)))), (true, ()))))
            (none))
          (none)))
      (none)))

noncomputable def t_51 (N : Nat) : Tab ((List UInt8) × (List UInt8) × Bool × Unit) := [([0, 1, 0, 1, 1, 1], h1_51 N)]

theorem link_51 (N : Nat) (x : denS [(0, .v .str)]) : evFX (E_51 N) N (t_51 N) L_51 Tryz.f60 (mkS [(0, .v .str)] 0 x) (kRes (.tup [.str, .str, .bool]) 1) = hmac_cut N x.1 := by kernel_rfl

noncomputable def hmac_cut_res (N : Nat) : List A → Res := resOf [(0, .v .str)] (fun x => hmac_cut N x.1) (oRes (.tup [.str, .str, .bool]) 1)

theorem hmac_cut_ct (N : Nat) : Contract Tryz.prog glob 60 (hmac_cut_res N) :=
  Contract.of (E := E_51 N) (H := t_51 N) (L := L_51) (N := N) (body := body_51) (K := (kRes (.tup [.str, .str, .bool]) 1)) (Eok_51 N) Tryz.func60 (by kernel_rfl) (by decide) (fun _ hb => (TabOk.cons (ok1_51 hb) TabOk.nil)) (fun x y h => by rw [link_51]; exact h) (kRes_ok (s := (.tup [.str, .str, .bool])) (m := 1))

noncomputable def body_52 : Code := (Tryz.f59.body).getD .skip

noncomputable def L_52 : List (List Nat × List Nat) := [([0], [3, 0]), ([0, 1], [3, 0]), ([0, 0, 0, 0, 1], [9, 3, 0]), ([1, 0, 0, 0, 1], [3, 0]), ([1, 1, 0, 0, 0, 1], [0]), ([0, 0, 1, 0, 0, 1], [0, 4, 6, 5]), ([0, 0, 1, 0, 1, 0, 0, 1], [24, 0, 5]), ([1, 0, 1, 0, 1, 0, 0, 1], [5, 0]), ([0, 1, 0, 1, 0, 1, 0, 0, 1], [0]), ([1, 1, 0, 1, 0, 0, 1], [3, 0]), ([1, 0, 0, 1], [3, 0]), ([1], [0])]

noncomputable def E_52 (N : Nat) : Env := mkEnv tys glob [(60, hmac_cut_res N)] [] [] [0] false [] []

theorem Eok_52 (N : Nat) : EnvOk Tryz.prog (E_52 N) := mkEnv_ok mixed tys_ok (FnsOk.cons (hmac_cut_ct N) (FnsOk.nil)) ItsOk.nil

noncomputable def hmac_split1_s1 (N : Nat) (s : (List UInt8)) (rec : (List UInt8) → Option (List ((List UInt8) × Bool × Unit))) (k0 : Option (List ((List UInt8) × Bool × Unit))) (k1 : Option (List ((List UInt8) × Bool × Unit))) : Option (List ((List UInt8) × Bool × Unit)) :=
  cond (!(s == ([] : List UInt8)))
  ((hmac_cut N s).bind fun y =>
    comb (y.1, (y.2.2.1, ()))
    (cond (!y.2.2.1)
      (k0)
      (rec y.2.1))
    (k0))
  (k1)

noncomputable def hmac_split1_p1 (N : Nat) (s : (List UInt8)) (k0 : Option (List ((List UInt8) × Bool × Unit))) (k1 : Option (List ((List UInt8) × Bool × Unit))) : Option (List ((List UInt8) × Bool × Unit)) :=
  iter (fun (v : (List UInt8)) r => hmac_split1_s1 N v (fun s => (r s)) k0 k1) N s

noncomputable def g1_52 (N : Nat) (i : Unit) (v : (List UInt8)) (r : (List UInt8) → Option (List ((List UInt8) × Bool × Unit))) (K : Ex → List A → Option (List ((List UInt8) × Bool × Unit))) : Option (List ((List UInt8) × Bool × Unit)) :=
  hmac_split1_s1 N v (fun s => (r s)) (K .ret (mkS [(0, .yld)] 25 ((), ()))) (K (.exit 0) (mkS [(0, .yld)] 25 ((), ())))

noncomputable def h1_52 (N : Nat) : Hd (List ((List UInt8) × Bool × Unit)) := fun st K => (unS [(0, .yld), (2, .v .str)] 22 (restr [3, 0] 0 st)).bind fun x => iter (fun v r => g1_52 N ((fun x => ()) x) v r K) N ((fun x => x.2.1) x)

noncomputable def t1_52 (N : Nat) : Tab (List ((List UInt8) × Bool × Unit)) := []

theorem ok1_52 {N : Nat} {G : GY [.str, .bool]} (hG : RestrOk G) (hev : EvOk G Tryz.prog (E_52 N) N L_52 body_52) : YOk G Tryz.prog (nodeAt body_52 [0, 1]) (h1_52 N) :=
  loopY_ok hG (s := [(0, .yld), (2, .v .str)]) (m := 22) (g1_52 N) [3, 0] N (fun x => ()) (fun x => x.2.1) (fun i v => ((), v, ())) (fun _ => rfl) (hev (t1_52 N) TabOkY.nil [0, 0, 1]) (fun i v r K => by kernel_rfl)

noncomputable def hmac_split1 (N : Nat) (x1 : (List UInt8)) : Option (List ((List UInt8) × Bool × Unit)) :=
  hmac_split1_p1 N x1
  (some ([] : List ((List UInt8) × (Bool × Unit))))
  (some ([] : List ((List UInt8) × (Bool × Unit))))

noncomputable def t_52 (N : Nat) : Tab (List ((List UInt8) × Bool × Unit)) := [([0, 1], h1_52 N)]

theorem link_52 (N : Nat) (x : T.den (.pair (.ptr .str) .unit)) : evYX (E_52 N) [.str, .bool] comb N (t_52 N) L_52 Tryz.f59 [.v (.ptr .str) x.1] = hmac_split1 N x.1 := by kernel_rfl

noncomputable def hmac_split1_itr (N : Nat) : Dat → ItRes := itRes (ts := [.str, .bool]) (.pair (.ptr .str) .unit) (fun x => hmac_split1 N x.1)

theorem hmac_split1_it (N : Nat) : ItOk Tryz.prog glob 59 (hmac_split1_itr N) := ItOk.of (ts := [.str, .bool]) (E := E_52 N) (H := t_52 N) (L := L_52) (N := N) (body := body_52) (Eok_52 N) rfl Tryz.func59 (by kernel_rfl) (by decide) (fun G hG hev => (TabOkY.cons (ok1_52 hG hev) TabOkY.nil)) (fun x y h => ⟨_, rfl, by rw [link_52]; exact h⟩)

noncomputable def body_53 : Code := (Tryz.f41.body).getD .skip

noncomputable def L_53 : List (List Nat × List Nat) := [([0], [1]), ([0, 1], [2]), ([1, 1], [2])]

noncomputable def E_53 (N : Nat) : Env := mkEnv tys glob [] [] [] [] false [] [(59, hmac_split1_itr N), (79, stream_blocks1_itr N), (50, hmac_framed1_itr N)]

theorem Eok_53 (N : Nat) : EnvOk Tryz.prog (E_53 N) := mkEnv_ok mixed tys_ok (FnsOk.nil) (ItsOk.cons (hmac_split1_it N) (ItsOk.cons (stream_blocks1_it N) (ItsOk.cons (hmac_framed1_it N) (ItsOk.nil))))

noncomputable def hmac_split (N : Nat) (s : (List UInt8)) : Option DT4 :=
  some (s, ())

noncomputable def t_53 (N : Nat) : Tab DT4 := []

theorem link_53 (N : Nat) (x : denS [(0, .v .str)]) : evFX (E_53 N) N (t_53 N) L_53 Tryz.f41 (mkS [(0, .v .str)] 0 x) (kRes (.v (.fn 59 (.pair (.ptr .str) .unit))) 1) = hmac_split N x.1 := by kernel_rfl

noncomputable def hmac_split_res (N : Nat) : List A → Res := resOf [(0, .v .str)] (fun x => hmac_split N x.1) (oRes (.v (.fn 59 (.pair (.ptr .str) .unit))) 1)

theorem hmac_split_ct (N : Nat) : Contract Tryz.prog glob 41 (hmac_split_res N) :=
  Contract.of (E := E_53 N) (H := t_53 N) (L := L_53) (N := N) (body := body_53) (K := (kRes (.v (.fn 59 (.pair (.ptr .str) .unit))) 1)) (Eok_53 N) Tryz.func41 (by kernel_rfl) (by decide) (fun _ hb => TabOk.nil) (fun x y h => by rw [link_53]; exact h) (kRes_ok (s := (.v (.fn 59 (.pair (.ptr .str) .unit)))) (m := 1))

noncomputable def body_54 : Code := (Tryz.f19.body).getD .skip

noncomputable def L_54 : List (List Nat × List Nat) := [([0], [0, 2, 3]), ([0, 1], [0, 4, 2, 3]), ([0, 0, 1, 1], [8, 4, 2, 3]), ([0, 1, 0, 1, 1], [4, 2, 3]), ([0, 0, 0, 1, 0, 1, 1], [10, 2, 3, 4, 5]), ([1, 0, 0, 1, 0, 1, 1], [6, 2, 3, 4, 5]), ([0, 0, 0, 1, 0, 1, 0, 1, 1], [12, 2, 3, 4, 5]), ([1, 0, 0, 1, 0, 1, 0, 1, 1], [4, 5, 2, 3]), ([0, 0, 1, 0, 0, 1, 0, 1, 0, 1, 1], [2, 3]), ([1, 0, 1, 0, 0, 1, 0, 1, 0, 1, 1], [2, 3]), ([1, 0, 1, 0, 1, 0, 1, 1], [4, 2, 3]), ([1, 0, 1, 0, 1, 1], [4, 2, 3]), ([1, 0, 1, 1], [4, 2, 3]), ([0, 1, 1, 1], [2, 3]), ([1, 1, 1, 1], [2, 3])]

noncomputable def E_54 (N : Nat) : Env := mkEnv tys glob [(41, hmac_split_res N)] [] [] [] false [(4, (.own .str))] [(59, hmac_split1_itr N), (79, stream_blocks1_itr N), (50, hmac_framed1_itr N)]

theorem Eok_54 (N : Nat) : EnvOk Tryz.prog (E_54 N) := mkEnv_ok mixed tys_ok (FnsOk.cons (hmac_split_ct N) (FnsOk.nil)) (ItsOk.cons (hmac_split1_it N) (ItsOk.cons (stream_blocks1_it N) (ItsOk.cons (hmac_framed1_it N) (ItsOk.nil))))

noncomputable def hmac_Split_s1 (N : Nat) (x2_1 : (List (List UInt8))) (x3_1 : Bool) (parts_1 : (List (List UInt8))) (y : ((List UInt8) × Bool × Unit)) (rec : (List (List UInt8)) → Option DT6) (k0 : (List (List UInt8)) → Bool → (List (List UInt8)) → Option DT6) (k1 : (List (List UInt8)) → Option DT6) : Option DT6 :=
  cond (!y.2.1)
  (k0 ([] : List (List UInt8)) false parts_1)
  (cond (decide ((((List.length parts_1) + 1) * 16) ≤ 70368744177664))
    (rec (parts_1 ++ ([y.1] : List (List UInt8))))
    (none))

noncomputable def hmac_Split_fit1 (N : Nat) (x2 : (List (List UInt8))) (x3 : Bool) (parts : (List (List UInt8))) (x8 : DT4) : Option (List ((List UInt8) × Bool × Unit)) := (hmac_split1 N x8.1)

noncomputable def hmac_Split_i1 (N : Nat) (x2 : (List (List UInt8))) (x3 : Bool) (parts : (List (List UInt8))) (x8 : DT4) : ((List (List UInt8)) × Bool) := (x2, x3)

noncomputable def hmac_Split_v1 (N : Nat) (x2 : (List (List UInt8))) (x3 : Bool) (parts : (List (List UInt8))) (x8 : DT4) : (List (List UInt8)) := parts

noncomputable def hmac_Split_p1 (N : Nat) (x2 : (List (List UInt8))) (x3 : Bool) (parts : (List (List UInt8))) (x8 : DT4) (k0 : (List (List UInt8)) → Bool → (List (List UInt8)) → Option DT6) (k1 : (List (List UInt8)) → Option DT6) : Option DT6 :=
  (hmac_Split_fit1 N x2 x3 parts x8).bind fun ys => iterL (fun (y : ((List UInt8) × Bool × Unit)) (v : (List (List UInt8))) r => hmac_Split_s1 N x2 x3 v y (fun parts_1 => (r parts_1)) k0 k1) (fun (v : (List (List UInt8))) => k1 v) ys parts

noncomputable def g1_54 (N : Nat) (y : ((List UInt8) × Bool × Unit)) (i : ((List (List UInt8)) × Bool)) (v : (List (List UInt8))) (r : (List (List UInt8)) → Option DT6) (K : Ex → List A → Option DT6) : Option DT6 :=
  hmac_Split_s1 N i.1 i.2 v y (fun parts_1 => (r parts_1)) (fun a0 a1 a2 => (K .ret (mkS [(2, .box (.sl .str)), (0, .box .bool), (0, .box (.own .str))] 13 (a0, a1, a2, ())))) (fun a2 => (K .normal (mkS [(2, .box (.sl .str)), (0, .box .bool), (0, .box (.own .str))] 13 (i.1, i.2, a2, ()))))

noncomputable def h1_54 (N : Nat) : Hd DT6 := fun st K => (unS [(2, .box (.sl .str)), (0, .box .bool), (0, .box (.own .str)), (3, .v (.fn 59 (.pair (.ptr .str) .unit)))] 9 (restr [8, 4, 2, 3] 0 st)).bind fun x => ((fun x => hmac_Split_fit1 N x.1 x.2.1 x.2.2.1 x.2.2.2.1) x).bind fun xs => iterL (fun y v r => g1_54 N y ((fun x => hmac_Split_i1 N x.1 x.2.1 x.2.2.1 x.2.2.2.1) x) v r K) (fun v => K .normal (mkS [(2, .box (.sl .str)), (0, .box .bool), (0, .box (.own .str))] 13 ((fun i v => (i.1, i.2, v, ())) ((fun x => hmac_Split_i1 N x.1 x.2.1 x.2.2.1 x.2.2.2.1) x) v))) xs ((fun x => hmac_Split_v1 N x.1 x.2.1 x.2.2.1 x.2.2.2.1) x)

theorem ok1_54 {N : Nat} {c : Ctx} (hb : Base Tryz.prog (E_54 N) c) : CodeOk Tryz.prog c (nodeAt body_54 [0, 1, 0, 1, 1]) (h1_54 N) :=
  rf_ok (ts := [.str, .bool]) (s := [(2, .box (.sl .str)), (0, .box .bool), (0, .box (.own .str)), (3, .v (.fn 59 (.pair (.ptr .str) .unit)))]) (m := 9) (s2 := [(2, .box (.sl .str)), (0, .box .bool), (0, .box (.own .str))]) (m2 := 13) [8, 4, 2, 3] (fun x => hmac_Split_fit1 N x.1 x.2.1 x.2.2.1 x.2.2.2.1) (fun x => hmac_Split_i1 N x.1 x.2.1 x.2.2.1 x.2.2.2.1) (fun x => hmac_Split_v1 N x.1 x.2.1 x.2.2.1 x.2.2.2.1) (fun i v => (i.1, i.2, v, ())) (rfF (E_54 N) N [.str, .bool] (nodeAt body_54 [0, 1, 0, 1, 1])) (g1_54 N) (evN_sound hb N [] L_54 body_54 TabOk.nil [0, 1, 0, 1, 1] _ rfl) (fun x K => by kernel_rfl) (fun y i v r K => by kernel_rfl)

noncomputable def hmac_Split (N : Nat) (s : (List UInt8)) : Option DT6 :=
  hmac_Split_p1 N ([] : List (List UInt8)) false ([] : List (List UInt8)) (s, ())
  (fun x2 x3 parts => some (x2, (x3, ())))
  (fun parts_1 => some (parts_1, (true, ())))

noncomputable def t_54 (N : Nat) : Tab DT6 := [([0, 1, 0, 1, 1], h1_54 N)]

theorem link_54 (N : Nat) (x : denS [(0, .v .str)]) : evFX (E_54 N) N (t_54 N) L_54 Tryz.f19 (mkS [(0, .v .str)] 0 x) (kRes (.tup [(.sl .str), .bool]) 1) = hmac_Split N x.1 := by kernel_rfl

noncomputable def hmac_Split_res (N : Nat) : List A → Res := resOf [(0, .v .str)] (fun x => hmac_Split N x.1) (oRes (.tup [(.sl .str), .bool]) 1)

theorem hmac_Split_ct (N : Nat) : Contract Tryz.prog glob 19 (hmac_Split_res N) :=
  Contract.of (E := E_54 N) (H := t_54 N) (L := L_54) (N := N) (body := body_54) (K := (kRes (.tup [(.sl .str), .bool]) 1)) (Eok_54 N) Tryz.func19 (by kernel_rfl) (by decide) (fun _ hb => (TabOk.cons (ok1_54 hb) TabOk.nil)) (fun x y h => by rw [link_54]; exact h) (kRes_ok (s := (.tup [(.sl .str), .bool])) (m := 1))

noncomputable def body_55 : Code := (Tryz.f8.body).getD .skip

noncomputable def L_55 : List (List Nat × List Nat) := [([0], [0, 1, 4, 5]), ([0, 0, 1], [6, 7, 4, 5]), ([0, 0, 1, 0, 1], [19, 6, 7, 4, 5]), ([1, 0, 1, 0, 1], [7, 4, 5, 6]), ([0, 0, 1, 0, 1, 0, 1], [4, 5, 6]), ([1, 0, 1, 0, 1, 0, 1], [4, 5, 6]), ([0, 1, 1, 0, 1], [9, 8, 4, 5, 6]), ([0, 0, 1, 1, 1, 0, 1], [32, 8, 4, 5, 6]), ([1, 0, 1, 1, 1, 0, 1], [8, 4, 5, 6]), ([0, 0, 1, 0, 1, 1, 1, 0, 1], [4, 5, 6]), ([1, 0, 1, 0, 1, 1, 1, 0, 1], [4, 5, 6]), ([0, 0, 1, 1, 1, 1, 1, 0, 1], [35, 34, 33, 4, 5, 6]), ([0, 1, 0, 1, 1, 1, 1, 1, 0, 1], [35, 34, 33, 4, 5, 6]), ([0, 0, 0, 1, 0, 1, 1, 1, 1, 1, 0, 1], [36, 35, 33, 34, 5, 6, 4]), ([0, 1, 0, 0, 1, 0, 1, 1, 1, 1, 1, 0, 1], [35, 33, 34, 5, 6, 4]), ([1, 0, 1, 0, 0, 1, 0, 1, 1, 1, 1, 1, 0, 1], [4, 5, 6]), ([0, 0, 0, 1, 1, 0, 0, 1, 0, 1, 1, 1, 1, 1, 0, 1], [10, 11, 35, 34, 33, 5, 6, 4]), ([0, 1, 0, 0, 1, 1, 0, 0, 1, 0, 1, 1, 1, 1, 1, 0, 1], [40, 11, 35, 34, 33, 5, 6, 4]), ([0, 0, 1, 1, 0, 0, 1, 1, 0, 0, 1, 0, 1, 1, 1, 1, 1, 0, 1], [41, 11, 35, 34, 33, 5, 6, 40, 4]), ([1, 0, 1, 1, 0, 0, 1, 1, 0, 0, 1, 0, 1, 1, 1, 1, 1, 0, 1], [35, 34, 33, 4, 5, 6]), ([0, 1, 1, 0, 1, 1, 0, 0, 1, 1, 0, 0, 1, 0, 1, 1, 1, 1, 1, 0, 1], [44, 11, 35, 34, 33, 4, 6]), ([1, 1, 1, 0, 1, 1, 0, 0, 1, 1, 0, 0, 1, 0, 1, 1, 1, 1, 1, 0, 1], [35, 34, 33, 4, 5, 6]), ([0, 1, 1, 1, 1, 0, 1, 1, 0, 0, 1, 1, 0, 0, 1, 0, 1, 1, 1, 1, 1, 0, 1], [4, 5, 6]), ([1, 1, 1, 1, 1, 0, 1, 1, 0, 0, 1, 1, 0, 0, 1, 0, 1, 1, 1, 1, 1, 0, 1], [4, 5, 6]), ([0, 1, 1, 1, 0, 1, 1, 0, 0, 1, 1, 0, 0, 1, 0, 1, 1, 1, 1, 1, 0, 1], [35, 34, 33, 4, 5, 6]), ([0, 1, 0, 1, 1, 0, 0, 1, 1, 0, 0, 1, 0, 1, 1, 1, 1, 1, 0, 1], [35, 34, 33, 4, 5, 6]), ([1, 1, 0, 0, 1, 1, 0, 0, 1, 0, 1, 1, 1, 1, 1, 0, 1], [35, 34, 33, 4, 5, 6]), ([0, 1, 1, 0, 0, 1, 0, 1, 1, 1, 1, 1, 0, 1], [35, 34, 33, 4, 5, 6]), ([1, 1, 1, 0, 0, 1, 0, 1, 1, 1, 1, 1, 0, 1], [35, 34, 33, 4, 5, 6]), ([1, 0, 1, 1, 1, 1, 1, 0, 1], [4, 5, 6]), ([0, 1, 1, 1, 1, 1, 1, 0, 1], [4, 5, 6]), ([1, 1, 1, 1, 1, 1, 1, 0, 1], [4, 5, 6]), ([1], [4, 5, 6])]

noncomputable def E_55 (N : Nat) : Env := mkEnv tys glob [(19, hmac_Split_res N), (18, box_Open_res N)] [] [] [] false [] [(59, hmac_split1_itr N), (79, stream_blocks1_itr N), (50, hmac_framed1_itr N)]

theorem Eok_55 (N : Nat) : EnvOk Tryz.prog (E_55 N) := mkEnv_ok mixed tys_ok (FnsOk.cons (hmac_Split_ct N) (FnsOk.cons (box_Open_ct N) (FnsOk.nil))) (ItsOk.cons (hmac_split1_it N) (ItsOk.cons (stream_blocks1_it N) (ItsOk.cons (hmac_framed1_it N) (ItsOk.nil))))

noncomputable def notary_Read_p2 (N : Nat) (key : (List UInt8)) (text : (List UInt8)) (e : Int) (parts : (List (List UInt8))) (ok : Bool) (k0 : Bool → Option DT5) : Option DT5 :=
  cond (!ok)
  (k0 true)
  (k0 (decide ((((List.length parts) : Nat) : Int) < (2 : Int))))

noncomputable def g2_55 (N : Nat) (x : denS [(4, .v .str), (0, .v .str), (0, .v (.int .i64)), (1, .v (.sl .str)), (0, .v .bool)]) (K : Ex → List A → Option DT5) : Option DT5 :=
  notary_Read_p2 N x.1 x.2.1 x.2.2.1 x.2.2.2.1 x.2.2.2.2.1 (fun a4 => (K .normal (mkS [(4, .v .str), (0, .v .str), (0, .v (.int .i64)), (1, .v (.sl .str)), (23, .v .bool)] 18 (x.1, x.2.1, x.2.2.1, x.2.2.2.1, a4, ()))))

noncomputable def h2_55 (N : Nat) : Hd DT5 := fun st K => (unS [(4, .v .str), (0, .v .str), (0, .v (.int .i64)), (1, .v (.sl .str)), (0, .v .bool)] 41 (restr [9, 8, 4, 5, 6] 0 st)).bind fun x => g2_55 N x K

noncomputable def t2_55 (N : Nat) : Tab DT5 := []

theorem ok2_55 {N : Nat} {c : Ctx} (hb : Base Tryz.prog (E_55 N) c) : CodeOk Tryz.prog c (nodeAt body_55 [0, 0, 1, 1, 1, 0, 1]) (h2_55 N) :=
  piece_ok (s := [(4, .v .str), (0, .v .str), (0, .v (.int .i64)), (1, .v (.sl .str)), (0, .v .bool)]) (m := 41) (g := g2_55 N) [9, 8, 4, 5, 6] (evN_sound hb N (t2_55 N) L_55 body_55 TabOk.nil [0, 0, 1, 1, 1, 0, 1] _ rfl) (fun x K => by kernel_rfl)

noncomputable def notary_Read_p1 (N : Nat) (key : (List UInt8)) (text : (List UInt8)) (e : Int) (parts : (List (List UInt8))) (ok : Bool) (k0 : (List UInt8) → (List UInt8) → Int → Option DT5) (k1 : Option DT5) : Option DT5 :=
  notary_Read_p2 N key text e parts ok
  (fun x32 => cond x32
    (k0 ([] : List UInt8) ([] : List UInt8) (2 : Int))
    (k1))

noncomputable def g1_55 (N : Nat) (x : denS [(4, .v .str), (0, .v .str), (0, .v (.int .i64)), (1, .v (.sl .str)), (0, .v .bool)]) (K : Ex → List A → Option DT5) : Option DT5 :=
  notary_Read_p1 N x.1 x.2.1 x.2.2.1 x.2.2.2.1 x.2.2.2.2.1 (fun a0 a1 a2 => (K .ret (mkS [(4, .v .str), (0, .v .str), (0, .v (.int .i64))] 44 (a0, a1, a2, ())))) (K .normal (mkS [(4, .v .str), (0, .v .str), (0, .v (.int .i64)), (1, .v (.sl .str))] 42 (x.1, x.2.1, x.2.2.1, x.2.2.2.1, ())))

noncomputable def h1_55 (N : Nat) : Hd DT5 := fun st K => (unS [(4, .v .str), (0, .v .str), (0, .v (.int .i64)), (1, .v (.sl .str)), (0, .v .bool)] 41 (restr [9, 8, 4, 5, 6] 0 st)).bind fun x => g1_55 N x K

noncomputable def t1_55 (N : Nat) : Tab DT5 := [([0, 0, 1, 1, 1, 0, 1], h2_55 N)]

theorem ok1_55 {N : Nat} {c : Ctx} (hb : Base Tryz.prog (E_55 N) c) : CodeOk Tryz.prog c (nodeAt body_55 [0, 1, 1, 1, 0, 1]) (h1_55 N) :=
  piece_ok (s := [(4, .v .str), (0, .v .str), (0, .v (.int .i64)), (1, .v (.sl .str)), (0, .v .bool)]) (m := 41) (g := g1_55 N) [9, 8, 4, 5, 6] (evN_sound hb N (t1_55 N) L_55 body_55 (TabOk.cons (ok2_55 hb) TabOk.nil) [0, 1, 1, 1, 0, 1] _ rfl) (fun x K => by kernel_rfl)

noncomputable def notary_Read_s4 (N : Nat) (e : Int) (x33 : (List (List UInt8))) (x34 : Int) (key : (List UInt8)) (text : (List UInt8)) (x35 : Int) (rec : (List UInt8) → (List UInt8) → Int → Option DT5) (k0 : (List UInt8) → (List UInt8) → Int → Option DT5) : Option DT5 :=
  cond (decide (x35 < x34))
  (cond (inR x35 (List.length x33))
    (cond (x35 == (0 : Int))
      (rec (List.getD x33 (Int.toNat x35) ([] : List UInt8)) text (IntKind.wrap IntKind.i64 (x35 + (1 : Int))))
      (cond (x35 == (1 : Int))
        (rec key (List.getD x33 (Int.toNat x35) ([] : List UInt8)) (IntKind.wrap IntKind.i64 (x35 + (1 : Int))))
        (k0 ([] : List UInt8) ([] : List UInt8) (2 : Int))))
    (none))
  (k0 key text e)

noncomputable def notary_Read_p4 (N : Nat) (key : (List UInt8)) (text : (List UInt8)) (e : Int) (x33 : (List (List UInt8))) (x34 : Int) (x35 : Int) (k0 : (List UInt8) → (List UInt8) → Int → Option DT5) : Option DT5 :=
  iter (fun (v : ((List UInt8) × (List UInt8) × Int)) r => notary_Read_s4 N e x33 x34 v.1 v.2.1 v.2.2 (fun key text x35 => (r (key, text, x35))) k0) N (key, text, x35)

noncomputable def g4_55 (N : Nat) (i : (Int × (List (List UInt8)) × Int)) (v : ((List UInt8) × (List UInt8) × Int)) (r : ((List UInt8) × (List UInt8) × Int) → Option DT5) (K : Ex → List A → Option DT5) : Option DT5 :=
  notary_Read_s4 N i.1 i.2.1 i.2.2 v.1 v.2.1 v.2.2 (fun key text x35 => (r (key, text, x35))) (fun a0 a1 a2 => (K (.exit 0) (mkS [(4, .v .str), (0, .v .str), (0, .v (.int .i64))] 44 (a0, a1, a2, ()))))

noncomputable def h4_55 (N : Nat) : Hd DT5 := fun st K => (unS [(4, .v .str), (0, .v .str), (0, .v (.int .i64)), (26, .v (.sl .str)), (0, .v (.int .i64)), (0, .v (.int .i64))] 15 (restr [35, 34, 33, 4, 5, 6] 0 st)).bind fun x => iter (fun v r => g4_55 N ((fun x => (x.2.2.1, x.2.2.2.1, x.2.2.2.2.1)) x) v r K) N ((fun x => (x.1, x.2.1, x.2.2.2.2.2.1)) x)

noncomputable def t4_55 (N : Nat) : Tab DT5 := []

theorem ok4_55 {N : Nat} {c : Ctx} (hb : Base Tryz.prog (E_55 N) c) : CodeOk Tryz.prog c (nodeAt body_55 [0, 1, 0, 1, 1, 1, 1, 1, 0, 1]) (h4_55 N) :=
  loop_ok (s := [(4, .v .str), (0, .v .str), (0, .v (.int .i64)), (26, .v (.sl .str)), (0, .v (.int .i64)), (0, .v (.int .i64))]) (m := 15) (g4_55 N) [35, 34, 33, 4, 5, 6] N (fun x => (x.2.2.1, x.2.2.2.1, x.2.2.2.2.1)) (fun x => (x.1, x.2.1, x.2.2.2.2.2.1)) (fun i v => (v.1, v.2.1, i.1, i.2.1, i.2.2, v.2.2, ())) (fun _ => rfl) (evN_sound hb N (t4_55 N) L_55 body_55 TabOk.nil [0, 0, 1, 0, 1, 1, 1, 1, 1, 0, 1] _ rfl) (fun i v r K => by kernel_rfl)

noncomputable def notary_Read_p3 (N : Nat) (key : (List UInt8)) (text : (List UInt8)) (e : Int) (parts : (List (List UInt8))) (k0 : (List UInt8) → (List UInt8) → Int → Option DT5) : Option DT5 :=
  notary_Read_p4 N key text e parts (((List.length parts) : Nat) : Int) (0 : Int)
  (fun key1 text1 e1 => k0 key1 text1 e1)

noncomputable def g3_55 (N : Nat) (x : denS [(4, .v .str), (0, .v .str), (0, .v (.int .i64)), (1, .v (.sl .str))]) (K : Ex → List A → Option DT5) : Option DT5 :=
  notary_Read_p3 N x.1 x.2.1 x.2.2.1 x.2.2.2.1 (fun a0 a1 a2 => (K .normal (mkS [(4, .v .str), (0, .v .str), (0, .v (.int .i64))] 44 (a0, a1, a2, ()))))

noncomputable def h3_55 (N : Nat) : Hd DT5 := fun st K => (unS [(4, .v .str), (0, .v .str), (0, .v (.int .i64)), (1, .v (.sl .str))] 42 (restr [8, 4, 5, 6] 0 st)).bind fun x => g3_55 N x K

noncomputable def t3_55 (N : Nat) : Tab DT5 := [([0, 1, 0, 1, 1, 1, 1, 1, 0, 1], h4_55 N)]

theorem ok3_55 {N : Nat} {c : Ctx} (hb : Base Tryz.prog (E_55 N) c) : CodeOk Tryz.prog c (nodeAt body_55 [0, 1, 1, 1, 1, 1, 0, 1]) (h3_55 N) :=
  piece_ok (s := [(4, .v .str), (0, .v .str), (0, .v (.int .i64)), (1, .v (.sl .str))]) (m := 42) (g := g3_55 N) [8, 4, 5, 6] (evN_sound hb N (t3_55 N) L_55 body_55 (TabOk.cons (ok4_55 hb) TabOk.nil) [0, 1, 1, 1, 1, 1, 0, 1] _ rfl) (fun x K => by kernel_rfl)

noncomputable def notary_Read (N : Nat) (notary : (List UInt8)) (ticket : (List UInt8)) : Option DT5 :=
  (box_Open N notary ticket).bind fun y =>
  cond (y.2.1 != (0 : Int))
  (some (([] : List UInt8), (([] : List UInt8), (y.2.1, ()))))
  ((hmac_Split N y.1).bind fun y1 =>
    notary_Read_p1 N ([] : List UInt8) ([] : List UInt8) y.2.1 y1.1 y1.2.1
    (fun key text e => some (key, (text, (e, ()))))
    (notary_Read_p3 N ([] : List UInt8) ([] : List UInt8) y.2.1 y1.1
      (fun key1 text1 e1 => some (key1, (text1, (e1, ()))))))

noncomputable def t_55 (N : Nat) : Tab DT5 := [([0, 1, 1, 1, 0, 1], h1_55 N), ([0, 1, 1, 1, 1, 1, 0, 1], h3_55 N)]

theorem link_55 (N : Nat) (x : denS [(0, .v .str), (0, .v .str)]) : evFX (E_55 N) N (t_55 N) L_55 Tryz.f8 (mkS [(0, .v .str), (0, .v .str)] 0 x) (kRes (.tup [.str, .str, (.int .i64)]) 2) = notary_Read N x.1 x.2.1 := by kernel_rfl

noncomputable def notary_Read_res (N : Nat) : List A → Res := resOf [(0, .v .str), (0, .v .str)] (fun x => notary_Read N x.1 x.2.1) (oRes (.tup [.str, .str, (.int .i64)]) 2)

theorem notary_Read_ct (N : Nat) : Contract Tryz.prog glob 8 (notary_Read_res N) :=
  Contract.of (E := E_55 N) (H := t_55 N) (L := L_55) (N := N) (body := body_55) (K := (kRes (.tup [.str, .str, (.int .i64)]) 2)) (Eok_55 N) Tryz.func8 (by kernel_rfl) (by decide) (fun _ hb => (TabOk.cons (ok1_55 hb) (TabOk.cons (ok3_55 hb) TabOk.nil))) (fun x y h => by rw [link_55]; exact h) (kRes_ok (s := (.tup [.str, .str, (.int .i64)])) (m := 2))

noncomputable def body_56 : Code := (Tryz.f22.body).getD .skip

noncomputable def L_56 : List (List Nat × List Nat) := [([0], [0, 1]), ([0, 1], [4]), ([1, 1], [4])]

noncomputable def E_56 (N : Nat) : Env := mkEnv tys glob [(42, hmac_Parts_res N)] [] [] [] false [] [(59, hmac_split1_itr N), (79, stream_blocks1_itr N), (50, hmac_framed1_itr N)]

theorem Eok_56 (N : Nat) : EnvOk Tryz.prog (E_56 N) := mkEnv_ok mixed tys_ok (FnsOk.cons (hmac_Parts_ct N) (FnsOk.nil)) (ItsOk.cons (hmac_split1_it N) (ItsOk.cons (stream_blocks1_it N) (ItsOk.cons (hmac_framed1_it N) (ItsOk.nil))))

noncomputable def chain_Root (N : Nat) (key : (List UInt8)) (id_ : (List UInt8)) : Option (List UInt8) :=
  (hmac_Parts N key ([([(114 : UInt8), (111 : UInt8), (111 : UInt8), (116 : UInt8)] : List UInt8), id_] : List (List UInt8))).bind fun y =>
  some y

noncomputable def t_56 (N : Nat) : Tab (List UInt8) := []

theorem link_56 (N : Nat) (x : denS [(0, .v .str), (0, .v .str)]) : evFX (E_56 N) N (t_56 N) L_56 Tryz.f22 (mkS [(0, .v .str), (0, .v .str)] 0 x) (kRes (.v .str) 2) = chain_Root N x.1 x.2.1 := by kernel_rfl

noncomputable def chain_Root_res (N : Nat) : List A → Res := resOf [(0, .v .str), (0, .v .str)] (fun x => chain_Root N x.1 x.2.1) (oRes (.v .str) 2)

theorem chain_Root_ct (N : Nat) : Contract Tryz.prog glob 22 (chain_Root_res N) :=
  Contract.of (E := E_56 N) (H := t_56 N) (L := L_56) (N := N) (body := body_56) (K := (kRes (.v .str) 2)) (Eok_56 N) Tryz.func22 (by kernel_rfl) (by decide) (fun _ hb => TabOk.nil) (fun x y h => by rw [link_56]; exact h) (kRes_ok (s := (.v .str)) (m := 2))

noncomputable def body_57 : Code := (Tryz.f43.body).getD .skip

noncomputable def L_57 : List (List Nat × List Nat) := [([0], [1]), ([0, 1], [2]), ([1, 1], [2])]

noncomputable def E_57 (N : Nat) : Env := mkEnv tys glob [] [] [] [] false [] [(59, hmac_split1_itr N), (79, stream_blocks1_itr N), (50, hmac_framed1_itr N)]

theorem Eok_57 (N : Nat) : EnvOk Tryz.prog (E_57 N) := mkEnv_ok mixed tys_ok (FnsOk.nil) (ItsOk.cons (hmac_split1_it N) (ItsOk.cons (stream_blocks1_it N) (ItsOk.cons (hmac_framed1_it N) (ItsOk.nil))))

noncomputable def holder_addition_full (N : Nat) (a : (((List UInt8) × DT4) × (DT0 × Unit))) : Option Bool :=
  some (decide ((64 : Int) ≤ (((List.length a.2.1.2.1) : Nat) : Int)))

noncomputable def t_57 (N : Nat) : Tab Bool := []

theorem link_57 (N : Nat) (x : denS [(0, .v (.pair TT7 (.pair TT1 .unit)))]) : evFX (E_57 N) N (t_57 N) L_57 Tryz.f43 (mkS [(0, .v (.pair TT7 (.pair TT1 .unit)))] 0 x) (kRes (.v .bool) 1) = holder_addition_full N x.1 := by kernel_rfl

noncomputable def holder_addition_full_res (N : Nat) : List A → Res := resOf [(0, .v (.pair TT7 (.pair TT1 .unit)))] (fun x => holder_addition_full N x.1) (oRes (.v .bool) 1)

theorem holder_addition_full_ct (N : Nat) : Contract Tryz.prog glob 43 (holder_addition_full_res N) :=
  Contract.of (E := E_57 N) (H := t_57 N) (L := L_57) (N := N) (body := body_57) (K := (kRes (.v .bool) 1)) (Eok_57 N) Tryz.func43 (by kernel_rfl) (by decide) (fun _ hb => TabOk.nil) (fun x y h => by rw [link_57]; exact h) (kRes_ok (s := (.v .bool)) (m := 1))

/-- a world behind another one, in which nothing that was there has turned -/
def Calm (w : World) (S : Hp) (w' : World) : Prop := ∃ S', WF w (fun _ => False) w' ∧ Lift.Sub S S' ∧ Lift.Sub S' (hp w') ∧ ∀ k, S' k ≠ none → S k ≠ none ∨ w.heap.size ≤ k

theorem Calm.refl {w : World} {S : Hp} (h : Lift.Sub S (hp w)) : Calm w S w := ⟨S, WF.refl _ _, Lift.Sub.refl S, h, fun _ h => .inl h⟩

theorem args_plain {w : World} {S : Hp} (l : List (A × Value)) (hl : ∀ p ∈ l, ARel (hp w) S (fun _ => undef) p.1 p.2 [] ∧ p.1.refs = []) :
    ArgsRel (hp w) S (l.map (·.1)) (l.map (·.2)) (fun _ => []) := by
  refine ⟨by simp, fun i y hy => ?_, fun _ _ => rfl, (fun i j b hb => by cases hb), fun _ => .nil, (fun i b hb => by cases hb)⟩
  simp only [List.getElem?_map] at hy ⊢
  cases hp : l[i]? with
  | none => rw [hp] at hy; cases hy
  | some p =>
    rw [hp] at hy
    cases hy
    have := hl p (List.mem_of_getElem? hp)
    exact ⟨⟨p.2, rfl, this.1⟩, this.2⟩

abbrev LinkT : T := .pair .str (.pair .str .unit)

noncomputable def cl_ren : Go.Shelf.Ren := ⟨fun | 41 => 78 | n => n, fun | 4 => 4 | 22 => 31 | 23 => 51 | n => n, fun n => n⟩

theorem cl_lays : Go.Proofs.SlLaysE0.n41 Tryz.prog cl_ren where
  mixed := by kernel_rfl
  f41 := ⟨"slices.Clone[[]porter/api.Link,porter/api.Link]", by decide, Tryz.func78.trans (congrArg some (by kernel_rfl))⟩
  t4 := Tryz.underlying4
  a4 := Tryz.isAgg4
  z4 := Tryz.sizeOf4
  v4 := Tryz.zeroValue4
  t22 := Tryz.underlying31
  a22 := Tryz.isAgg31
  z22 := Tryz.sizeOf31
  v22 := Tryz.zeroValue31

noncomputable def clone_link (N : Nat) (l : List LinkT.den) : Option (List LinkT.den) := cond (decide (l.length * 32 ≤ 140737488355328)) (some l) none

noncomputable def clone_link_res (N : Nat) : List A → Res := resOf [(0, .v (.sl LinkT))] (fun x => clone_link N x.1) (oRes (.row LinkT) 1)

theorem clone_link_ct (N : Nat) : Contract Tryz.prog glob 78 (clone_link_res N) :=
  clone_ct cl_lays (ee := ty51) ty51_ok (by decide) (by decide) glob

abbrev TokT : T := .pair .str (.pair (.sl LinkT) (.pair .str .unit))

abbrev TokO : T := .pair .str (.pair (.own LinkT) (.pair .str .unit))

noncomputable def holder_clone (N : Nat) (t : TokT.den) : Option TokO.den := (clone_link N t.2.1).bind fun l => some (t.1, (l, (t.2.2.1, ())))

noncomputable def holder_clone_res (N : Nat) : List A → Res := resOf [(0, .v TokT)] (fun x => holder_clone N x.1) (oRes (.ov TokO) 1)

theorem tok_inv {S : Hp} {i t : List UInt8} {l : List LinkT.den} {v : Value} (h : VR S TokT (i, (l, (t, ()))) v) : ∃ sv, v = .agg #[.string ⟨⟨i⟩⟩, sv, .string ⟨⟨t⟩⟩] ∧ VR S (.sl LinkT) l sv := by
  have h' : ∃ cs, v = .agg cs ∧ Rd S TokT (i, (l, (t, ()))) cs.toList := h
  obtain ⟨cs, rfl, c1, c2, hc, k1, c3, c4, hc', k2, c5, c6, hc'', k3, k4⟩ := h'
  have e1 : c1 = [.string ⟨⟨i⟩⟩] := k1
  have e3 : c5 = [.string ⟨⟨t⟩⟩] := k3
  have e5 : c6 = [] := k4
  obtain ⟨a, cap, e2, hcap, hk⟩ := k2
  refine ⟨.slice a l.length cap, ?_, VR.of_one rfl ⟨a, cap, rfl, hcap, hk⟩⟩
  congr 1
  apply Array.toList_inj.1
  rw [hc, hc', hc'', e1, e2, e3, e5]
  rfl

theorem clone_call (N : Nat) {w : World} {S : Hp} (hS : Lift.Sub S (hp w)) (hg : GlobOk glob S) {l l' : List LinkT.den} {sv : Value} (hv : VR S (.sl LinkT) l sv) (hy : clone_link N l = some l') :
    Calls Tryz.prog 78 #[sv] w fun r w' => ∃ v o S', r = .returned v ∧ RowRel (hp w') S' LinkT l' v o ∧ (∀ b ∈ o, S' b = none ∧ w.heap.size ≤ b) ∧ o.Nodup ∧
      WF w (fun _ => False) w' ∧ Lift.Sub S S' ∧ Lift.Sub S' (hp w') ∧ ∀ k, S' k ≠ none → S k ≠ none ∨ w.heap.size ≤ k := by
  refine ((clone_link_ct N).2 w S _ _ _ (args_plain [(.v (.sl LinkT) l, sv)] (fun p hp => by rw [List.mem_singleton.1 hp]; exact ⟨⟨hv, rfl⟩, rfl⟩)) hS hg _ hy).mono ?_
  rintro e w' ⟨v, S', o, ob', rfl, hwf, k1, k2, k3, ⟨hr, _⟩, ho, hnd, _⟩
  refine ⟨v, o, S', rfl, hr, fun b hb => ?_, hnd, ⟨hwf.size, fun k hk _ => hwf.same k hk (by rintro ⟨i, hi⟩; cases hi), hwf.tape, hwf.os, hwf.output⟩, k1, k2, fun k hk => ?_⟩
  · obtain ⟨o1, o2⟩ := ho b hb
    refine ⟨o1, ?_⟩
    rcases o2 with ⟨i, hi⟩ | h
    · cases hi
    · exact h
  · rcases k3 k hk with h | ⟨i, hi⟩ | h
    · exact .inl h
    · cases hi
    · exact .inr h

theorem VRsl_one {S : Hp} {t : T} {l : List t.den} {v : Value} (h : VR S (.sl t) l v) : ∃ a n c, v = .slice a n c := by
  have h' : Rd S (.sl t) l [v] := h
  obtain ⟨a, c, e, _⟩ := h'
  exact ⟨a, _, c, by cases e; rfl⟩

theorem row_sl {h S : Hp} {t : T} {l : List t.den} {v : Value} {o : List Nat} (hr : RowRel h S t l v o) : ∃ a n c, v = .slice a n c := by
  rcases hr with ⟨_, ⟨ad, e, _⟩, _⟩ | ⟨b, cap, cs, E, fr, _, e, _⟩
  · exact ⟨ad, 0, 0, e⟩
  · exact ⟨_, _, _, e⟩

theorem keepB {w w3 : World} (h : WF w (fun _ => False) w3) {b : Nat} {o : Obj} (hb : w.heap[b]? = some o) : w3.heap[b]? = some o := by
  rw [h.same b (Array.getElem?_eq_some_iff.1 hb).1 (fun h => h)]; exact hb

theorem cellB {w : World} {b i E : Nat} {cs : Array Value} {v : Value} (hb : w.heap[b]? = some (.cells cs E (0, 0))) (hi : cs[i]? = some v) : w.cell? ⟨b, i, none⟩ = some v := by
  simp [World.cell?, hb, hi]

theorem freeB {w : World} {b i E : Nat} {cs : Array Value} (hb : w.heap[b]? = some (.cells cs E (0, 0))) : w.frozen? ⟨b, i, none⟩ = false := by
  simp [World.frozen?, hb]

theorem set_other {w : World} {b i k : Nat} {v : Value} (hk : k ≠ b) : (w.setCell ⟨b, i, none⟩ v).heap[k]? = w.heap[k]? := by
  have : b ≠ k := fun h => hk h.symm
  simp [World.setCell, Array.getElem?_modify, this]

theorem set_size {w : World} {b i : Nat} {v : Value} : (w.setCell ⟨b, i, none⟩ v).heap.size = w.heap.size ∧ (w.setCell ⟨b, i, none⟩ v).tape = w.tape ∧ (w.setCell ⟨b, i, none⟩ v).os = w.os ∧ (w.setCell ⟨b, i, none⟩ v).output = w.output := by
  simp [World.setCell]

/-- w' is w but for the blocks in B -/
structure But (B : Nat → Prop) (w w' : World) : Prop where
  same : ∀ k, ¬ B k → w'.heap[k]? = w.heap[k]?
  size : w'.heap.size = w.heap.size
  tape : w'.tape = w.tape
  os : w'.os = w.os
  output : w'.output = w.output

theorem But.refl (B : Nat → Prop) (w : World) : But B w w := ⟨fun _ _ => rfl, rfl, rfl, rfl, rfl⟩

theorem But.set {B : Nat → Prop} {w w' : World} (h : But B w w') {b i : Nat} {v : Value} (hb : B b) : But B w (w'.setCell ⟨b, i, none⟩ v) :=
  ⟨fun k hk => by rw [set_other (fun e => hk (by rw [e]; exact hb)), h.same k hk], set_size.1.trans h.size, set_size.2.1.trans h.tape, set_size.2.2.1.trans h.os, set_size.2.2.2.trans h.output⟩

theorem alloc_two {w : World} {c1 c2 : Array Value} {E1 E2 : Nat} : ((w.alloc (.cells c1 E1)).alloc (.cells c2 E2)).heap[w.heap.size]? = some (.cells c1 E1 (0, 0)) ∧ ((w.alloc (.cells c1 E1)).alloc (.cells c2 E2)).heap[w.heap.size + 1]? = some (.cells c2 E2 (0, 0)) ∧
    ((w.alloc (.cells c1 E1)).alloc (.cells c2 E2)).heap.size = w.heap.size + 2 ∧ ∀ k, k < w.heap.size → ((w.alloc (.cells c1 E1)).alloc (.cells c2 E2)).heap[k]? = w.heap[k]? := by
  have hh : ((w.alloc (.cells c1 E1)).alloc (.cells c2 E2)).heap = (w.heap.push (.cells c1 E1 (0, 0))).push (.cells c2 E2 (0, 0)) := rfl
  refine ⟨?_, ?_, ?_, fun k hk => ?_⟩
  · rw [hh, Array.getElem?_push, Array.size_push, if_neg (by omega), Array.getElem?_push, if_pos rfl]
  · rw [hh, Array.getElem?_push, Array.size_push, if_pos rfl]
  · rw [hh, Array.size_push, Array.size_push]
  · rw [hh, Array.getElem?_push, Array.size_push, if_neg (by omega), Array.getElem?_push, if_neg (by omega)]

theorem sub_alloc_two {w : World} {S : Hp} (hS : Lift.Sub S (hp w)) (c1 c2 : Array Value) (E1 E2 : Nat) : Lift.Sub S (hp ((w.alloc (.cells c1 E1)).alloc (.cells c2 E2))) := fun b o ho => by
  have := hS b o ho
  simp only [hp] at this ⊢
  rw [alloc_two.2.2.2 b (Array.getElem?_eq_some_iff.1 this).1]
  exact this

theorem clone_walk (N : Nat) {w : World} {S : Hp} (hS : Lift.Sub S (hp w)) (hg : GlobOk glob S) {i t : List UInt8} {l l' : List LinkT.den} {sv : Value} (hv : VR S (.sl LinkT) l sv) (hy : clone_link N l = some l') :
    Calls Tryz.prog 61 #[.agg #[.string ⟨⟨i⟩⟩, sv, .string ⟨⟨t⟩⟩]] w fun r w' => ∃ v o S', r = .returned (.agg #[.string ⟨⟨i⟩⟩, v, .string ⟨⟨t⟩⟩]) ∧ RowRel (hp w') S' LinkT l' v o ∧ (∀ b ∈ o, S' b = none ∧ w.heap.size ≤ b) ∧ o.Nodup ∧
      WF w (fun _ => False) w' ∧ Lift.Sub S S' ∧ Lift.Sub S' (hp w') ∧ ∀ k, S' k ≠ none → S k ≠ none ∨ w.heap.size ≤ k := by
  obtain ⟨a, n, c, rfl⟩ := VRsl_one hv
  have HC := clone_call N (sub_alloc_two hS #[.string ⟨⟨i⟩⟩, .slice a n c, .string ⟨⟨t⟩⟩] #[.string ⟨#[]⟩, .slice none 0 0, .string ⟨#[]⟩] 33 33) hg hv hy
  obtain ⟨q0, q1, q2, q3⟩ := alloc_two (w := w) (c1 := #[.string ⟨⟨i⟩⟩, .slice a n c, .string ⟨⟨t⟩⟩]) (c2 := #[.string ⟨#[]⟩, .slice none 0 0, .string ⟨#[]⟩]) (E1 := 33) (E2 := 33)
  have hSw := Go.Lib.hid hS
  have Q3 := Go.Lib.hid (And.intro q2 q3)
  clear q2 q3 hS
  go_enter Tryz.func61, Tryz.ntmps61
  go_wp2_with (go_at_call 78; refine HC.mono ?_; rintro r w3 ⟨v, o, S', rfl, hrow, ho, hnd, hwf, k1, k2, k3⟩; obtain ⟨a', n', c', rfl⟩ := row_sl hrow; have p0 := keepB hwf q0; have p1 := keepB hwf q1; have c00 := cellB (i := 0) p0 rfl; have c01 := cellB (i := 1) p0 rfl; have c02 := cellB (i := 2) p0 rfl; have c10 := cellB (i := 0) p1 rfl; have c11 := cellB (i := 1) p1 rfl; have c12 := cellB (i := 2) p1 rfl; have f00 := freeB (i := 0) p0; have f01 := freeB (i := 1) p0; have f02 := freeB (i := 2) p0; have f10 := freeB (i := 0) p1; have f11 := freeB (i := 1) p1; have f12 := freeB (i := 2) p1; have HM := Go.Lib.hid (And.intro hrow (And.intro ho (And.intro hnd (And.intro hwf (And.intro k1 (And.intro k2 (And.intro k3 (And.intro q0 q1)))))))); clear HC hrow ho hnd hwf k1 k2 k3 p0 p1 q0 q1)
  obtain ⟨hrow, ho, hnd, hwf, k1, k2, k3, q0, q1⟩ := HM.out
  obtain ⟨q2, q3⟩ := Q3.out
  have hB : But (fun k => k = w.heap.size ∨ k = w.heap.size + 1) w3 ((((w3.setCell ⟨w.heap.size, 1, none⟩ (Value.slice a' n' c')).setCell ⟨w.heap.size + 1, 0, none⟩ (.string ⟨⟨i⟩⟩)).setCell ⟨w.heap.size + 1, 1, none⟩ (Value.slice a' n' c')).setCell ⟨w.heap.size + 1, 2, none⟩ (.string ⟨⟨t⟩⟩)) :=
    ((((But.refl _ w3).set (.inl rfl)).set (.inr rfl)).set (.inr rfl)).set (.inr rfl)
  have hno : ∀ k, S' k ≠ none → ¬ (k = w.heap.size ∨ k = w.heap.size + 1) := fun k hk hk' => by
    rcases k3 k hk with h | h
    · cases hs : S k with
      | none => exact h hs
      | some x =>
        have := hSw.out k x hs
        simp only [hp] at this
        have := (Array.getElem?_eq_some_iff.1 this).1
        omega
    · omega
  refine ⟨rfl, _, ?_, .slice a' n' c', o, S', rfl, RowRel.mono (Lift.Sub.refl S') (fun b hb => ?_) hrow, fun b hb => ⟨(ho b hb).1, by have := (ho b hb).2; omega⟩, hnd,
    ⟨by rw [hB.size]; have := hwf.size; omega, fun k hk _ => ?_, hB.tape.trans hwf.tape, hB.os.trans hwf.os, hB.output.trans hwf.output⟩, k1, fun k x hx => ?_, fun k hk => ?_⟩
  · simp [results, Tryz.results61, go_sem, c10, c11, c12, f10, f11, f12]
  · have := (ho b hb).2
    exact hB.same b (by omega)
  · rw [hB.same k (by omega), hwf.same k (by omega) (fun h => h), q3 k hk]
  · have := k2 k x hx
    simp only [hp] at this ⊢
    rw [hB.same k (hno k (by rw [hx]; simp))]
    exact this
  · rcases k3 k hk with h | h
    · exact .inl h
    · exact .inr (by omega)

theorem holder_clone_ct (N : Nat) : Contract Tryz.prog glob 61 (holder_clone_res N) := by
  refine Contract.hand ⟨_, Tryz.func61, by kernel_rfl, by decide⟩ ?_
  intro w S vals ob x y har hS hg hy
  obtain ⟨⟨i, l, t, u⟩, u'⟩ := x
  cases u
  cases u'
  obtain ⟨⟨v0, hv0, hA0, ho0⟩, _⟩ := har.rel 0 _ rfl
  have hvals : vals = [v0] := by
    match vals, har.len with
    | [a], _ => cases hv0; rfl
  obtain ⟨sv, e0, hsv⟩ := tok_inv hA0
  subst e0
  subst hvals
  unfold holder_clone at hy
  dsimp only at hy
  cases hc : clone_link N l with
  | none => rw [hc] at hy; cases hy
  | some l' =>
  rw [hc] at hy
  cases hy
  refine (clone_walk N hS hg hsv hc).mono ?_
  rintro r w' ⟨v, o, S', rfl, hrow, ho, hnd, hwf, k1, k2, k3⟩
  have hob : ∀ i, ob i = [] := fun i => by
    match i with
    | 0 => exact ho0
    | i + 1 => exact har.out _ (by simp [mkS, deads])
  refine ⟨_, S', o, ob, rfl, ⟨hwf.size, fun k hk _ => hwf.same k hk (fun h => h), hwf.tape, hwf.os, hwf.output⟩, k1, k2, fun k hk => ?_, ⟨⟨rfl, ?_⟩, rfl⟩, fun b hb => ⟨(ho b hb).1, .inr (ho b hb).2⟩, hnd, ?_, ?_, ?_, ?_, fun _ h => h⟩
  · rcases k3 k hk with h | h
    · exact .inl h
    · exact .inr (.inr h)
  · exact ⟨_, rfl, [.string ⟨⟨i⟩⟩], [v, .string ⟨⟨t⟩⟩], [], o, rfl, rfl, ⟨rfl, rfl⟩, [v], [.string ⟨⟨t⟩⟩], o, [], rfl, by simp, ⟨v, rfl, hrow⟩, [.string ⟨⟨t⟩⟩], [], [], [], rfl, rfl, ⟨rfl, rfl⟩, rfl, rfl⟩
  · intro i y hy hbx
    have : isBoxA y = false := by
      match i with
      | 0 => cases hy; rfl
      | i + 1 => simp [mkS, deads] at hy
    rw [hbx] at this
    cases this
  · intro i k hk
    rw [hob i] at hk
    cases hk
  · intro i j k hi
    rw [hob i] at hi
    cases hi
  · intro i
    rw [hob i]
    exact .nil

noncomputable def body_58 : Code := (Tryz.f28.body).getD .skip

noncomputable def L_58 : List (List Nat × List Nat) := [([0], [3, 0]), ([0, 0, 1], [7, 0, 3]), ([1, 0, 1], [0, 3]), ([0, 0, 1, 0, 1], [4]), ([1, 0, 1, 0, 1], [4]), ([0, 1, 1], [4]), ([1, 1, 1], [4])]

noncomputable def E_58 (N : Nat) : Env := mkEnv tys glob [(42, hmac_Parts_res N)] [] [] [] false [] [(59, hmac_split1_itr N), (79, stream_blocks1_itr N), (50, hmac_framed1_itr N)]

theorem Eok_58 (N : Nat) : EnvOk Tryz.prog (E_58 N) := mkEnv_ok mixed tys_ok (FnsOk.cons (hmac_Parts_ct N) (FnsOk.nil)) (ItsOk.cons (hmac_split1_it N) (ItsOk.cons (stream_blocks1_it N) (ItsOk.cons (hmac_framed1_it N) (ItsOk.nil))))

noncomputable def chain_tag_next (N : Nat) (t : (List UInt8)) (l : ((List UInt8) × DT4)) : Option (List UInt8) :=
  cond (l.2.1 == ([] : List UInt8))
  ((hmac_Parts N t ([([(102 : UInt8), (105 : UInt8), (114 : UInt8), (115 : UInt8), (116 : UInt8)] : List UInt8), l.1] : List (List UInt8))).bind fun y =>
    some y)
  ((hmac_Parts N t ([([(116 : UInt8), (104 : UInt8), (105 : UInt8), (114 : UInt8), (100 : UInt8)] : List UInt8), l.2.1, l.1] : List (List UInt8))).bind fun y1 =>
    some y1)

noncomputable def t_58 (N : Nat) : Tab (List UInt8) := []

theorem link_58 (N : Nat) (x : denS [(0, .v .str), (0, .v TT7)]) : evFX (E_58 N) N (t_58 N) L_58 Tryz.f28 (mkS [(0, .v .str), (0, .v TT7)] 0 x) (kRes (.v .str) 2) = chain_tag_next N x.1 x.2.1 := by kernel_rfl

noncomputable def chain_tag_next_res (N : Nat) : List A → Res := resOf [(0, .v .str), (0, .v TT7)] (fun x => chain_tag_next N x.1 x.2.1) (oRes (.v .str) 2)

theorem chain_tag_next_ct (N : Nat) : Contract Tryz.prog glob 28 (chain_tag_next_res N) :=
  Contract.of (E := E_58 N) (H := t_58 N) (L := L_58) (N := N) (body := body_58) (K := (kRes (.v .str) 2)) (Eok_58 N) Tryz.func28 (by kernel_rfl) (by decide) (fun _ hb => TabOk.nil) (fun x y h => by rw [link_58]; exact h) (kRes_ok (s := (.v .str)) (m := 2))

noncomputable def body_59 : Code := (Tryz.f62.body).getD .skip

noncomputable def L_59 : List (List Nat × List Nat) := [([0], [0, 3]), ([0, 1], [4]), ([1, 1], [4])]

noncomputable def E_59 (N : Nat) : Env := mkEnv tys glob [(28, chain_tag_next_res N)] [] [] [] false [] [(59, hmac_split1_itr N), (79, stream_blocks1_itr N), (50, hmac_framed1_itr N)]

theorem Eok_59 (N : Nat) : EnvOk Tryz.prog (E_59 N) := mkEnv_ok mixed tys_ok (FnsOk.cons (chain_tag_next_ct N) (FnsOk.nil)) (ItsOk.cons (hmac_split1_it N) (ItsOk.cons (stream_blocks1_it N) (ItsOk.cons (hmac_framed1_it N) (ItsOk.nil))))

noncomputable def chain_Next (N : Nat) (before : (List UInt8)) (l : ((List UInt8) × DT4)) : Option (List UInt8) :=
  (chain_tag_next N before l).bind fun y =>
  some y

noncomputable def t_59 (N : Nat) : Tab (List UInt8) := []

theorem link_59 (N : Nat) (x : denS [(0, .v .str), (0, .v TT7)]) : evFX (E_59 N) N (t_59 N) L_59 Tryz.f62 (mkS [(0, .v .str), (0, .v TT7)] 0 x) (kRes (.v .str) 2) = chain_Next N x.1 x.2.1 := by kernel_rfl

noncomputable def chain_Next_res (N : Nat) : List A → Res := resOf [(0, .v .str), (0, .v TT7)] (fun x => chain_Next N x.1 x.2.1) (oRes (.v .str) 2)

theorem chain_Next_ct (N : Nat) : Contract Tryz.prog glob 62 (chain_Next_res N) :=
  Contract.of (E := E_59 N) (H := t_59 N) (L := L_59) (N := N) (body := body_59) (K := (kRes (.v .str) 2)) (Eok_59 N) Tryz.func62 (by kernel_rfl) (by decide) (fun _ hb => TabOk.nil) (fun x y h => by rw [link_59]; exact h) (kRes_ok (s := (.v .str)) (m := 2))

noncomputable def body_60 : Code := (Tryz.f44.body).getD .skip

noncomputable def L_60 : List (List Nat × List Nat) := [([0], [1, 2]), ([0, 1], [3, 1, 2]), ([0, 1, 1], [3, 1, 2]), ([0, 1, 1, 1], [3, 2]), ([0, 1, 1, 1, 1], [2]), ([1, 1, 1, 1, 1], [2])]

noncomputable def E_60 (N : Nat) : Env := mkEnv tys glob [(62, chain_Next_res N), (61, holder_clone_res N)] [] [] [] false [(3, (.pair .str (.pair (.own TT7) (.pair .str .unit))))] [(59, hmac_split1_itr N), (79, stream_blocks1_itr N), (50, hmac_framed1_itr N)]

theorem Eok_60 (N : Nat) : EnvOk Tryz.prog (E_60 N) := mkEnv_ok mixed tys_ok (FnsOk.cons (chain_Next_ct N) (FnsOk.cons (holder_clone_ct N) (FnsOk.nil))) (ItsOk.cons (hmac_split1_it N) (ItsOk.cons (stream_blocks1_it N) (ItsOk.cons (hmac_framed1_it N) (ItsOk.nil))))

noncomputable def holder_addition_token (N : Nat) (a : (((List UInt8) × DT4) × (DT0 × Unit))) : Option DT0 :=
  (holder_clone N a.2.1).bind fun y =>
  cond (decide ((((List.length y.2.1) + 1) * 32) ≤ 70368744177664))
  ((chain_Next N y.2.2.1 a.1).bind fun y1 =>
    some (y.1, ((y.2.1 ++ ([a.1] : List ((List UInt8) × DT4))), (y1, y.2.2.2))))
  (none)

noncomputable def t_60 (N : Nat) : Tab DT0 := []

theorem link_60 (N : Nat) (x : denS [(0, .v (.pair TT7 (.pair TT1 .unit)))]) : evFX (E_60 N) N (t_60 N) L_60 Tryz.f44 (mkS [(0, .v (.pair TT7 (.pair TT1 .unit)))] 0 x) (kRes (.v TT1) 1) = holder_addition_token N x.1 := by kernel_rfl

noncomputable def holder_addition_token_res (N : Nat) : List A → Res := resOf [(0, .v (.pair TT7 (.pair TT1 .unit)))] (fun x => holder_addition_token N x.1) (oRes (.v TT1) 1)

theorem holder_addition_token_ct (N : Nat) : Contract Tryz.prog glob 44 (holder_addition_token_res N) :=
  Contract.of (E := E_60 N) (H := t_60 N) (L := L_60) (N := N) (body := body_60) (K := (kRes (.v TT1) 1)) (Eok_60 N) Tryz.func44 (by kernel_rfl) (by decide) (fun _ hb => TabOk.nil) (fun x y h => by rw [link_60]; exact h) (kRes_ok (s := (.v TT1)) (m := 1))

noncomputable def body_61 : Code := (Tryz.f23.body).getD .skip

noncomputable def L_61 : List (List Nat × List Nat) := [([0], [2, 1, 4]), ([0, 1], [6, 1, 4]), ([0, 0, 1, 1], [15, 4, 1, 6]), ([1, 0, 1, 1], [1, 6, 4]), ([0, 0, 1, 0, 1, 1], [4, 5]), ([1, 0, 1, 0, 1, 1], [4, 5]), ([0, 1, 1, 1], [6, 4]), ([0, 1, 1, 1, 1], [4, 5]), ([1, 1, 1, 1, 1], [4, 5])]

noncomputable def E_61 (N : Nat) : Env := mkEnv tys glob [(44, holder_addition_token_res N), (43, holder_addition_full_res N)] [] [] [] false [] [(59, hmac_split1_itr N), (79, stream_blocks1_itr N), (50, hmac_framed1_itr N)]

theorem Eok_61 (N : Nat) : EnvOk Tryz.prog (E_61 N) := mkEnv_ok mixed tys_ok (FnsOk.cons (holder_addition_token_ct N) (FnsOk.cons (holder_addition_full_ct N) (FnsOk.nil))) (ItsOk.cons (hmac_split1_it N) (ItsOk.cons (stream_blocks1_it N) (ItsOk.cons (hmac_framed1_it N) (ItsOk.nil))))

noncomputable def holder_Add_p2 (N : Nat) (text : (List UInt8)) (x4 : DT0) (a : (((List UInt8) × DT4) × (DT0 × Unit))) (k0 : Bool → Option (DT0 × Int × Unit)) : Option (DT0 × Int × Unit) :=
  cond (decide ((64 : Int) ≤ (((List.length a.2.1.2.1) : Nat) : Int)))
  (k0 true)
  (k0 (decide ((2048 : Int) < (((List.length text) : Nat) : Int))))

noncomputable def g2_61 (N : Nat) (x : denS [(1, .v .str), (2, .box TT1), (1, .box (.pair TT7 (.pair TT1 .unit)))]) (K : Ex → List A → Option (DT0 × Int × Unit)) : Option (DT0 × Int × Unit) :=
  holder_Add_p2 N x.1 x.2.1 x.2.2.1 (fun a3 => (K .normal (mkS [(1, .v .str), (2, .box TT1), (1, .box (.pair TT7 (.pair TT1 .unit))), (8, .v .bool)] 6 (x.1, x.2.1, x.2.2.1, a3, ()))))

noncomputable def h2_61 (N : Nat) : Hd (DT0 × Int × Unit) := fun st K => (unS [(1, .v .str), (2, .box TT1), (1, .box (.pair TT7 (.pair TT1 .unit)))] 15 (restr [6, 1, 4] 0 st)).bind fun x => g2_61 N x K

noncomputable def t2_61 (N : Nat) : Tab (DT0 × Int × Unit) := []

theorem ok2_61 {N : Nat} {c : Ctx} (hb : Base Tryz.prog (E_61 N) c) : CodeOk Tryz.prog c (nodeAt body_61 [0, 0, 1, 1]) (h2_61 N) :=
  piece_ok (s := [(1, .v .str), (2, .box TT1), (1, .box (.pair TT7 (.pair TT1 .unit)))]) (m := 15) (g := g2_61 N) [6, 1, 4] (evN_sound hb N (t2_61 N) L_61 body_61 TabOk.nil [0, 0, 1, 1] _ rfl) (fun x K => by kernel_rfl)

noncomputable def holder_Add_p1 (N : Nat) (text : (List UInt8)) (x4 : DT0) (a : (((List UInt8) × DT4) × (DT0 × Unit))) (k0 : DT0 → Int → Option (DT0 × Int × Unit)) (k1 : Option (DT0 × Int × Unit)) : Option (DT0 × Int × Unit) :=
  holder_Add_p2 N text x4 a
  (fun x15 => cond x15
    (k0 (([] : List UInt8), (([] : List ((List UInt8) × DT4)), (([] : List UInt8), ()))) (3 : Int))
    (k1))

noncomputable def g1_61 (N : Nat) (x : denS [(1, .v .str), (2, .box TT1), (1, .box (.pair TT7 (.pair TT1 .unit)))]) (K : Ex → List A → Option (DT0 × Int × Unit)) : Option (DT0 × Int × Unit) :=
  holder_Add_p1 N x.1 x.2.1 x.2.2.1 (fun a0 a1 => (K .ret (mkS [(4, .box TT1), (0, .v (.int .i64))] 16 (a0, a1, ())))) (K .normal (mkS [(1, .v .str), (2, .box TT1), (1, .box (.pair TT7 (.pair TT1 .unit)))] 15 (x.1, x.2.1, x.2.2.1, ())))

noncomputable def h1_61 (N : Nat) : Hd (DT0 × Int × Unit) := fun st K => (unS [(1, .v .str), (2, .box TT1), (1, .box (.pair TT7 (.pair TT1 .unit)))] 15 (restr [6, 1, 4] 0 st)).bind fun x => g1_61 N x K

noncomputable def t1_61 (N : Nat) : Tab (DT0 × Int × Unit) := [([0, 0, 1, 1], h2_61 N)]

theorem ok1_61 {N : Nat} {c : Ctx} (hb : Base Tryz.prog (E_61 N) c) : CodeOk Tryz.prog c (nodeAt body_61 [0, 1, 1]) (h1_61 N) :=
  piece_ok (s := [(1, .v .str), (2, .box TT1), (1, .box (.pair TT7 (.pair TT1 .unit)))]) (m := 15) (g := g1_61 N) [6, 1, 4] (evN_sound hb N (t1_61 N) L_61 body_61 (TabOk.cons (ok2_61 hb) TabOk.nil) [0, 1, 1] _ rfl) (fun x K => by kernel_rfl)

noncomputable def holder_Add (N : Nat) (t : DT0) (text : (List UInt8)) : Option (DT0 × Int × Unit) :=
  holder_Add_p1 N text (([] : List UInt8), (([] : List ((List UInt8) × DT4)), (([] : List UInt8), ()))) ((([] : List UInt8), (([] : List UInt8), ())), (t, ()))
  (fun x4 x5 => some (x4, (x5, ())))
  ((holder_addition_token N ((text, (([] : List UInt8), ())), (t, ()))).bind fun y =>
    some (y, ((0 : Int), ())))

noncomputable def t_61 (N : Nat) : Tab (DT0 × Int × Unit) := [([0, 1, 1], h1_61 N)]

theorem link_61 (N : Nat) (x : denS [(0, .v TT1), (0, .v .str)]) : evFX (E_61 N) N (t_61 N) L_61 Tryz.f23 (mkS [(0, .v TT1), (0, .v .str)] 0 x) (kRes (.tup [TT1, (.int .i64)]) 2) = holder_Add N x.1 x.2.1 := by kernel_rfl

noncomputable def holder_Add_res (N : Nat) : List A → Res := resOf [(0, .v TT1), (0, .v .str)] (fun x => holder_Add N x.1 x.2.1) (oRes (.tup [TT1, (.int .i64)]) 2)

theorem holder_Add_ct (N : Nat) : Contract Tryz.prog glob 23 (holder_Add_res N) :=
  Contract.of (E := E_61 N) (H := t_61 N) (L := L_61) (N := N) (body := body_61) (K := (kRes (.tup [TT1, (.int .i64)]) 2)) (Eok_61 N) Tryz.func23 (by kernel_rfl) (by decide) (fun _ hb => (TabOk.cons (ok1_61 hb) TabOk.nil)) (fun x y h => by rw [link_61]; exact h) (kRes_ok (s := (.tup [TT1, (.int .i64)])) (m := 2))

noncomputable def body_62 : Code := (Tryz.f10.body).getD .skip

noncomputable def L_62 : List (List Nat × List Nat) := [([0], [0, 1, 6, 2]), ([0, 1], [10, 6, 1, 8, 2]), ([0, 0, 1, 1], [22, 10, 6, 1, 8, 2]), ([1, 0, 1, 1], [1, 8, 2, 6]), ([0, 0, 1, 0, 1, 1], [6, 7]), ([1, 0, 1, 0, 1, 1], [6, 7]), ([0, 1, 1, 1], [2, 11, 6]), ([0, 0, 1, 1, 1, 1], [32, 31, 30, 11, 6]), ([0, 1, 0, 1, 1, 1, 1], [32, 31, 30, 11, 6]), ([0, 0, 0, 1, 0, 1, 1, 1, 1], [33, 30, 32, 11, 6, 31]), ([0, 1, 0, 0, 1, 0, 1, 1, 1, 1], [30, 32, 11, 6, 31]), ([1, 0, 1, 0, 0, 1, 0, 1, 1, 1, 1], [11, 6]), ([0, 0, 0, 1, 1, 0, 0, 1, 0, 1, 1, 1, 1], [11, 13, 6, 32, 31, 30]), ([0, 1, 0, 0, 1, 1, 0, 0, 1, 0, 1, 1, 1, 1], [10, 6, 32, 31, 30, 11]), ([0, 1, 1, 0, 0, 1, 1, 0, 0, 1, 0, 1, 1, 1, 1], [43, 10, 6, 32, 31, 30, 11]), ([1, 1, 1, 0, 0, 1, 1, 0, 0, 1, 0, 1, 1, 1, 1], [32, 31, 30, 11, 6]), ([0, 0, 1, 1, 1, 0, 0, 1, 1, 0, 0, 1, 0, 1, 1, 1, 1], [6, 7]), ([1, 0, 1, 1, 1, 0, 0, 1, 1, 0, 0, 1, 0, 1, 1, 1, 1], [6, 7]), ([0, 1, 1, 0, 0, 1, 0, 1, 1, 1, 1], [32, 31, 30, 11, 6]), ([1, 1, 1, 0, 0, 1, 0, 1, 1, 1, 1], [32, 31, 30, 11, 6]), ([1, 0, 1, 1, 1, 1], [11, 6]), ([0, 1, 1, 1, 1, 1], [6, 7]), ([1, 1, 1, 1, 1, 1], [6, 7])]

noncomputable def E_62 (N : Nat) : Env := mkEnv tys glob [(23, holder_Add_res N), (22, chain_Root_res N), (8, notary_Read_res N)] [] [] [] false [] [(59, hmac_split1_itr N), (79, stream_blocks1_itr N), (50, hmac_framed1_itr N)]

theorem Eok_62 (N : Nat) : EnvOk Tryz.prog (E_62 N) := mkEnv_ok mixed tys_ok (FnsOk.cons (holder_Add_ct N) (FnsOk.cons (chain_Root_ct N) (FnsOk.cons (notary_Read_ct N) (FnsOk.nil)))) (ItsOk.cons (hmac_split1_it N) (ItsOk.cons (stream_blocks1_it N) (ItsOk.cons (hmac_framed1_it N) (ItsOk.nil))))

noncomputable def notary_Discharge_s1 (N : Nat) (x6 : DT0) (x30 : (List (List UInt8))) (x31 : Int) (t : DT0) (x32 : Int) (rec : DT0 → Int → Option (DT0 × Int × Unit)) (k0 : DT0 → Int → Option (DT0 × Int × Unit)) (k1 : DT0 → Option (DT0 × Int × Unit)) : Option (DT0 × Int × Unit) :=
  cond (decide (x32 < x31))
  (cond (inR x32 (List.length x30))
    ((holder_Add N t (List.getD x30 (Int.toNat x32) ([] : List UInt8))).bind fun y =>
      cond (y.2.1 != (0 : Int))
      (k0 (([] : List UInt8), (([] : List ((List UInt8) × DT4)), (([] : List UInt8), ()))) y.2.1)
      (rec y.1 (IntKind.wrap IntKind.i64 (x32 + (1 : Int)))))
    (none))
  (k1 t)

noncomputable def notary_Discharge_p1 (N : Nat) (x6 : DT0) (t : DT0) (x30 : (List (List UInt8))) (x31 : Int) (x32 : Int) (k0 : DT0 → Int → Option (DT0 × Int × Unit)) (k1 : DT0 → Option (DT0 × Int × Unit)) : Option (DT0 × Int × Unit) :=
  iter (fun (v : (DT0 × Int)) r => notary_Discharge_s1 N x6 x30 x31 v.1 v.2 (fun t x32 => (r (t, x32))) k0 k1) N (t, x32)

noncomputable def g1_62 (N : Nat) (i : (DT0 × (List (List UInt8)) × Int)) (v : (DT0 × Int)) (r : (DT0 × Int) → Option (DT0 × Int × Unit)) (K : Ex → List A → Option (DT0 × Int × Unit)) : Option (DT0 × Int × Unit) :=
  notary_Discharge_s1 N i.1 i.2.1 i.2.2 v.1 v.2 (fun t x32 => (r (t, x32))) (fun a0 a1 => (K .ret (mkS [(6, .box TT1), (0, .v (.int .i64))] 40 (a0, a1, ())))) (fun a1 => (K (.exit 0) (mkS [(6, .box TT1), (4, .box TT1)] 36 (i.1, a1, ()))))

end Go.Proofs.YtjnlgomdckihpaaGreatDoorLg

