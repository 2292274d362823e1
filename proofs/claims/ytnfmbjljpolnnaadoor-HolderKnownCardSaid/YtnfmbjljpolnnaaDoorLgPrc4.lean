/- The plain functions that the law reaches, what their calls do, and what they give (own work, in one text). -/
import Derived.Test.YtnfmbjljpolnnaaDoorLgPrc1
import Derived.Test.YtnfmbjljpolnnaaDoorLgPrc2
import Derived.Test.YtnfmbjljpolnnaaDoorLgPrc3
import Derived.WalkKit
import Derived.Tactics
import Derived.Tactics2
import Derived.Defers
import Derived.Lib.Hide
import Derived.Below
import Derived.Recover
import Derived.Orders
import Derived.WalkSmall
import Derived.LoopN
import Derived.Deep.RegionHeld3
import Derived.Laws.IdiomStrings
import Derived.Test.YtnfmbjljpolnnaaDoorLgW
import Derived.Test.YtnfmbjljpolnnaaDoorChecked
import Derived.KernelRfl
/- The functions of the seat, as plain functions, and what their calls do. Printed by a program of mine; checked here. -/
set_option linter.all false
set_option maxRecDepth 100000
namespace Go.Proofs.YtnfmbjljpolnnaaDoorLg
open Go Go.Lift

abbrev TT0 : T := (.pair .str (.pair (.sl (.pair .str (.pair .str .unit))) (.pair .str .unit)))

abbrev DT1 : Type := ((List UInt8) × ((List ((List UInt8) × ((List UInt8) × Unit))) × ((List UInt8) × Unit)))

abbrev TT2 : T := (.pair .bool (.pair (.arr 8 (.int .u32)) (.pair .str (.pair (.int .i64) .unit))))

abbrev DT3 : Type := (Bool × ((List Int) × ((List UInt8) × (Int × Unit))))

abbrev DT4 : Type := ((List UInt8) × Unit)

abbrev TT5 : T := (.pair .str (.pair .str .unit))

abbrev TT7 : T := (.pair TT0 (.pair (.sl TT0) .unit))

abbrev TT8 : T := (.pair (.self 84) (.pair (.own (.byt 5)) .unit))

abbrev DT9 : Type := ((List UInt8) × (DT3 × Unit))

abbrev DT10 : Type := (Unit × ((List Int) × Unit))

abbrev TT11 : T := (.pair (.ptr .str) (.pair (.ptr (.sl TT5)) (.pair (.ptr (.fn 37 .unit)) .unit)))

noncomputable def ty3 : TyI := ⟨(Go.TypeDesc.int IntKind.i64), 1, 8, (.int .i64), (0 : Int), false⟩

theorem ty3_ok : TyOk Tryd.prog 3 ty3 := TyOk.of (by kernel_rfl) (by kernel_rfl) (by kernel_rfl) (by kernel_rfl)

noncomputable def ty4 : TyI := ⟨Go.TypeDesc.bool, 1, 1, .bool, false, false⟩

theorem ty4_ok : TyOk Tryd.prog 4 ty4 := TyOk.of (by kernel_rfl) (by kernel_rfl) (by kernel_rfl) (by kernel_rfl)

noncomputable def ty5 : TyI := ⟨(Go.TypeDesc.int IntKind.u8), 1, 1, (.int .u8), (0 : Int), false⟩

theorem ty5_ok : TyOk Tryd.prog 5 ty5 := TyOk.of (by kernel_rfl) (by kernel_rfl) (by kernel_rfl) (by kernel_rfl)

noncomputable def ty9 : TyI := ⟨Go.TypeDesc.string, 1, 16, .str, ([] : List UInt8), false⟩

theorem ty9_ok : TyOk Tryd.prog 9 ty9 := TyOk.of (by kernel_rfl) (by kernel_rfl) (by kernel_rfl) (by kernel_rfl)

noncomputable def ty22 : TyI := ⟨(Go.TypeDesc.slice 46), 1, 24, (.sl TT5), ([] : List ((List UInt8) × DT4)), false⟩

theorem ty22_ok : TyOk Tryd.prog 22 ty22 := TyOk.of (by kernel_rfl) (by kernel_rfl) (by kernel_rfl) (by kernel_rfl)

noncomputable def ty24 : TyI := ⟨(Go.TypeDesc.struct (List.toArray ([(Go.Field.mk "ID" 9 0 false "" "" 0), (Go.Field.mk "Links" 22 1 false "" "" 16), (Go.Field.mk "Tag" 9 2 false "" "" 40)] : List Go.Field))), 3, 56, TT0, (([] : List UInt8), ([] : List ((List UInt8) × DT4)), ([] : List UInt8), ()), true⟩

theorem ty24_ok : TyOk Tryd.prog 24 ty24 := TyOk.of (by kernel_rfl) (by kernel_rfl) (by kernel_rfl) (by kernel_rfl)

noncomputable def ty25 : TyI := ⟨(Go.TypeDesc.array 2 9), 2, 32, (.arr 2 .str), ([([] : List UInt8), ([] : List UInt8)] : List (List UInt8)), true⟩

theorem ty25_ok : TyOk Tryd.prog 25 ty25 := TyOk.of (by kernel_rfl) (by kernel_rfl) (by kernel_rfl) (by kernel_rfl)

noncomputable def ty28 : TyI := ⟨(Go.TypeDesc.int IntKind.i64), 1, 8, (.int .i64), (0 : Int), false⟩

theorem ty28_ok : TyOk Tryd.prog 28 ty28 := TyOk.of (by kernel_rfl) (by kernel_rfl) (by kernel_rfl) (by kernel_rfl)

noncomputable def ty34 : TyI := ⟨(Go.TypeDesc.slice 24), 1, 24, (.sl TT0), ([] : List DT1), false⟩

theorem ty34_ok : TyOk Tryd.prog 34 ty34 := TyOk.of (by kernel_rfl) (by kernel_rfl) (by kernel_rfl) (by kernel_rfl)

noncomputable def ty38 : TyI := ⟨(Go.TypeDesc.struct (List.toArray ([(Go.Field.mk "Token" 24 0 false "" "" 0), (Go.Field.mk "More" 34 3 false "" "" 56)] : List Go.Field))), 4, 80, TT7, ((([] : List UInt8), ([] : List ((List UInt8) × DT4)), ([] : List UInt8), ()), ([] : List DT1), ()), true⟩

theorem ty38_ok : TyOk Tryd.prog 38 ty38 := TyOk.of (by kernel_rfl) (by kernel_rfl) (by kernel_rfl) (by kernel_rfl)

noncomputable def ty42 : TyI := ⟨(Go.TypeDesc.slice 9), 1, 24, (.sl .str), ([] : List (List UInt8)), false⟩

theorem ty42_ok : TyOk Tryd.prog 42 ty42 := TyOk.of (by kernel_rfl) (by kernel_rfl) (by kernel_rfl) (by kernel_rfl)

noncomputable def ty46 : TyI := ⟨(Go.TypeDesc.struct (List.toArray ([(Go.Field.mk "Text" 9 0 false "" "" 0), (Go.Field.mk "Seal" 9 1 false "" "" 16)] : List Go.Field))), 2, 32, TT5, (([] : List UInt8), ([] : List UInt8), ()), true⟩

theorem ty46_ok : TyOk Tryd.prog 46 ty46 := TyOk.of (by kernel_rfl) (by kernel_rfl) (by kernel_rfl) (by kernel_rfl)

noncomputable def ty55 : TyI := ⟨(Go.TypeDesc.struct (List.toArray ([(Go.Field.mk "Link" 46 0 true "" "" 0), (Go.Field.mk "to" 24 2 false "" "porter/holder" 32)] : List Go.Field))), 5, 88, (.pair TT5 (.pair TT0 .unit)), ((([] : List UInt8), ([] : List UInt8), ()), (([] : List UInt8), ([] : List ((List UInt8) × DT4)), ([] : List UInt8), ()), ()), true⟩

theorem ty55_ok : TyOk Tryd.prog 55 ty55 := TyOk.of (by kernel_rfl) (by kernel_rfl) (by kernel_rfl) (by kernel_rfl)

noncomputable def ty64 : TyI := ⟨(Go.TypeDesc.func (List.toArray ([75] : List Nat)) (List.toArray ([] : List Nat)) false), 1, 8, .opq, Go.Value.nilFunc, false⟩

theorem ty64_ok : TyOk Tryd.prog 64 ty64 := TyOk.of (by kernel_rfl) (by kernel_rfl) (by kernel_rfl) (by kernel_rfl)

noncomputable def ty66 : TyI := ⟨Go.TypeDesc.string, 1, 16, .str, ([] : List UInt8), false⟩

theorem ty66_ok : TyOk Tryd.prog 66 ty66 := TyOk.of (by kernel_rfl) (by kernel_rfl) (by kernel_rfl) (by kernel_rfl)

noncomputable def ty67 : TyI := ⟨(Go.TypeDesc.func (List.toArray ([66, 46] : List Nat)) (List.toArray ([66] : List Nat)) false), 1, 8, .opq, Go.Value.nilFunc, false⟩

theorem ty67_ok : TyOk Tryd.prog 67 ty67 := TyOk.of (by kernel_rfl) (by kernel_rfl) (by kernel_rfl) (by kernel_rfl)

noncomputable def ty75 : TyI := ⟨(Go.TypeDesc.func (List.toArray ([66] : List Nat)) (List.toArray ([4] : List Nat)) false), 1, 8, .opq, Go.Value.nilFunc, false⟩

theorem ty75_ok : TyOk Tryd.prog 75 ty75 := TyOk.of (by kernel_rfl) (by kernel_rfl) (by kernel_rfl) (by kernel_rfl)

noncomputable def ty81 : TyI := ⟨(Go.TypeDesc.slice 5), 1, 24, (.sl (.int .u8)), ([] : List Int), false⟩

theorem ty81_ok : TyOk Tryd.prog 81 ty81 := TyOk.of (by kernel_rfl) (by kernel_rfl) (by kernel_rfl) (by kernel_rfl)

noncomputable def ty82 : TyI := ⟨(Go.TypeDesc.pointer 84), 1, 8, .opq, (Go.Value.pointer none), false⟩

theorem ty82_ok : TyOk Tryd.prog 82 ty82 := TyOk.of (by kernel_rfl) (by kernel_rfl) (by kernel_rfl) (by kernel_rfl)

noncomputable def ty84 : TyI := ⟨(Go.TypeDesc.struct (List.toArray ([(Go.Field.mk "addr" 82 0 false "" "strings" 0), (Go.Field.mk "buf" 81 1 false "" "strings" 8)] : List Go.Field))), 2, 32, (.pair .opq (.pair (.sl (.int .u8)) .unit)), ((Go.Value.pointer none), ([] : List Int), ()), true⟩

theorem ty84_ok : TyOk Tryd.prog 84 ty84 := TyOk.of (by kernel_rfl) (by kernel_rfl) (by kernel_rfl) (by kernel_rfl)

noncomputable def ty86 : TyI := ⟨(Go.TypeDesc.func (List.toArray ([102] : List Nat)) (List.toArray ([] : List Nat)) false), 1, 8, .opq, Go.Value.nilFunc, false⟩

theorem ty86_ok : TyOk Tryd.prog 86 ty86 := TyOk.of (by kernel_rfl) (by kernel_rfl) (by kernel_rfl) (by kernel_rfl)

noncomputable def ty89 : TyI := ⟨(Go.TypeDesc.interface (List.toArray ([("Error", 92)] : List (String × Nat)))), 1, 16, .opq, Go.Value.nilIface, false⟩

theorem ty89_ok : TyOk Tryd.prog 89 ty89 := TyOk.of (by kernel_rfl) (by kernel_rfl) (by kernel_rfl) (by kernel_rfl)

noncomputable def ty95 : TyI := ⟨(Go.TypeDesc.slice 97), 1, 24, (.sl (.int .u32)), ([] : List Int), false⟩

theorem ty95_ok : TyOk Tryd.prog 95 ty95 := TyOk.of (by kernel_rfl) (by kernel_rfl) (by kernel_rfl) (by kernel_rfl)

noncomputable def ty97 : TyI := ⟨(Go.TypeDesc.int IntKind.u32), 1, 4, (.int .u32), (0 : Int), false⟩

theorem ty97_ok : TyOk Tryd.prog 97 ty97 := TyOk.of (by kernel_rfl) (by kernel_rfl) (by kernel_rfl) (by kernel_rfl)

noncomputable def ty98 : TyI := ⟨(Go.TypeDesc.array 8 97), 8, 32, (.arr 8 (.int .u32)), ([(0 : Int), (0 : Int), (0 : Int), (0 : Int), (0 : Int), (0 : Int), (0 : Int), (0 : Int)] : List Int), true⟩

theorem ty98_ok : TyOk Tryd.prog 98 ty98 := TyOk.of (by kernel_rfl) (by kernel_rfl) (by kernel_rfl) (by kernel_rfl)

noncomputable def ty102 : TyI := ⟨(Go.TypeDesc.func (List.toArray ([9] : List Nat)) (List.toArray ([4] : List Nat)) false), 1, 8, .opq, Go.Value.nilFunc, false⟩

theorem ty102_ok : TyOk Tryd.prog 102 ty102 := TyOk.of (by kernel_rfl) (by kernel_rfl) (by kernel_rfl) (by kernel_rfl)

noncomputable def ty104 : TyI := ⟨(Go.TypeDesc.pointer 115), 1, 8, .opq, (Go.Value.pointer none), false⟩

theorem ty104_ok : TyOk Tryd.prog 104 ty104 := TyOk.of (by kernel_rfl) (by kernel_rfl) (by kernel_rfl) (by kernel_rfl)

noncomputable def ty107 : TyI := ⟨(Go.TypeDesc.int IntKind.u64), 1, 8, (.int .u64), (0 : Int), false⟩

theorem ty107_ok : TyOk Tryd.prog 107 ty107 := TyOk.of (by kernel_rfl) (by kernel_rfl) (by kernel_rfl) (by kernel_rfl)

noncomputable def ty108 : TyI := ⟨(Go.TypeDesc.int IntKind.u64), 1, 8, (.int .u64), (0 : Int), false⟩

theorem ty108_ok : TyOk Tryd.prog 108 ty108 := TyOk.of (by kernel_rfl) (by kernel_rfl) (by kernel_rfl) (by kernel_rfl)

noncomputable def ty112 : TyI := ⟨(Go.TypeDesc.array 8 97), 8, 32, (.arr 8 (.int .u32)), ([(0 : Int), (0 : Int), (0 : Int), (0 : Int), (0 : Int), (0 : Int), (0 : Int), (0 : Int)] : List Int), true⟩

theorem ty112_ok : TyOk Tryd.prog 112 ty112 := TyOk.of (by kernel_rfl) (by kernel_rfl) (by kernel_rfl) (by kernel_rfl)

noncomputable def ty115 : TyI := ⟨(Go.TypeDesc.struct (List.toArray ([(Go.Field.mk "made" 4 0 false "" "porter/sha" 0), (Go.Field.mk "words" 112 1 false "" "porter/sha" 4), (Go.Field.mk "rest" 9 9 false "" "porter/sha" 40), (Go.Field.mk "long" 3 10 false "" "porter/sha" 56)] : List Go.Field))), 11, 64, TT2, (false, ([(0 : Int), (0 : Int), (0 : Int), (0 : Int), (0 : Int), (0 : Int), (0 : Int), (0 : Int)] : List Int), ([] : List UInt8), (0 : Int), ()), true⟩

theorem ty115_ok : TyOk Tryd.prog 115 ty115 := TyOk.of (by kernel_rfl) (by kernel_rfl) (by kernel_rfl) (by kernel_rfl)

noncomputable def ty127 : TyI := ⟨(Go.TypeDesc.array 64 97), 64, 256, (.arr 64 (.int .u32)), ((0 : Int) :: (0 : Int) :: (0 : Int) :: (0 : Int) :: (0 : Int) :: (0 : Int) :: (0 : Int) :: (0 : Int) :: (0 : Int) :: (0 : Int) :: (0 : Int) :: (0 : Int) :: (0 : Int) :: (0 : Int) :: (0 : Int) :: (0 : Int) :: (0 : Int) :: (0 : Int) :: (0 : Int) :: (0 : Int) :: (0 : Int) :: (0 : Int) :: (0 : Int) :: (0 : Int) :: (0 : Int) :: (0 : Int) :: (0 : Int) :: (0 : Int) :: (0 : Int) :: (0 : Int) :: (0 : Int) :: (0 : Int) :: (0 : Int) :: (0 : Int) :: (0 : Int) :: (0 : Int) :: (0 : Int) :: (0 : Int) :: (0 : Int) :: (0 : Int) :: (0 : Int) :: (0 : Int) :: (0 : Int) :: (0 : Int) :: (0 : Int) :: (0 : Int) :: (0 : Int) :: (0 : Int) :: (0 : Int) :: (0 : Int) :: (0 : Int) :: (0 : Int) :: (0 : Int) :: (0 : Int) :: (0 : Int) :: (0 : Int) :: (0 : Int) :: (0 : Int) :: (0 : Int) :: (0 : Int) :: (0 : Int) :: (0 : Int) :: (0 : Int) :: (0 : Int) :: ([] : List Int)), true⟩

theorem ty127_ok : TyOk Tryd.prog 127 ty127 := TyOk.of (by kernel_rfl) (by kernel_rfl) (by kernel_rfl) (by kernel_rfl)

noncomputable def tys : List (Nat × TyI) := [(3, ty3), (4, ty4), (5, ty5), (9, ty9), (22, ty22), (24, ty24), (25, ty25), (28, ty28), (34, ty34), (38, ty38), (42, ty42), (46, ty46), (55, ty55), (64, ty64), (66, ty66), (67, ty67), (75, ty75), (81, ty81), (82, ty82), (84, ty84), (86, ty86), (89, ty89), (95, ty95), (97, ty97), (98, ty98), (102, ty102), (104, ty104), (107, ty107), (108, ty108), (112, ty112), (115, ty115), (127, ty127)]

theorem tys_ok : TysOk Tryd.prog tys := TysOk.cons ty3_ok (TysOk.cons ty4_ok (TysOk.cons ty5_ok (TysOk.cons ty9_ok (TysOk.cons ty22_ok (TysOk.cons ty24_ok (TysOk.cons ty25_ok (TysOk.cons ty28_ok (TysOk.cons ty34_ok (TysOk.cons ty38_ok (TysOk.cons ty42_ok (TysOk.cons ty46_ok (TysOk.cons ty55_ok (TysOk.cons ty64_ok (TysOk.cons ty66_ok (TysOk.cons ty67_ok (TysOk.cons ty75_ok (TysOk.cons ty81_ok (TysOk.cons ty82_ok (TysOk.cons ty84_ok (TysOk.cons ty86_ok (TysOk.cons ty89_ok (TysOk.cons ty95_ok (TysOk.cons ty97_ok (TysOk.cons ty98_ok (TysOk.cons ty102_ok (TysOk.cons ty104_ok (TysOk.cons ty107_ok (TysOk.cons ty108_ok (TysOk.cons ty112_ok (TysOk.cons ty115_ok (TysOk.cons ty127_ok (TysOk.nil))))))))))))))))))))))))))))))))

theorem mixed : Tryd.prog.follows .mixedOrders = true := by kernel_rfl

noncomputable def glob0 : List Int := [1116352408, 1899447441, 3049323471, 3921009573, 961987163, 1508970993, 2453635748, 2870763221, 3624381080, 310598401, 607225278, 1426881987, 1925078388, 2162078206, 2614888103, 3248222580, 3835390401, 4022224774, 264347078, 604807628, 770255983, 1249150122, 1555081692, 1996064986, 2554220882, 2821834349, 2952996808, 3210313671, 3336571891, 3584528711, 113926993, 338241895, 666307205, 773529912, 1294757372, 1396182291, 1695183700, 1986661051, 2177026350, 2456956037, 2730485921, 2820302411, 3259730800, 3345764771, 3516065817, 3600352804, 4094571909, 275423344, 430227734, 506948616, 659060556, 883997877, 958139571, 1322822218, 1537002063, 1747873779, 1955562222, 2024104815, 2227730452, 2361852424, 2428436474, 2756734187, 3204031479, 3329325298]

noncomputable def glob : Nat → Option Dat := lk [(0, ⟨(.arr 64 (.int .u32)), glob0⟩)]

noncomputable def body_0 : Code := (Tryd.f18.body).getD .skip

noncomputable def L_0 : List (List Nat × List Nat) := [([0], [1]), ([0, 0, 1], [20, 1]), ([1, 0, 1], [1]), ([0, 0, 1, 0, 1], [2]), ([1, 0, 1, 0, 1], [2]), ([0, 1, 1], [1, 3]), ([0, 0, 1, 1, 1], [4, 1, 3]), ([0, 1, 0, 1, 1, 1], [4, 1, 3]), ([0, 0, 0, 0, 1, 0, 1, 1, 1], [25, 1, 4, 3]), ([1, 0, 0, 0, 1, 0, 1, 1, 1], [1, 4, 3]), ([1, 1, 0, 0, 0, 1, 0, 1, 1, 1], [3]), ([0, 0, 0, 0, 1, 0, 0, 1, 0, 1, 1, 1], [45, 3, 1, 4]), ([1, 0, 0, 0, 1, 0, 0, 1, 0, 1, 1, 1], [3, 1, 4]), ([0, 0, 1, 0, 0, 0, 1, 0, 0, 1, 0, 1, 1, 1], [2]), ([1, 0, 1, 0, 0, 0, 1, 0, 0, 1, 0, 1, 1, 1], [2]), ([1, 0, 0, 1, 0, 0, 1, 0, 1, 1, 1], [4, 1, 3]), ([0, 1, 0, 0, 1, 0, 1, 1, 1], [4, 1, 3]), ([1, 1, 0, 0, 1, 0, 1, 1, 1], [4, 1, 3]), ([1, 0, 1, 1, 1], [3]), ([0, 1, 1, 1, 1], [2]), ([1, 1, 1, 1, 1], [2])]

noncomputable def E_0 (N : Nat) : Env := mkEnv tys glob [] [] [] [] false [] []

theorem Eok_0 (N : Nat) : EnvOk Tryd.prog (E_0 N) := mkEnv_ok mixed tys_ok (FnsOk.nil) (ItsOk.nil)

noncomputable def porterref30_Great_p2 (N : Nat) (t : DT1) (k0 : Bool → Option Bool) : Option Bool :=
  cond (decide ((4200 : Int) < (((List.length t.1) : Nat) : Int)))
  (k0 true)
  (cond (decide ((100 : Int) < (((List.length t.2.2.1) : Nat) : Int)))
    (k0 true)
    (k0 (decide ((70 : Int) < (((List.length t.2.1) : Nat) : Int)))))

noncomputable def g2_0 (N : Nat) (x : denS [(1, .box TT0)]) (K : Ex → List A → Option Bool) : Option Bool :=
  porterref30_Great_p2 N x.1 (fun a1 => (K .normal (mkS [(1, .box TT0), (18, .v .bool)] 44 (x.1, a1, ()))))

noncomputable def h2_0 (N : Nat) : Hd Bool := fun st K => (unS [(1, .box TT0)] 63 (restr [1] 0 st)).bind fun x => g2_0 N x K

noncomputable def t2_0 (N : Nat) : Tab Bool := []

theorem ok2_0 {N : Nat} {c : Ctx} (hb : Base Tryd.prog (E_0 N) c) : CodeOk Tryd.prog c (nodeAt body_0 [0, 0, 1]) (h2_0 N) :=
  piece_ok (s := [(1, .box TT0)]) (m := 63) (g := g2_0 N) [1] (evN_sound hb N (t2_0 N) L_0 body_0 TabOk.nil [0, 0, 1] _ rfl) (fun x K => by kernel_rfl)

noncomputable def porterref30_Great_p1 (N : Nat) (t : DT1) (k0 : Bool → Option Bool) (k1 : Option Bool) : Option Bool :=
  porterref30_Great_p2 N t
  (fun x20 => cond x20
    (k0 true)
    (k1))

noncomputable def g1_0 (N : Nat) (x : denS [(1, .box TT0)]) (K : Ex → List A → Option Bool) : Option Bool :=
  porterref30_Great_p1 N x.1 (fun a0 => (K .ret (mkS [(2, .v .bool)] 62 (a0, ())))) (K .normal (mkS [(1, .box TT0)] 63 (x.1, ())))

noncomputable def h1_0 (N : Nat) : Hd Bool := fun st K => (unS [(1, .box TT0)] 63 (restr [1] 0 st)).bind fun x => g1_0 N x K

noncomputable def t1_0 (N : Nat) : Tab Bool := [([0, 0, 1], h2_0 N)]

theorem ok1_0 {N : Nat} {c : Ctx} (hb : Base Tryd.prog (E_0 N) c) : CodeOk Tryd.prog c (nodeAt body_0 [0, 1]) (h1_0 N) :=
  piece_ok (s := [(1, .box TT0)]) (m := 63) (g := g1_0 N) [1] (evN_sound hb N (t1_0 N) L_0 body_0 (TabOk.cons (ok2_0 hb) TabOk.nil) [0, 1] _ rfl) (fun x K => by kernel_rfl)

noncomputable def porterref30_Great_p6 (N : Nat) (t : DT1) (all : Int) (i : Int) (k0 : Bool → Option Bool) : Option Bool :=
  cond (inR i (List.length t.2.1))
  (cond (decide ((4200 : Int) < (((List.length (List.getD t.2.1 (Int.toNat i) (([] : List UInt8), (([] : List UInt8), ()))).1) : Nat) : Int)))
    (k0 true)
    (cond (inR i (List.length t.2.1))
      (k0 (decide ((4200 : Int) < (((List.length (List.getD t.2.1 (Int.toNat i) (([] : List UInt8), (([] : List UInt8), ()))).2.1) : Nat) : Int))))
      (none)))
  (none)

noncomputable def g6_0 (N : Nat) (x : denS [(1, .box TT0), (1, .v (.int .i64)), (0, .v (.int .i64))]) (K : Ex → List A → Option Bool) : Option Bool :=
  porterref30_Great_p6 N x.1 x.2.1 x.2.2.1 (fun a3 => (K .normal (mkS [(1, .box TT0), (1, .v (.int .i64)), (0, .v (.int .i64)), (40, .v .bool)] 19 (x.1, x.2.1, x.2.2.1, a3, ()))))

noncomputable def h6_0 (N : Nat) : Hd Bool := fun st K => (unS [(1, .box TT0), (1, .v (.int .i64)), (0, .v (.int .i64))] 60 (restr [1, 4, 3] 0 st)).bind fun x => g6_0 N x K

noncomputable def t6_0 (N : Nat) : Tab Bool := []

theorem ok6_0 {N : Nat} {c : Ctx} (hb : Base Tryd.prog (E_0 N) c) : CodeOk Tryd.prog c (nodeAt body_0 [0, 0, 0, 0, 1, 0, 0, 1, 0, 1, 1, 1]) (h6_0 N) :=
  piece_ok (s := [(1, .box TT0), (1, .v (.int .i64)), (0, .v (.int .i64))]) (m := 60) (g := g6_0 N) [1, 4, 3] (evN_sound hb N (t6_0 N) L_0 body_0 TabOk.nil [0, 0, 0, 0, 1, 0, 0, 1, 0, 1, 1, 1] _ rfl) (fun x K => by kernel_rfl)

noncomputable def porterref30_Great_p5 (N : Nat) (t : DT1) (all : Int) (i : Int) (k0 : Bool → Option Bool) (k1 : Option Bool) : Option Bool :=
  porterref30_Great_p6 N t all i
  (fun x45 => cond x45
    (k0 true)
    (k1))

noncomputable def g5_0 (N : Nat) (x : denS [(1, .box TT0), (1, .v (.int .i64)), (0, .v (.int .i64))]) (K : Ex → List A → Option Bool) : Option Bool :=
  porterref30_Great_p5 N x.1 x.2.1 x.2.2.1 (fun a0 => (K .ret (mkS [(2, .v .bool)] 62 (a0, ())))) (K .normal (mkS [(1, .box TT0), (1, .v (.int .i64)), (0, .v (.int .i64))] 60 (x.1, x.2.1, x.2.2.1, ())))

noncomputable def h5_0 (N : Nat) : Hd Bool := fun st K => (unS [(1, .box TT0), (1, .v (.int .i64)), (0, .v (.int .i64))] 60 (restr [1, 4, 3] 0 st)).bind fun x => g5_0 N x K

noncomputable def t5_0 (N : Nat) : Tab Bool := [([0, 0, 0, 0, 1, 0, 0, 1, 0, 1, 1, 1], h6_0 N)]

theorem ok5_0 {N : Nat} {c : Ctx} (hb : Base Tryd.prog (E_0 N) c) : CodeOk Tryd.prog c (nodeAt body_0 [0, 0, 0, 1, 0, 0, 1, 0, 1, 1, 1]) (h5_0 N) :=
  piece_ok (s := [(1, .box TT0), (1, .v (.int .i64)), (0, .v (.int .i64))]) (m := 60) (g := g5_0 N) [1, 4, 3] (evN_sound hb N (t5_0 N) L_0 body_0 (TabOk.cons (ok6_0 hb) TabOk.nil) [0, 0, 0, 1, 0, 0, 1, 0, 1, 1, 1] _ rfl) (fun x K => by kernel_rfl)

noncomputable def porterref30_Great_p4 (N : Nat) (t : DT1) (all : Int) (i : Int) (k0 : Bool → Option Bool) (k1 : Int → Option Bool) : Option Bool :=
  porterref30_Great_p5 N t all i
  (fun x2 => k0 x2)
  (cond (inR i (List.length t.2.1))
    (cond (inR i (List.length t.2.1))
      (k1 (IntKind.wrap IntKind.i64 ((IntKind.wrap IntKind.i64 (all + (((List.length (List.getD t.2.1 (Int.toNat i) (([] : List UInt8), (([] : List UInt8), ()))).1) : Nat) : Int))) + (((List.length (List.getD t.2.1 (Int.toNat i) (([] : List UInt8), (([] : List UInt8), ()))).2.1) : Nat) : Int))))
      (none))
    (none))

noncomputable def g4_0 (N : Nat) (x : denS [(1, .box TT0), (1, .v (.int .i64)), (0, .v (.int .i64))]) (K : Ex → List A → Option Bool) : Option Bool :=
  porterref30_Great_p4 N x.1 x.2.1 x.2.2.1 (fun a0 => (K .ret (mkS [(2, .v .bool)] 62 (a0, ())))) (fun a1 => (K .normal (mkS [(1, .box TT0), (1, .v (.int .i64)), (0, .v (.int .i64))] 60 (x.1, a1, x.2.2.1, ()))))

noncomputable def h4_0 (N : Nat) : Hd Bool := fun st K => (unS [(1, .box TT0), (1, .v (.int .i64)), (0, .v (.int .i64))] 60 (restr [1, 4, 3] 0 st)).bind fun x => g4_0 N x K

noncomputable def t4_0 (N : Nat) : Tab Bool := [([0, 0, 0, 1, 0, 0, 1, 0, 1, 1, 1], h5_0 N)]

theorem ok4_0 {N : Nat} {c : Ctx} (hb : Base Tryd.prog (E_0 N) c) : CodeOk Tryd.prog c (nodeAt body_0 [0, 1, 0, 0, 1, 0, 1, 1, 1]) (h4_0 N) :=
  piece_ok (s := [(1, .box TT0), (1, .v (.int .i64)), (0, .v (.int .i64))]) (m := 60) (g := g4_0 N) [1, 4, 3] (evN_sound hb N (t4_0 N) L_0 body_0 (TabOk.cons (ok5_0 hb) TabOk.nil) [0, 1, 0, 0, 1, 0, 1, 1, 1] _ rfl) (fun x K => by kernel_rfl)

noncomputable def porterref30_Great_s3 (N : Nat) (t : DT1) (all : Int) (i : Int) (rec : Int → Int → Option Bool) (k0 : Bool → Option Bool) (k1 : Int → Option Bool) : Option Bool :=
  cond (decide (i < (((List.length t.2.1) : Nat) : Int)))
  (porterref30_Great_p4 N t all i
    (fun x2 => k0 x2)
    (fun all1 => rec all1 (IntKind.wrap IntKind.i64 (i + (1 : Int)))))
  (k1 all)

noncomputable def porterref30_Great_p3 (N : Nat) (t : DT1) (all : Int) (i : Int) (k0 : Bool → Option Bool) (k1 : Int → Option Bool) : Option Bool :=
  iter (fun (v : (Int × Int)) r => porterref30_Great_s3 N t v.1 v.2 (fun all i => (r (all, i))) k0 k1) N (all, i)

noncomputable def g3_0 (N : Nat) (i : DT1) (v : (Int × Int)) (r : (Int × Int) → Option Bool) (K : Ex → List A → Option Bool) : Option Bool :=
  porterref30_Great_s3 N i v.1 v.2 (fun all i => (r (all, i))) (fun a0 => (K .ret (mkS [(2, .v .bool)] 62 (a0, ())))) (fun a0 => (K (.exit 0) (mkS [(3, .v (.int .i64))] 61 (a0, ()))))

noncomputable def h3_0 (N : Nat) : Hd Bool := fun st K => (unS [(1, .box TT0), (1, .v (.int .i64)), (0, .v (.int .i64))] 60 (restr [4, 1, 3] 0 st)).bind fun x => iter (fun v r => g3_0 N ((fun x => x.1) x) v r K) N ((fun x => (x.2.1, x.2.2.1)) x)

noncomputable def t3_0 (N : Nat) : Tab Bool := [([0, 1, 0, 0, 1, 0, 1, 1, 1], h4_0 N)]

theorem ok3_0 {N : Nat} {c : Ctx} (hb : Base Tryd.prog (E_0 N) c) : CodeOk Tryd.prog c (nodeAt body_0 [0, 1, 0, 1, 1, 1]) (h3_0 N) :=
  loop_ok (s := [(1, .box TT0), (1, .v (.int .i64)), (0, .v (.int .i64))]) (m := 60) (g3_0 N) [4, 1, 3] N (fun x => x.1) (fun x => (x.2.1, x.2.2.1)) (fun i v => (i, v.1, v.2, ())) (fun _ => rfl) (evN_sound hb N (t3_0 N) L_0 body_0 (TabOk.cons (ok4_0 hb) TabOk.nil) [0, 0, 1, 0, 1, 1, 1] _ rfl) (fun i v r K => by kernel_rfl)

noncomputable def porterref30_Great (N : Nat) (t : DT1) : Option Bool :=
  porterref30_Great_p1 N t
  (fun x2 => some x2)
  (porterref30_Great_p3 N t (0 : Int) (0 : Int)
    (fun x21 => some x21)
    (fun all => some (decide ((20000 : Int) < all))))

noncomputable def t_0 (N : Nat) : Tab Bool := [([0, 1], h1_0 N), ([0, 1, 0, 1, 1, 1], h3_0 N)]

theorem link_0 (N : Nat) (x : denS [(0, .v TT0)]) : evFX (E_0 N) N (t_0 N) L_0 Tryd.f18 (mkS [(0, .v TT0)] 0 x) (kRes (.v .bool) 1) = porterref30_Great N x.1 := by kernel_rfl

noncomputable def porterref30_Great_res (N : Nat) : List A → Res := resOf [(0, .v TT0)] (fun x => porterref30_Great N x.1) (oRes (.v .bool) 1)

theorem porterref30_Great_ct (N : Nat) : Contract Tryd.prog glob 18 (porterref30_Great_res N) :=
  Contract.of (E := E_0 N) (H := t_0 N) (L := L_0) (N := N) (body := body_0) (K := (kRes (.v .bool) 1)) (Eok_0 N) Tryd.func18 (by kernel_rfl) (by decide) (fun _ hb => (TabOk.cons (ok1_0 hb) (TabOk.cons (ok3_0 hb) TabOk.nil))) (fun x y h => by rw [link_0]; exact h) (kRes_ok (s := (.v .bool)) (m := 1))

noncomputable def body_2 : Code := (Tryd.f26.body).getD .skip

noncomputable def L_2 : List (List Nat × List Nat) := [([0], [1]), ([0, 1], [2]), ([1, 1], [2])]

noncomputable def E_2 (N : Nat) : Env := mkEnv tys glob [] [] [] [] false [] []

theorem Eok_2 (N : Nat) : EnvOk Tryd.prog (E_2 N) := mkEnv_ok mixed tys_ok (FnsOk.nil) (ItsOk.nil)

noncomputable def holder_addition_full (N : Nat) (a : (((List UInt8) × DT4) × (DT1 × Unit))) : Option Bool :=
  some (decide ((64 : Int) ≤ (((List.length a.2.1.2.1) : Nat) : Int)))

noncomputable def t_2 (N : Nat) : Tab Bool := []

theorem link_2 (N : Nat) (x : denS [(0, .v (.pair TT5 (.pair TT0 .unit)))]) : evFX (E_2 N) N (t_2 N) L_2 Tryd.f26 (mkS [(0, .v (.pair TT5 (.pair TT0 .unit)))] 0 x) (kRes (.v .bool) 1) = holder_addition_full N x.1 := by kernel_rfl

noncomputable def holder_addition_full_res (N : Nat) : List A → Res := resOf [(0, .v (.pair TT5 (.pair TT0 .unit)))] (fun x => holder_addition_full N x.1) (oRes (.v .bool) 1)

theorem holder_addition_full_ct (N : Nat) : Contract Tryd.prog glob 26 (holder_addition_full_res N) :=
  Contract.of (E := E_2 N) (H := t_2 N) (L := L_2) (N := N) (body := body_2) (K := (kRes (.v .bool) 1)) (Eok_2 N) Tryd.func26 (by kernel_rfl) (by decide) (fun _ hb => TabOk.nil) (fun x y h => by rw [link_2]; exact h) (kRes_ok (s := (.v .bool)) (m := 1))

/-- a world behind another one, in which nothing that was there has turned -/
def Calm (w : World) (S : Hp) (w' : World) : Prop := ∃ S', WF w (fun _ => False) w' ∧ Lift.Sub S S' ∧ Lift.Sub S' (hp w') ∧ ∀ k, S' k ≠ none → S k ≠ none ∨ w.heap.size ≤ k

theorem Calm.refl {w : World} {S : Hp} (h : Lift.Sub S (hp w)) : Calm w S w := ⟨S, WF.refl _ _, Lift.Sub.refl S, h, fun _ h => .inl h⟩

theorem Calm.next {w w1 w2 : World} {S : Hp} (h : Calm w S w1) (hk : ∀ S1, Lift.Sub S1 (hp w1) → Calm w1 S1 w2) : Calm w S w2 := by
  obtain ⟨S1, h1, h2, h3, h4⟩ := h
  obtain ⟨S2, k1, k2, k3, k4⟩ := hk S1 h3
  refine ⟨S2, h1.trans k1 (fun k hk => .inl hk), h2.trans k2, k3, fun k hk => ?_⟩
  rcases k4 k hk with h | h
  · exact h4 k h
  · exact .inr (Nat.le_trans h1.size h)

theorem args_plain {w : World} {S : Hp} (l : List (A × Value)) (hl : ∀ p ∈ l, ARel (hp w) S (fun _ => undef) p.1 p.2 [] ∧ p.1.refs = []) :
    ArgsRel (hp w) S (l.map (·.1)) (l.map (·.2)) (fun _ => []) := by
  refine ⟨by simp, fun i y hy => ?_, fun _ _ => rfl, (fun i j b hb => by cases hb), fun _ => .nil, (fun i b hb => by cases hb)⟩
  simp only [List.getElem?_map] at hy ⊢
  cases hp : l[i]? with
  | none => rw [hp] at hy; cases hy
  | some p =>
    rw [hp] at hy
    cases hy
    have := hl p (List.mem_of_getElem? hp)
    exact ⟨⟨p.2, rfl, this.1⟩, this.2⟩

abbrev LinkT : T := .pair .str (.pair .str .unit)

noncomputable def cl_ren : Go.Shelf.Ren := ⟨fun | 41 => 50 | n => n, fun | 4 => 4 | 22 => 22 | 23 => 46 | n => n, fun n => n⟩

theorem cl_lays : Go.Proofs.SlLaysE0.n41 Tryd.prog cl_ren where
  mixed := by kernel_rfl
  f41 := ⟨"slices.Clone[[]porter/api.Link,porter/api.Link]", by decide, Tryd.func50.trans (congrArg some (by kernel_rfl))⟩
  t4 := Tryd.underlying4
  a4 := Tryd.isAgg4
  z4 := Tryd.sizeOf4
  v4 := Tryd.zeroValue4
  t22 := Tryd.underlying22
  a22 := Tryd.isAgg22
  z22 := Tryd.sizeOf22
  v22 := Tryd.zeroValue22

noncomputable def clone_link (N : Nat) (l : List LinkT.den) : Option (List LinkT.den) := cond (decide (l.length * 32 ≤ 140737488355328)) (some l) none

noncomputable def clone_link_res (N : Nat) : List A → Res := resOf [(0, .v (.sl LinkT))] (fun x => clone_link N x.1) (oRes (.row LinkT) 1)

theorem clone_link_ct (N : Nat) : Contract Tryd.prog glob 50 (clone_link_res N) :=
  clone_ct cl_lays (ee := ty46) ty46_ok (by decide) (by decide) glob

abbrev TokT : T := .pair .str (.pair (.sl LinkT) (.pair .str .unit))

abbrev TokO : T := .pair .str (.pair (.own LinkT) (.pair .str .unit))

noncomputable def holder_clone (N : Nat) (t : TokT.den) : Option TokO.den := (clone_link N t.2.1).bind fun l => some (t.1, (l, (t.2.2.1, ())))

noncomputable def holder_clone_res (N : Nat) : List A → Res := resOf [(0, .v TokT)] (fun x => holder_clone N x.1) (oRes (.ov TokO) 1)

theorem tok_inv {S : Hp} {i t : List UInt8} {l : List LinkT.den} {v : Value} (h : VR S TokT (i, (l, (t, ()))) v) : ∃ sv, v = .agg #[.string ⟨⟨i⟩⟩, sv, .string ⟨⟨t⟩⟩] ∧ VR S (.sl LinkT) l sv := by
  have h' : ∃ cs, v = .agg cs ∧ Rd S TokT (i, (l, (t, ()))) cs.toList := h
  obtain ⟨cs, rfl, c1, c2, hc, k1, c3, c4, hc', k2, c5, c6, hc'', k3, k4⟩ := h'
  have e1 : c1 = [.string ⟨⟨i⟩⟩] := k1
  have e3 : c5 = [.string ⟨⟨t⟩⟩] := k3
  have e5 : c6 = [] := k4
  obtain ⟨a, cap, e2, hcap, hk⟩ := k2
  refine ⟨.slice a l.length cap, ?_, VR.of_one rfl ⟨a, cap, rfl, hcap, hk⟩⟩
  congr 1
  apply Array.toList_inj.1
  rw [hc, hc', hc'', e1, e2, e3, e5]
  rfl

theorem clone_call (N : Nat) {w : World} {S : Hp} (hS : Lift.Sub S (hp w)) (hg : GlobOk glob S) {l l' : List LinkT.den} {sv : Value} (hv : VR S (.sl LinkT) l sv) (hy : clone_link N l = some l') :
    Calls Tryd.prog 50 #[sv] w fun r w' => ∃ v o S', r = .returned v ∧ RowRel (hp w') S' LinkT l' v o ∧ (∀ b ∈ o, S' b = none ∧ w.heap.size ≤ b) ∧ o.Nodup ∧
      WF w (fun _ => False) w' ∧ Lift.Sub S S' ∧ Lift.Sub S' (hp w') ∧ ∀ k, S' k ≠ none → S k ≠ none ∨ w.heap.size ≤ k := by
  refine ((clone_link_ct N).2 w S _ _ _ (args_plain [(.v (.sl LinkT) l, sv)] (fun p hp => by rw [List.mem_singleton.1 hp]; exact ⟨⟨hv, rfl⟩, rfl⟩)) hS hg _ hy).mono ?_
  rintro e w' ⟨v, S', o, ob', rfl, hwf, k1, k2, k3, ⟨hr, _⟩, ho, hnd, _⟩
  refine ⟨v, o, S', rfl, hr, fun b hb => ?_, hnd, ⟨hwf.size, fun k hk _ => hwf.same k hk (by rintro ⟨i, hi⟩; cases hi), hwf.tape, hwf.os, hwf.output⟩, k1, k2, fun k hk => ?_⟩
  · obtain ⟨o1, o2⟩ := ho b hb
    refine ⟨o1, ?_⟩
    rcases o2 with ⟨i, hi⟩ | h
    · cases hi
    · exact h
  · rcases k3 k hk with h | ⟨i, hi⟩ | h
    · exact .inl h
    · cases hi
    · exact .inr h

theorem VRsl_one {S : Hp} {t : T} {l : List t.den} {v : Value} (h : VR S (.sl t) l v) : ∃ a n c, v = .slice a n c := by
  have h' : Rd S (.sl t) l [v] := h
  obtain ⟨a, c, e, _⟩ := h'
  exact ⟨a, _, c, by cases e; rfl⟩

theorem row_sl {h S : Hp} {t : T} {l : List t.den} {v : Value} {o : List Nat} (hr : RowRel h S t l v o) : ∃ a n c, v = .slice a n c := by
  rcases hr with ⟨_, ⟨ad, e, _⟩, _⟩ | ⟨b, cap, cs, E, fr, _, e, _⟩
  · exact ⟨ad, 0, 0, e⟩
  · exact ⟨_, _, _, e⟩

theorem keepB {w w3 : World} (h : WF w (fun _ => False) w3) {b : Nat} {o : Obj} (hb : w.heap[b]? = some o) : w3.heap[b]? = some o := by
  rw [h.same b (Array.getElem?_eq_some_iff.1 hb).1 (fun h => h)]; exact hb

theorem cellB {w : World} {b i E : Nat} {cs : Array Value} {v : Value} (hb : w.heap[b]? = some (.cells cs E (0, 0))) (hi : cs[i]? = some v) : w.cell? ⟨b, i, none⟩ = some v := by
  simp [World.cell?, hb, hi]

theorem freeB {w : World} {b i E : Nat} {cs : Array Value} (hb : w.heap[b]? = some (.cells cs E (0, 0))) : w.frozen? ⟨b, i, none⟩ = false := by
  simp [World.frozen?, hb]

theorem set_other {w : World} {b i k : Nat} {v : Value} (hk : k ≠ b) : (w.setCell ⟨b, i, none⟩ v).heap[k]? = w.heap[k]? := by
  have : b ≠ k := fun h => hk h.symm
  simp [World.setCell, Array.getElem?_modify, this]

theorem set_size {w : World} {b i : Nat} {v : Value} : (w.setCell ⟨b, i, none⟩ v).heap.size = w.heap.size ∧ (w.setCell ⟨b, i, none⟩ v).tape = w.tape ∧ (w.setCell ⟨b, i, none⟩ v).os = w.os ∧ (w.setCell ⟨b, i, none⟩ v).output = w.output := by
  simp [World.setCell]

/-- w' is w but for the blocks in B -/
structure But (B : Nat → Prop) (w w' : World) : Prop where
  same : ∀ k, ¬ B k → w'.heap[k]? = w.heap[k]?
  size : w'.heap.size = w.heap.size
  tape : w'.tape = w.tape
  os : w'.os = w.os
  output : w'.output = w.output

theorem But.refl (B : Nat → Prop) (w : World) : But B w w := ⟨fun _ _ => rfl, rfl, rfl, rfl, rfl⟩

theorem But.set {B : Nat → Prop} {w w' : World} (h : But B w w') {b i : Nat} {v : Value} (hb : B b) : But B w (w'.setCell ⟨b, i, none⟩ v) :=
  ⟨fun k hk => by rw [set_other (fun e => hk (by rw [e]; exact hb)), h.same k hk], set_size.1.trans h.size, set_size.2.1.trans h.tape, set_size.2.2.1.trans h.os, set_size.2.2.2.trans h.output⟩

theorem alloc_two {w : World} {c1 c2 : Array Value} {E1 E2 : Nat} : ((w.alloc (.cells c1 E1)).alloc (.cells c2 E2)).heap[w.heap.size]? = some (.cells c1 E1 (0, 0)) ∧ ((w.alloc (.cells c1 E1)).alloc (.cells c2 E2)).heap[w.heap.size + 1]? = some (.cells c2 E2 (0, 0)) ∧
    ((w.alloc (.cells c1 E1)).alloc (.cells c2 E2)).heap.size = w.heap.size + 2 ∧ ∀ k, k < w.heap.size → ((w.alloc (.cells c1 E1)).alloc (.cells c2 E2)).heap[k]? = w.heap[k]? := by
  have hh : ((w.alloc (.cells c1 E1)).alloc (.cells c2 E2)).heap = (w.heap.push (.cells c1 E1 (0, 0))).push (.cells c2 E2 (0, 0)) := rfl
  refine ⟨?_, ?_, ?_, fun k hk => ?_⟩
  · rw [hh, Array.getElem?_push, Array.size_push, if_neg (by omega), Array.getElem?_push, if_pos rfl]
  · rw [hh, Array.getElem?_push, Array.size_push, if_pos rfl]
  · rw [hh, Array.size_push, Array.size_push]
  · rw [hh, Array.getElem?_push, Array.size_push, if_neg (by omega), Array.getElem?_push, if_neg (by omega)]

theorem sub_alloc_two {w : World} {S : Hp} (hS : Lift.Sub S (hp w)) (c1 c2 : Array Value) (E1 E2 : Nat) : Lift.Sub S (hp ((w.alloc (.cells c1 E1)).alloc (.cells c2 E2))) := fun b o ho => by
  have := hS b o ho
  simp only [hp] at this ⊢
  rw [alloc_two.2.2.2 b (Array.getElem?_eq_some_iff.1 this).1]
  exact this

theorem clone_walk (N : Nat) {w : World} {S : Hp} (hS : Lift.Sub S (hp w)) (hg : GlobOk glob S) {i t : List UInt8} {l l' : List LinkT.den} {sv : Value} (hv : VR S (.sl LinkT) l sv) (hy : clone_link N l = some l') :
    Calls Tryd.prog 33 #[.agg #[.string ⟨⟨i⟩⟩, sv, .string ⟨⟨t⟩⟩]] w fun r w' => ∃ v o S', r = .returned (.agg #[.string ⟨⟨i⟩⟩, v, .string ⟨⟨t⟩⟩]) ∧ RowRel (hp w') S' LinkT l' v o ∧ (∀ b ∈ o, S' b = none ∧ w.heap.size ≤ b) ∧ o.Nodup ∧
      WF w (fun _ => False) w' ∧ Lift.Sub S S' ∧ Lift.Sub S' (hp w') ∧ ∀ k, S' k ≠ none → S k ≠ none ∨ w.heap.size ≤ k := by
  obtain ⟨a, n, c, rfl⟩ := VRsl_one hv
  have HC := clone_call N (sub_alloc_two hS #[.string ⟨⟨i⟩⟩, .slice a n c, .string ⟨⟨t⟩⟩] #[.string ⟨#[]⟩, .slice none 0 0, .string ⟨#[]⟩] 24 24) hg hv hy
  obtain ⟨q0, q1, q2, q3⟩ := alloc_two (w := w) (c1 := #[.string ⟨⟨i⟩⟩, .slice a n c, .string ⟨⟨t⟩⟩]) (c2 := #[.string ⟨#[]⟩, .slice none 0 0, .string ⟨#[]⟩]) (E1 := 24) (E2 := 24)
  have hSw := Go.Lib.hid hS
  have Q3 := Go.Lib.hid (And.intro q2 q3)
  clear q2 q3 hS
  go_enter Tryd.func33, Tryd.ntmps33
  go_wp2_with (go_at_call 50; refine HC.mono ?_; rintro r w3 ⟨v, o, S', rfl, hrow, ho, hnd, hwf, k1, k2, k3⟩; obtain ⟨a', n', c', rfl⟩ := row_sl hrow; have p0 := keepB hwf q0; have p1 := keepB hwf q1; have c00 := cellB (i := 0) p0 rfl; have c01 := cellB (i := 1) p0 rfl; have c02 := cellB (i := 2) p0 rfl; have c10 := cellB (i := 0) p1 rfl; have c11 := cellB (i := 1) p1 rfl; have c12 := cellB (i := 2) p1 rfl; have f00 := freeB (i := 0) p0; have f01 := freeB (i := 1) p0; have f02 := freeB (i := 2) p0; have f10 := freeB (i := 0) p1; have f11 := freeB (i := 1) p1; have f12 := freeB (i := 2) p1; have HM := Go.Lib.hid (And.intro hrow (And.intro ho (And.intro hnd (And.intro hwf (And.intro k1 (And.intro k2 (And.intro k3 (And.intro q0 q1)))))))); clear HC hrow ho hnd hwf k1 k2 k3 p0 p1 q0 q1)
  obtain ⟨hrow, ho, hnd, hwf, k1, k2, k3, q0, q1⟩ := HM.out
  obtain ⟨q2, q3⟩ := Q3.out
  have hB : But (fun k => k = w.heap.size ∨ k = w.heap.size + 1) w3 ((((w3.setCell ⟨w.heap.size, 1, none⟩ (Value.slice a' n' c')).setCell ⟨w.heap.size + 1, 0, none⟩ (.string ⟨⟨i⟩⟩)).setCell ⟨w.heap.size + 1, 1, none⟩ (Value.slice a' n' c')).setCell ⟨w.heap.size + 1, 2, none⟩ (.string ⟨⟨t⟩⟩)) :=
    ((((But.refl _ w3).set (.inl rfl)).set (.inr rfl)).set (.inr rfl)).set (.inr rfl)
  have hno : ∀ k, S' k ≠ none → ¬ (k = w.heap.size ∨ k = w.heap.size + 1) := fun k hk hk' => by
    rcases k3 k hk with h | h
    · cases hs : S k with
      | none => exact h hs
      | some x =>
        have := hSw.out k x hs
        simp only [hp] at this
        have := (Array.getElem?_eq_some_iff.1 this).1
        omega
    · omega
  refine ⟨rfl, _, ?_, .slice a' n' c', o, S', rfl, RowRel.mono (Lift.Sub.refl S') (fun b hb => ?_) hrow, fun b hb => ⟨(ho b hb).1, by have := (ho b hb).2; omega⟩, hnd,
    ⟨by rw [hB.size]; have := hwf.size; omega, fun k hk _ => ?_, hB.tape.trans hwf.tape, hB.os.trans hwf.os, hB.output.trans hwf.output⟩, k1, fun k x hx => ?_, fun k hk => ?_⟩
  · simp [results, Tryd.results33, go_sem, c10, c11, c12, f10, f11, f12]
  · have := (ho b hb).2
    exact hB.same b (by omega)
  · rw [hB.same k (by omega), hwf.same k (by omega) (fun h => h), q3 k hk]
  · have := k2 k x hx
    simp only [hp] at this ⊢
    rw [hB.same k (hno k (by rw [hx]; simp))]
    exact this
  · rcases k3 k hk with h | h
    · exact .inl h
    · exact .inr (by omega)

theorem holder_clone_ct (N : Nat) : Contract Tryd.prog glob 33 (holder_clone_res N) := by
  refine Contract.hand ⟨_, Tryd.func33, by kernel_rfl, by decide⟩ ?_
  intro w S vals ob x y har hS hg hy
  obtain ⟨⟨i, l, t, u⟩, u'⟩ := x
  cases u
  cases u'
  obtain ⟨⟨v0, hv0, hA0, ho0⟩, _⟩ := har.rel 0 _ rfl
  have hvals : vals = [v0] := by
    match vals, har.len with
    | [a], _ => cases hv0; rfl
  obtain ⟨sv, e0, hsv⟩ := tok_inv hA0
  subst e0
  subst hvals
  unfold holder_clone at hy
  dsimp only at hy
  cases hc : clone_link N l with
  | none => rw [hc] at hy; cases hy
  | some l' =>
  rw [hc] at hy
  cases hy
  refine (clone_walk N hS hg hsv hc).mono ?_
  rintro r w' ⟨v, o, S', rfl, hrow, ho, hnd, hwf, k1, k2, k3⟩
  have hob : ∀ i, ob i = [] := fun i => by
    match i with
    | 0 => exact ho0
    | i + 1 => exact har.out _ (by simp [mkS, deads])
  refine ⟨_, S', o, ob, rfl, ⟨hwf.size, fun k hk _ => hwf.same k hk (fun h => h), hwf.tape, hwf.os, hwf.output⟩, k1, k2, fun k hk => ?_, ⟨⟨rfl, ?_⟩, rfl⟩, fun b hb => ⟨(ho b hb).1, .inr (ho b hb).2⟩, hnd, ?_, ?_, ?_, ?_, fun _ h => h⟩
  · rcases k3 k hk with h | h
    · exact .inl h
    · exact .inr (.inr h)
  · exact ⟨_, rfl, [.string ⟨⟨i⟩⟩], [v, .string ⟨⟨t⟩⟩], [], o, rfl, rfl, ⟨rfl, rfl⟩, [v], [.string ⟨⟨t⟩⟩], o, [], rfl, by simp, ⟨v, rfl, hrow⟩, [.string ⟨⟨t⟩⟩], [], [], [], rfl, rfl, ⟨rfl, rfl⟩, rfl, rfl⟩
  · intro i y hy hbx
    have : isBoxA y = false := by
      match i with
      | 0 => cases hy; rfl
      | i + 1 => simp [mkS, deads] at hy
    rw [hbx] at this
    cases this
  · intro i k hk
    rw [hob i] at hk
    cases hk
  · intro i j k hi
    rw [hob i] at hi
    cases hi
  · intro i
    rw [hob i]
    exact .nil

noncomputable def body_3 : Code := (Tryd.f87.body).getD .skip

noncomputable def L_3 : List (List Nat × List Nat) := [([0], [0]), ([0, 1], [3, 0]), ([0, 0, 1, 1], [6, 3, 0]), ([0, 1, 0, 1, 1], [6, 3, 0]), ([0, 0, 0, 1, 0, 1, 1], [7, 6, 3, 0]), ([0, 1, 0, 0, 1, 0, 1, 1], [6, 3, 0]), ([1, 0, 1, 0, 0, 1, 0, 1, 1], [3]), ([0, 0, 0, 1, 1, 0, 0, 1, 0, 1, 1], [3, 4, 0, 6]), ([1, 0, 0, 1, 1, 0, 0, 1, 0, 1, 1], [6, 3, 0]), ([0, 1, 1, 0, 0, 1, 0, 1, 1], [6, 3, 0]), ([1, 1, 1, 0, 0, 1, 0, 1, 1], [6, 3, 0]), ([1, 0, 1, 1], [3]), ([0, 1, 1, 1], [2]), ([1, 1, 1, 1], [2])]

noncomputable def E_3 (N : Nat) : Env := mkEnv tys glob [] [(3, (.int .u8))] [] [] false [] []

theorem Eok_3 (N : Nat) : EnvOk Tryd.prog (E_3 N) := mkEnv_ok mixed tys_ok (FnsOk.nil) (ItsOk.nil)

noncomputable def hmac_length_s1 (N : Nat) (s : (List UInt8)) (out : (List Int)) (x6 : Int) (rec : (List Int) → Int → Option (List UInt8)) (k0 : (List Int) → Option (List UInt8)) : Option (List UInt8) :=
  cond (decide (x6 < (8 : Int)))
  (cond (decide ((0 : Int) ≤ (IntKind.wrap IntKind.i64 ((8 : Int) * (IntKind.wrap IntKind.i64 ((7 : Int) - x6))))))
    (cond (inR x6 (List.length out))
      (cond (decide ((Int.toNat x6) < (List.length out)))
        (rec (List.set out (Int.toNat x6) (IntKind.wrap IntKind.u8 (shrI IntKind.u64 (IntKind.wrap IntKind.u64 (((List.length s) : Nat) : Int)) (IntKind.wrap IntKind.i64 ((8 : Int) * (IntKind.wrap IntKind.i64 ((7 : Int) - x6))))))) (IntKind.wrap IntKind.i64 (x6 + (1 : Int))))
        (none))
      (none))
    (none))
  (k0 out)

noncomputable def hmac_length_p1 (N : Nat) (s : (List UInt8)) (out : (List Int)) (x6 : Int) (k0 : (List Int) → Option (List UInt8)) : Option (List UInt8) :=
  iter (fun (v : ((List Int) × Int)) r => hmac_length_s1 N s v.1 v.2 (fun out x6 => (r (out, x6))) k0) N (out, x6)

noncomputable def g1_3 (N : Nat) (i : (List UInt8)) (v : ((List Int) × Int)) (r : ((List Int) × Int) → Option (List UInt8)) (K : Ex → List A → Option (List UInt8)) : Option (List UInt8) :=
  hmac_length_s1 N i v.1 v.2 (fun out x6 => (r (out, x6))) (fun a0 => (K (.exit 0) (mkS [(3, .row (.int .u8))] 19 (a0, ()))))

noncomputable def h1_3 (N : Nat) : Hd (List UInt8) := fun st K => (unS [(0, .v .str), (2, .row (.int .u8)), (2, .v (.int .i64))] 16 (restr [6, 3, 0] 0 st)).bind fun x => iter (fun v r => g1_3 N ((fun x => x.1) x) v r K) N ((fun x => (x.2.1, x.2.2.1)) x)

noncomputable def t1_3 (N : Nat) : Tab (List UInt8) := []

theorem ok1_3 {N : Nat} {c : Ctx} (hb : Base Tryd.prog (E_3 N) c) : CodeOk Tryd.prog c (nodeAt body_3 [0, 1, 0, 1, 1]) (h1_3 N) :=
  loop_ok (s := [(0, .v .str), (2, .row (.int .u8)), (2, .v (.int .i64))]) (m := 16) (g1_3 N) [6, 3, 0] N (fun x => x.1) (fun x => (x.2.1, x.2.2.1)) (fun i v => (i, v.1, v.2, ())) (fun _ => rfl) (evN_sound hb N (t1_3 N) L_3 body_3 TabOk.nil [0, 0, 1, 0, 1, 1] _ rfl) (fun i v r K => by kernel_rfl)

noncomputable def hmac_length (N : Nat) (s : (List UInt8)) : Option (List UInt8) :=
  hmac_length_p1 N s ([(0 : Int), (0 : Int), (0 : Int), (0 : Int), (0 : Int), (0 : Int), (0 : Int), (0 : Int)] : List Int) (0 : Int)
  (fun out => some (toStr out))

noncomputable def t_3 (N : Nat) : Tab (List UInt8) := [([0, 1, 0, 1, 1], h1_3 N)]

theorem link_3 (N : Nat) (x : denS [(0, .v .str)]) : evFX (E_3 N) N (t_3 N) L_3 Tryd.f87 (mkS [(0, .v .str)] 0 x) (kRes (.v .str) 1) = hmac_length N x.1 := by kernel_rfl

noncomputable def hmac_length_res (N : Nat) : List A → Res := resOf [(0, .v .str)] (fun x => hmac_length N x.1) (oRes (.v .str) 1)

theorem hmac_length_ct (N : Nat) : Contract Tryd.prog glob 87 (hmac_length_res N) :=
  Contract.of (E := E_3 N) (H := t_3 N) (L := L_3) (N := N) (body := body_3) (K := (kRes (.v .str) 1)) (Eok_3 N) Tryd.func87 (by kernel_rfl) (by decide) (fun _ hb => (TabOk.cons (ok1_3 hb) TabOk.nil)) (fun x y h => by rw [link_3]; exact h) (kRes_ok (s := (.v .str)) (m := 1))

noncomputable def body_4 : Code := (Tryd.f86.body).getD .skip

noncomputable def L_4 : List (List Nat × List Nat) := [([0], [7, 6, 5, 0]), ([0, 1], [7, 6, 5, 0]), ([0, 0, 0, 1], [8, 5, 7, 0, 6]), ([0, 1, 0, 0, 1], [5, 7, 0, 6]), ([1, 0, 1, 0, 0, 1], [0]), ([0, 0, 0, 1, 1, 0, 0, 1], [0, 4, 7, 6, 5]), ([0, 1, 0, 0, 1, 1, 0, 0, 1], [21, 0, 7, 6, 5]), ([1, 1, 0, 0, 1, 1, 0, 0, 1], [7, 6, 5, 0]), ([0, 1, 1, 0, 0, 1, 1, 0, 0, 1], [0]), ([0, 1, 1, 0, 0, 1], [7, 6, 5, 0]), ([1, 1, 1, 0, 0, 1], [7, 6, 5, 0]), ([1], [0])]

noncomputable def E_4 (N : Nat) : Env := mkEnv tys glob [(87, hmac_length_res N)] [] [] [0] false [] []

theorem Eok_4 (N : Nat) : EnvOk Tryd.prog (E_4 N) := mkEnv_ok mixed tys_ok (FnsOk.cons (hmac_length_ct N) (FnsOk.nil)) ItsOk.nil

noncomputable def hmac_framed1_s1 (N : Nat) (x5 : (List (List UInt8))) (x6 : Int) (x7 : Int) (rec : Int → Option (List DT4)) (k0 : Option (List DT4)) (k1 : Option (List DT4)) : Option (List DT4) :=
  cond (decide (x7 < x6))
  (cond (inR x7 (List.length x5))
    ((hmac_length N (List.getD x5 (Int.toNat x7) ([] : List UInt8))).bind fun y =>
      comb (y, ())
      (comb ((List.getD x5 (Int.toNat x7) ([] : List UInt8)), ())
        (rec (IntKind.wrap IntKind.i64 (x7 + (1 : Int))))
        (k0))
      (k0))
    (none))
  (k1)

noncomputable def hmac_framed1_p1 (N : Nat) (x5 : (List (List UInt8))) (x6 : Int) (x7 : Int) (k0 : Option (List DT4)) (k1 : Option (List DT4)) : Option (List DT4) :=
  iter (fun (v : Int) r => hmac_framed1_s1 N x5 x6 v (fun x7 => (r x7)) k0 k1) N x7

noncomputable def g1_4 (N : Nat) (i : ((List (List UInt8)) × Int)) (v : Int) (r : Int → Option (List DT4)) (K : Ex → List A → Option (List DT4)) : Option (List DT4) :=
  hmac_framed1_s1 N i.1 i.2 v (fun x7 => (r x7)) (K .ret (mkS [(0, .yld)] 22 ((), ()))) (K (.exit 0) (mkS [(0, .yld)] 22 ((), ())))

noncomputable def h1_4 (N : Nat) : Hd (List DT4) := fun st K => (unS [(0, .yld), (4, .v (.sl .str)), (0, .v (.int .i64)), (0, .v (.int .i64))] 15 (restr [7, 6, 5, 0] 0 st)).bind fun x => iter (fun v r => g1_4 N ((fun x => (x.2.1, x.2.2.1)) x) v r K) N ((fun x => x.2.2.2.1) x)

noncomputable def t1_4 (N : Nat) : Tab (List DT4) := []

theorem ok1_4 {N : Nat} {G : GY [.str]} (hG : RestrOk G) (hev : EvOk G Tryd.prog (E_4 N) N L_4 body_4) : YOk G Tryd.prog (nodeAt body_4 [0, 1]) (h1_4 N) :=
  loopY_ok hG (s := [(0, .yld), (4, .v (.sl .str)), (0, .v (.int .i64)), (0, .v (.int .i64))]) (m := 15) (g1_4 N) [7, 6, 5, 0] N (fun x => (x.2.1, x.2.2.1)) (fun x => x.2.2.2.1) (fun i v => ((), i.1, i.2, v, ())) (fun _ => rfl) (hev (t1_4 N) TabOkY.nil [0, 0, 1]) (fun i v r K => by kernel_rfl)

noncomputable def hmac_framed1 (N : Nat) (x1 : (List (List UInt8))) : Option (List DT4) :=
  hmac_framed1_p1 N x1 (((List.length x1) : Nat) : Int) (0 : Int)
  (some ([] : List DT4))
  (some ([] : List DT4))

noncomputable def t_4 (N : Nat) : Tab (List DT4) := [([0, 1], h1_4 N)]

theorem link_4 (N : Nat) (x : T.den (.pair (.ptr (.sl .str)) .unit)) : evYX (E_4 N) [.str] comb N (t_4 N) L_4 Tryd.f86 [.v (.ptr (.sl .str)) x.1] = hmac_framed1 N x.1 := by kernel_rfl

noncomputable def hmac_framed1_itr (N : Nat) : Dat → ItRes := itRes (ts := [.str]) (.pair (.ptr (.sl .str)) .unit) (fun x => hmac_framed1 N x.1)

theorem hmac_framed1_it (N : Nat) : ItOk Tryd.prog glob 86 (hmac_framed1_itr N) := ItOk.of (ts := [.str]) (E := E_4 N) (H := t_4 N) (L := L_4) (N := N) (body := body_4) (Eok_4 N) rfl Tryd.func86 (by kernel_rfl) (by decide) (fun G hG hev => (TabOkY.cons (ok1_4 hG hev) TabOkY.nil)) (fun x y h => ⟨_, rfl, by rw [link_4]; exact h⟩)

noncomputable def body_5 : Code := (Tryd.f69.body).getD .skip

noncomputable def L_5 : List (List Nat × List Nat) := [([0], [1]), ([0, 1], [2]), ([1, 1], [2])]

noncomputable def E_5 (N : Nat) : Env := mkEnv tys glob [] [] [] [] false [] [(86, hmac_framed1_itr N)]

theorem Eok_5 (N : Nat) : EnvOk Tryd.prog (E_5 N) := mkEnv_ok mixed tys_ok (FnsOk.nil) (ItsOk.cons (hmac_framed1_it N) (ItsOk.nil))

noncomputable def hmac_framed (N : Nat) (parts : (List (List UInt8))) : Option ((List (List UInt8)) × Unit) :=
  some (parts, ())

noncomputable def t_5 (N : Nat) : Tab ((List (List UInt8)) × Unit) := []

theorem link_5 (N : Nat) (x : denS [(0, .v (.sl .str))]) : evFX (E_5 N) N (t_5 N) L_5 Tryd.f69 (mkS [(0, .v (.sl .str))] 0 x) (kRes (.v (.fn 86 (.pair (.ptr (.sl .str)) .unit))) 1) = hmac_framed N x.1 := by kernel_rfl

noncomputable def hmac_framed_res (N : Nat) : List A → Res := resOf [(0, .v (.sl .str))] (fun x => hmac_framed N x.1) (oRes (.v (.fn 86 (.pair (.ptr (.sl .str)) .unit))) 1)

theorem hmac_framed_ct (N : Nat) : Contract Tryd.prog glob 69 (hmac_framed_res N) :=
  Contract.of (E := E_5 N) (H := t_5 N) (L := L_5) (N := N) (body := body_5) (K := (kRes (.v (.fn 86 (.pair (.ptr (.sl .str)) .unit))) 1)) (Eok_5 N) Tryd.func69 (by kernel_rfl) (by decide) (fun _ hb => TabOk.nil) (fun x y h => by rw [link_5]; exact h) (kRes_ok (s := (.v (.fn 86 (.pair (.ptr (.sl .str)) .unit)))) (m := 1))

noncomputable def body_6 : Code := (Tryd.f63.body).getD .skip

noncomputable def L_6 : List (List Nat × List Nat) := [([0], [0, 1]), ([0, 1], [0, 1]), ([0, 1, 1], [1, 0]), ([0, 1, 1, 1], [4, 5, 0]), ([1, 1, 1, 1], [4, 5, 0])]

noncomputable def E_6 (N : Nat) : Env := mkEnv tys glob [(81, cc_res)] [] [] [0] false [] [(86, hmac_framed1_itr N)]

theorem Eok_6 (N : Nat) : EnvOk Tryd.prog (E_6 N) := mkEnv_ok mixed tys_ok (FnsOk.cons (cc_ct glob) (FnsOk.nil)) (ItsOk.cons (hmac_framed1_it N) (ItsOk.nil))

noncomputable def strings_Builder_WriteString (N : Nat) (b : DT10) (s : (List UInt8)) : Option ((Int × Go.Value × Unit) × (DT10 × Unit)) :=
  cond (decide ((((List.length b.2.1) + (List.length (ofStr s))) * 1) ≤ 70368744177664))
  (some (((((List.length s) : Nat) : Int), (Go.Value.nilIface, ())), ((b.1, ((b.2.1 ++ (ofStr s)), b.2.2)), ())))
  (none)

noncomputable def t_6 (N : Nat) : Tab ((Int × Go.Value × Unit) × (DT10 × Unit)) := []

theorem link_6 (N : Nat) (x : denS [(0, .box TT8), (0, .v .str)]) : evFX (E_6 N) N (t_6 N) L_6 Tryd.f63 (mkS [(0, .box TT8), (0, .v .str)] 0 x) (kResB (.tup [(.int .i64), .opq]) [(0, .box TT8)] 1) = strings_Builder_WriteString N x.1 x.2.1 := by kernel_rfl

noncomputable def strings_Builder_WriteString_res (N : Nat) : List A → Res := resOf [(0, .box TT8), (0, .v .str)] (fun x => strings_Builder_WriteString N x.1 x.2.1) (oResB (.tup [(.int .i64), .opq]) [(0, .box TT8)] 1)

theorem strings_Builder_WriteString_ct (N : Nat) : Contract Tryd.prog glob 63 (strings_Builder_WriteString_res N) :=
  Contract.of (E := E_6 N) (H := t_6 N) (L := L_6) (N := N) (body := body_6) (K := (kResB (.tup [(.int .i64), .opq]) [(0, .box TT8)] 1)) (Eok_6 N) Tryd.func63 (by kernel_rfl) (by decide) (fun _ hb => TabOk.nil) (fun x y h => by rw [link_6]; exact h) (kResB_ok (s := (.tup [(.int .i64), .opq])) (os := [(0, .box TT8)]) (m := 1))

noncomputable def body_7 : Code := (Tryd.f56.body).getD .skip

noncomputable def L_7 : List (List Nat × List Nat) := [([0], [0]), ([0, 1], [0, 3]), ([0, 0, 1, 1], [6, 3]), ([0, 1, 0, 1, 1], [3]), ([0, 0, 1, 0, 1, 1], [4, 3]), ([0, 1, 0, 1, 0, 1, 1], [3]), ([1, 0, 1, 0, 1, 1], [3]), ([1, 0, 1, 1], [3]), ([0, 1, 1, 1], [2]), ([1, 1, 1, 1], [2])]

noncomputable def E_7 (N : Nat) : Env := mkEnv tys glob [(63, strings_Builder_WriteString_res N), (69, hmac_framed_res N), (64, str_res)] [] [] [] false [(3, TT8)] [(86, hmac_framed1_itr N)]

theorem Eok_7 (N : Nat) : EnvOk Tryd.prog (E_7 N) := mkEnv_ok mixed tys_ok (FnsOk.cons (strings_Builder_WriteString_ct N) (FnsOk.cons (hmac_framed_ct N) (FnsOk.cons (str_ct glob) (FnsOk.nil)))) (ItsOk.cons (hmac_framed1_it N) (ItsOk.nil))

noncomputable def hmac_Frame_s1 (N : Nat) (out_1 : DT10) (y : DT4) (rec : DT10 → Option (List UInt8)) (k0 : DT10 → Option (List UInt8)) : Option (List UInt8) :=
  (strings_Builder_WriteString N out_1 y.1).bind fun y1 =>
  rec y1.2.1

noncomputable def hmac_Frame_fit1 (N : Nat) (out : DT10) (x6 : ((List (List UInt8)) × Unit)) : Option (List DT4) := (hmac_framed1 N x6.1)

noncomputable def hmac_Frame_i1 (N : Nat) (out : DT10) (x6 : ((List (List UInt8)) × Unit)) : Unit := ()

noncomputable def hmac_Frame_v1 (N : Nat) (out : DT10) (x6 : ((List (List UInt8)) × Unit)) : DT10 := out

noncomputable def hmac_Frame_p1 (N : Nat) (out : DT10) (x6 : ((List (List UInt8)) × Unit)) (k0 : DT10 → Option (List UInt8)) : Option (List UInt8) :=
  (hmac_Frame_fit1 N out x6).bind fun ys => iterL (fun (y : DT4) (v : DT10) r => hmac_Frame_s1 N v y (fun out_1 => (r out_1)) k0) (fun (v : DT10) => k0 v) ys out

noncomputable def g1_7 (N : Nat) (y : DT4) (i : Unit) (v : DT10) (r : DT10 → Option (List UInt8)) (K : Ex → List A → Option (List UInt8)) : Option (List UInt8) :=
  hmac_Frame_s1 N v y (fun out_1 => (r out_1)) (fun a0 => (K .normal (mkS [(3, .box TT8)] 7 (a0, ()))))

noncomputable def h1_7 (N : Nat) : Hd (List UInt8) := fun st K => (unS [(3, .box TT8), (2, .v (.fn 86 (.pair (.ptr (.sl .str)) .unit)))] 4 (restr [6, 3] 0 st)).bind fun x => ((fun x => hmac_Frame_fit1 N x.1 x.2.1) x).bind fun xs => iterL (fun y v r => g1_7 N y ((fun x => hmac_Frame_i1 N x.1 x.2.1) x) v r K) (fun v => K .normal (mkS [(3, .box TT8)] 7 ((fun i v => (v, ())) ((fun x => hmac_Frame_i1 N x.1 x.2.1) x) v))) xs ((fun x => hmac_Frame_v1 N x.1 x.2.1) x)

theorem ok1_7 {N : Nat} {c : Ctx} (hb : Base Tryd.prog (E_7 N) c) : CodeOk Tryd.prog c (nodeAt body_7 [0, 1, 0, 1, 1]) (h1_7 N) :=
  rf_ok (ts := [.str]) (s := [(3, .box TT8), (2, .v (.fn 86 (.pair (.ptr (.sl .str)) .unit)))]) (m := 4) (s2 := [(3, .box TT8)]) (m2 := 7) [6, 3] (fun x => hmac_Frame_fit1 N x.1 x.2.1) (fun x => hmac_Frame_i1 N x.1 x.2.1) (fun x => hmac_Frame_v1 N x.1 x.2.1) (fun i v => (v, ())) (rfF (E_7 N) N [.str] (nodeAt body_7 [0, 1, 0, 1, 1])) (g1_7 N) (evN_sound hb N [] L_7 body_7 TabOk.nil [0, 1, 0, 1, 1] _ rfl) (fun x K => by kernel_rfl) (fun y i v r K => by kernel_rfl)

noncomputable def hmac_Frame (N : Nat) (parts : (List (List UInt8))) : Option (List UInt8) :=
  hmac_Frame_p1 N ((), (([] : List Int), ())) (parts, ())
  (fun out_1 => (str_F (out_1, ())).bind fun y =>
    some y.1)

noncomputable def t_7 (N : Nat) : Tab (List UInt8) := [([0, 1, 0, 1, 1], h1_7 N)]

theorem link_7 (N : Nat) (x : denS [(0, .v (.sl .str))]) : evFX (E_7 N) N (t_7 N) L_7 Tryd.f56 (mkS [(0, .v (.sl .str))] 0 x) (kRes (.v .str) 1) = hmac_Frame N x.1 := by kernel_rfl

noncomputable def hmac_Frame_res (N : Nat) : List A → Res := resOf [(0, .v (.sl .str))] (fun x => hmac_Frame N x.1) (oRes (.v .str) 1)

theorem hmac_Frame_ct (N : Nat) : Contract Tryd.prog glob 56 (hmac_Frame_res N) :=
  Contract.of (E := E_7 N) (H := t_7 N) (L := L_7) (N := N) (body := body_7) (K := (kRes (.v .str) 1)) (Eok_7 N) Tryd.func56 (by kernel_rfl) (by decide) (fun _ hb => (TabOk.cons (ok1_7 hb) TabOk.nil)) (fun x y h => by rw [link_7]; exact h) (kRes_ok (s := (.v .str)) (m := 1))

noncomputable def body_8 : Code := (Tryd.f93.body).getD .skip

noncomputable def L_8 : List (List Nat × List Nat) := [([0], [0]), ([0, 1], [0]), ([1, 1], [0])]

noncomputable def E_8 (N : Nat) : Env := mkEnv tys glob [] [] [] [] false [] [(86, hmac_framed1_itr N)]

theorem Eok_8 (N : Nat) : EnvOk Tryd.prog (E_8 N) := mkEnv_ok mixed tys_ok (FnsOk.nil) (ItsOk.cons (hmac_framed1_it N) (ItsOk.nil))

noncomputable def sha_First (N : Nat) : Option (List Int) :=
  some ([(1779033703 : Int), (3144134277 : Int), (1013904242 : Int), (2773480762 : Int), (1359893119 : Int), (2600822924 : Int), (528734635 : Int), (1541459225 : Int)] : List Int)

noncomputable def t_8 (N : Nat) : Tab (List Int) := []

theorem link_8 (N : Nat) (x : denS []) : evFX (E_8 N) N (t_8 N) L_8 Tryd.f93 (mkS [] 0 x) (kRes (.v (.arr 8 (.int .u32))) 0) = sha_First N := by kernel_rfl

noncomputable def sha_First_res (N : Nat) : List A → Res := resOf [] (fun x => sha_First N) (oRes (.v (.arr 8 (.int .u32))) 0)

theorem sha_First_ct (N : Nat) : Contract Tryd.prog glob 93 (sha_First_res N) :=
  Contract.of (E := E_8 N) (H := t_8 N) (L := L_8) (N := N) (body := body_8) (K := (kRes (.v (.arr 8 (.int .u32))) 0)) (Eok_8 N) Tryd.func93 (by kernel_rfl) (by decide) (fun _ hb => TabOk.nil) (fun x y h => by rw [link_8]; exact h) (kRes_ok (s := (.v (.arr 8 (.int .u32)))) (m := 0))

noncomputable def body_9 : Code := (Tryd.f82.body).getD .skip

noncomputable def L_9 : List (List Nat × List Nat) := [([0], []), ([0, 1], [0]), ([1, 1], [0])]

noncomputable def E_9 (N : Nat) : Env := mkEnv tys glob [(93, sha_First_res N)] [] [] [] false [] [(86, hmac_framed1_itr N)]

theorem Eok_9 (N : Nat) : EnvOk Tryd.prog (E_9 N) := mkEnv_ok mixed tys_ok (FnsOk.cons (sha_First_ct N) (FnsOk.nil)) (ItsOk.cons (hmac_framed1_it N) (ItsOk.nil))

noncomputable def sha_New (N : Nat) : Option DT3 :=
  some (true, (([(1779033703 : Int), (3144134277 : Int), (1013904242 : Int), (2773480762 : Int), (1359893119 : Int), (2600822924 : Int), (528734635 : Int), (1541459225 : Int)] : List Int), (([] : List UInt8), ((0 : Int), ()))))

noncomputable def t_9 (N : Nat) : Tab DT3 := []

theorem link_9 (N : Nat) (x : denS []) : evFX (E_9 N) N (t_9 N) L_9 Tryd.f82 (mkS [] 0 x) (kRes (.box TT2) 0) = sha_New N := by kernel_rfl

noncomputable def sha_New_res (N : Nat) : List A → Res := resOf [] (fun x => sha_New N) (oRes (.box TT2) 0)

theorem sha_New_ct (N : Nat) : Contract Tryd.prog glob 82 (sha_New_res N) :=
  Contract.of (E := E_9 N) (H := t_9 N) (L := L_9) (N := N) (body := body_9) (K := (kRes (.box TT2) 0)) (Eok_9 N) Tryd.func82 (by kernel_rfl) (by decide) (fun _ hb => TabOk.nil) (fun x y h => by rw [link_9]; exact h) (kRes_ok (s := (.box TT2)) (m := 0))

noncomputable def body_10 : Code := (Tryd.f111.body).getD .skip

noncomputable def L_10 : List (List Nat × List Nat) := [([0], [1, 0]), ([0, 1], [0, 5]), ([0, 1, 1], [4]), ([1, 1, 1], [4])]

noncomputable def E_10 (N : Nat) : Env := mkEnv tys glob [] [] [] [] false [] [(86, hmac_framed1_itr N)]

theorem Eok_10 (N : Nat) : EnvOk Tryd.prog (E_10 N) := mkEnv_ok mixed tys_ok (FnsOk.nil) (ItsOk.cons (hmac_framed1_it N) (ItsOk.nil))

noncomputable def math_bits_RotateLeft32 (N : Nat) (x0 : Int) (k : Int) : Option Int :=
  cond (decide ((0 : Int) ≤ (IntKind.wrap IntKind.u64 ((32 : Int) - (bitsOp Go.BinOp.and IntKind.u64 (IntKind.wrap IntKind.u64 k) (31 : Int))))))
  (some (bitsOp Go.BinOp.or IntKind.u32 (shlI IntKind.u32 x0 (bitsOp Go.BinOp.and IntKind.u64 (IntKind.wrap IntKind.u64 k) (31 : Int))) (shrI IntKind.u32 x0 (IntKind.wrap IntKind.u64 ((32 : Int) - (bitsOp Go.BinOp.and IntKind.u64 (IntKind.wrap IntKind.u64 k) (31 : Int)))))))
  (none)

noncomputable def t_10 (N : Nat) : Tab Int := []

theorem link_10 (N : Nat) (x : denS [(0, .v (.int .u32)), (0, .v (.int .i64))]) : evFX (E_10 N) N (t_10 N) L_10 Tryd.f111 (mkS [(0, .v (.int .u32)), (0, .v (.int .i64))] 0 x) (kRes (.v (.int .u32)) 2) = math_bits_RotateLeft32 N x.1 x.2.1 := by kernel_rfl

noncomputable def math_bits_RotateLeft32_res (N : Nat) : List A → Res := resOf [(0, .v (.int .u32)), (0, .v (.int .i64))] (fun x => math_bits_RotateLeft32 N x.1 x.2.1) (oRes (.v (.int .u32)) 2)

theorem math_bits_RotateLeft32_ct (N : Nat) : Contract Tryd.prog glob 111 (math_bits_RotateLeft32_res N) :=
  Contract.of (E := E_10 N) (H := t_10 N) (L := L_10) (N := N) (body := body_10) (K := (kRes (.v (.int .u32)) 2)) (Eok_10 N) Tryd.func111 (by kernel_rfl) (by decide) (fun _ hb => TabOk.nil) (fun x y h => by rw [link_10]; exact h) (kRes_ok (s := (.v (.int .u32))) (m := 2))

noncomputable def body_11 : Code := (Tryd.f110.body).getD .skip

noncomputable def L_11 : List (List Nat × List Nat) := [([0], [0, 1]), ([0, 1], [4]), ([1, 1], [4])]

noncomputable def E_11 (N : Nat) : Env := mkEnv tys glob [(111, math_bits_RotateLeft32_res N)] [] [] [] false [] [(86, hmac_framed1_itr N)]

theorem Eok_11 (N : Nat) : EnvOk Tryd.prog (E_11 N) := mkEnv_ok mixed tys_ok (FnsOk.cons (math_bits_RotateLeft32_ct N) (FnsOk.nil)) (ItsOk.cons (hmac_framed1_it N) (ItsOk.nil))

noncomputable def sha_ror (N : Nat) (x0 : Int) (n : Int) : Option Int :=
  (math_bits_RotateLeft32 N x0 (IntKind.wrap IntKind.i64 ((0 : Int) - n))).bind fun y =>
  some y

noncomputable def t_11 (N : Nat) : Tab Int := []

theorem link_11 (N : Nat) (x : denS [(0, .v (.int .u32)), (0, .v (.int .i64))]) : evFX (E_11 N) N (t_11 N) L_11 Tryd.f110 (mkS [(0, .v (.int .u32)), (0, .v (.int .i64))] 0 x) (kRes (.v (.int .u32)) 2) = sha_ror N x.1 x.2.1 := by kernel_rfl

noncomputable def sha_ror_res (N : Nat) : List A → Res := resOf [(0, .v (.int .u32)), (0, .v (.int .i64))] (fun x => sha_ror N x.1 x.2.1) (oRes (.v (.int .u32)) 2)

theorem sha_ror_ct (N : Nat) : Contract Tryd.prog glob 110 (sha_ror_res N) :=
  Contract.of (E := E_11 N) (H := t_11 N) (L := L_11) (N := N) (body := body_11) (K := (kRes (.v (.int .u32)) 2)) (Eok_11 N) Tryd.func110 (by kernel_rfl) (by decide) (fun _ hb => TabOk.nil) (fun x y h => by rw [link_11]; exact h) (kRes_ok (s := (.v (.int .u32))) (m := 2))

noncomputable def body_12 : Code := (Tryd.f107.body).getD .skip

noncomputable def L_12 : List (List Nat × List Nat) := [([0], [0, 2]), ([0, 1], [0, 3, 2]), ([0, 0, 1, 1], [11, 0, 3, 2]), ([0, 1, 0, 1, 1], [11, 0, 3, 2]), ([0, 0, 0, 1, 0, 1, 1], [12, 11, 0, 3, 2]), ([0, 1, 0, 0, 1, 0, 1, 1], [11, 0, 3, 2]), ([1, 0, 1, 0, 0, 1, 0, 1, 1], [3, 2]), ([0, 0, 0, 1, 1, 0, 0, 1, 0, 1, 1], [0, 4, 3, 11, 2]), ([0, 1, 0, 0, 1, 1, 0, 0, 1, 0, 1, 1], [4, 5, 3, 11, 0, 2]), ([1, 1, 0, 0, 1, 1, 0, 0, 1, 0, 1, 1], [11, 0, 3, 2]), ([0, 1, 1, 0, 0, 1, 0, 1, 1], [11, 0, 3, 2]), ([1, 1, 1, 0, 0, 1, 0, 1, 1], [11, 0, 3, 2]), ([1, 0, 1, 1], [3, 2]), ([0, 0, 1, 1, 1], [6, 3, 2]), ([0, 1, 0, 1, 1, 1], [6, 3, 2]), ([0, 0, 0, 0, 1, 0, 1, 1, 1], [43, 6, 3, 2]), ([1, 0, 0, 0, 1, 0, 1, 1, 1], [6, 3, 2]), ([1, 1, 0, 0, 0, 1, 0, 1, 1, 1], [3, 2]), ([0, 0, 0, 1, 0, 0, 1, 0, 1, 1, 1], [7, 8, 6, 3, 2]), ([0, 1, 0, 0, 1, 0, 0, 1, 0, 1, 1, 1], [8, 6, 3, 9, 2]), ([0, 1, 1, 0, 0, 1, 0, 0, 1, 0, 1, 1, 1], [6, 10, 3, 9, 2]), ([1, 1, 1, 0, 0, 1, 0, 0, 1, 0, 1, 1, 1], [6, 3, 2]), ([0, 1, 0, 0, 1, 0, 1, 1, 1], [6, 3, 2]), ([1, 1, 0, 0, 1, 0, 1, 1, 1], [6, 3, 2]), ([1, 0, 1, 1, 1], [3, 2]), ([0, 1, 1, 1, 1], [2]), ([1, 1, 1, 1, 1], [2])]

noncomputable def E_12 (N : Nat) : Env := mkEnv tys glob [(110, sha_ror_res N)] [] [] [] false [] [(86, hmac_framed1_itr N)]

theorem Eok_12 (N : Nat) : EnvOk Tryd.prog (E_12 N) := mkEnv_ok mixed tys_ok (FnsOk.cons (sha_ror_ct N) (FnsOk.nil)) (ItsOk.cons (hmac_framed1_it N) (ItsOk.nil))

noncomputable def sha_schedule_s1 (N : Nat) (block : (List UInt8)) (x2 : (List Int)) (w : (List Int)) (x11 : Int) (rec : (List Int) → Int → Option (List Int)) (k0 : (List Int) → Option (List Int)) : Option (List Int) :=
  cond (decide (x11 < (16 : Int)))
  (cond (decide (((0 : Int) ≤ (IntKind.wrap IntKind.i64 ((IntKind.wrap IntKind.i64 ((4 : Int) * x11)) + (4 : Int)))) ∧ ((IntKind.wrap IntKind.i64 ((IntKind.wrap IntKind.i64 ((4 : Int) * x11)) + (4 : Int))) ≤ (((List.length block) : Nat) : Int))))
    (cond (decide (((0 : Int) ≤ (IntKind.wrap IntKind.i64 ((4 : Int) * x11))) ∧ ((IntKind.wrap IntKind.i64 ((4 : Int) * x11)) ≤ (IntKind.wrap IntKind.i64 ((IntKind.wrap IntKind.i64 ((4 : Int) * x11)) + (4 : Int))))))
      (cond (inR (0 : Int) (List.length (cut block (Int.toNat (IntKind.wrap IntKind.i64 ((4 : Int) * x11))) (Int.toNat (IntKind.wrap IntKind.i64 ((IntKind.wrap IntKind.i64 ((4 : Int) * x11)) + (4 : Int)))))))
        (cond (inR (1 : Int) (List.length (cut block (Int.toNat (IntKind.wrap IntKind.i64 ((4 : Int) * x11))) (Int.toNat (IntKind.wrap IntKind.i64 ((IntKind.wrap IntKind.i64 ((4 : Int) * x11)) + (4 : Int)))))))
          (cond (inR (2 : Int) (List.length (cut block (Int.toNat (IntKind.wrap IntKind.i64 ((4 : Int) * x11))) (Int.toNat (IntKind.wrap IntKind.i64 ((IntKind.wrap IntKind.i64 ((4 : Int) * x11)) + (4 : Int)))))))
            (cond (inR (3 : Int) (List.length (cut block (Int.toNat (IntKind.wrap IntKind.i64 ((4 : Int) * x11))) (Int.toNat (IntKind.wrap IntKind.i64 ((IntKind.wrap IntKind.i64 ((4 : Int) * x11)) + (4 : Int)))))))
              (cond (inR x11 64)
                (cond (decide ((Int.toNat x11) < (List.length w)))
                  (rec (List.set w (Int.toNat x11) (bitsOp Go.BinOp.or IntKind.u32 (bitsOp Go.BinOp.or IntKind.u32 (bitsOp Go.BinOp.or IntKind.u32 (shlI IntKind.u32 (IntKind.wrap IntKind.u32 (((UInt8.toNat (List.getD (cut block (Int.toNat (IntKind.wrap IntKind.i64 ((4 : Int) * x11))) (Int.toNat (IntKind.wrap IntKind.i64 ((IntKind.wrap IntKind.i64 ((4 : Int) * x11)) + (4 : Int))))) 0 (0 : UInt8))) : Nat) : Int)) (24 : Int)) (shlI IntKind.u32 (IntKind.wrap IntKind.u32 (((UInt8.toNat (List.getD (cut block (Int.toNat (IntKind.wrap IntKind.i64 ((4 : Int) * x11))) (Int.toNat (IntKind.wrap IntKind.i64 ((IntKind.wrap IntKind.i64 ((4 : Int) * x11)) + (4 : Int))))) 1 (0 : UInt8))) : Nat) : Int)) (16 : Int))) (shlI IntKind.u32 (IntKind.wrap IntKind.u32 (((UInt8.toNat (List.getD (cut block (Int.toNat (IntKind.wrap IntKind.i64 ((4 : Int) * x11))) (Int.toNat (IntKind.wrap IntKind.i64 ((IntKind.wrap IntKind.i64 ((4 : Int) * x11)) + (4 : Int))))) 2 (0 : UInt8))) : Nat) : Int)) (8 : Int))) (IntKind.wrap IntKind.u32 (((UInt8.toNat (List.getD (cut block (Int.toNat (IntKind.wrap IntKind.i64 ((4 : Int) * x11))) (Int.toNat (IntKind.wrap IntKind.i64 ((IntKind.wrap IntKind.i64 ((4 : Int) * x11)) + (4 : Int))))) 3 (0 : UInt8))) : Nat) : Int)))) (IntKind.wrap IntKind.i64 (x11 + (1 : Int))))
                  (none))
                (none))
              (none))
            (none))
          (none))
        (none))
      (none))
    (none))
  (k0 w)

noncomputable def sha_schedule_p1 (N : Nat) (block : (List UInt8)) (x2 : (List Int)) (w : (List Int)) (x11 : Int) (k0 : (List Int) → Option (List Int)) : Option (List Int) :=
  iter (fun (v : ((List Int) × Int)) r => sha_schedule_s1 N block x2 v.1 v.2 (fun w x11 => (r (w, x11))) k0) N (w, x11)

noncomputable def g1_12 (N : Nat) (i : ((List UInt8) × (List Int))) (v : ((List Int) × Int)) (r : ((List Int) × Int) → Option (List Int)) (K : Ex → List A → Option (List Int)) : Option (List Int) :=
  sha_schedule_s1 N i.1 i.2 v.1 v.2 (fun w x11 => (r (w, x11))) (fun a1 => (K (.exit 0) (mkS [(2, .box (.arr 64 (.int .u32))), (0, .box (.arr 64 (.int .u32)))] 82 (i.2, a1, ()))))

noncomputable def h1_12 (N : Nat) : Hd (List Int) := fun st K => (unS [(0, .v .str), (1, .box (.arr 64 (.int .u32))), (0, .box (.arr 64 (.int .u32))), (7, .v (.int .i64))] 74 (restr [11, 0, 3, 2] 0 st)).bind fun x => iter (fun v r => g1_12 N ((fun x => (x.1, x.2.1)) x) v r K) N ((fun x => (x.2.2.1, x.2.2.2.1)) x)

noncomputable def t1_12 (N : Nat) : Tab (List Int) := []

theorem ok1_12 {N : Nat} {c : Ctx} (hb : Base Tryd.prog (E_12 N) c) : CodeOk Tryd.prog c (nodeAt body_12 [0, 1, 0, 1, 1]) (h1_12 N) :=
  loop_ok (s := [(0, .v .str), (1, .box (.arr 64 (.int .u32))), (0, .box (.arr 64 (.int .u32))), (7, .v (.int .i64))]) (m := 74) (g1_12 N) [11, 0, 3, 2] N (fun x => (x.1, x.2.1)) (fun x => (x.2.2.1, x.2.2.2.1)) (fun i v => (i.1, i.2, v.1, v.2, ())) (fun _ => rfl) (evN_sound hb N (t1_12 N) L_12 body_12 TabOk.nil [0, 0, 1, 0, 1, 1] _ rfl) (fun i v r K => by kernel_rfl)

noncomputable def sha_schedule_s2 (N : Nat) (x2 : (List Int)) (w : (List Int)) (t : Int) (rec : (List Int) → Int → Option (List Int)) (k0 : (List Int) → Option (List Int)) : Option (List Int) :=
  cond (decide (t < (64 : Int)))
  (cond (inR (IntKind.wrap IntKind.i64 (t - (15 : Int))) 64)
    (cond (decide ((Int.toNat (IntKind.wrap IntKind.i64 (t - (15 : Int)))) < (List.length w)))
      (cond (inR (IntKind.wrap IntKind.i64 (t - (2 : Int))) 64)
        (cond (decide ((Int.toNat (IntKind.wrap IntKind.i64 (t - (2 : Int)))) < (List.length w)))
          (cond (inR (IntKind.wrap IntKind.i64 (t - (7 : Int))) 64)
            (cond (decide ((Int.toNat (IntKind.wrap IntKind.i64 (t - (7 : Int)))) < (List.length w)))
              (cond (inR (IntKind.wrap IntKind.i64 (t - (16 : Int))) 64)
                (cond (decide ((Int.toNat (IntKind.wrap IntKind.i64 (t - (16 : Int)))) < (List.length w)))
                  (cond (inR t 64)
                    (cond (decide ((Int.toNat t) < (List.length w)))
                      (rec (List.set w (Int.toNat t) (IntKind.wrap IntKind.u32 ((IntKind.wrap IntKind.u32 ((IntKind.wrap IntKind.u32 ((bitsOp Go.BinOp.xor IntKind.u32 (bitsOp Go.BinOp.xor IntKind.u32 (bitsOp Go.BinOp.or IntKind.u32 (shlI IntKind.u32 (List.getD w (Int.toNat (IntKind.wrap IntKind.i64 (t - (2 : Int)))) (0 : Int)) (bitsOp Go.BinOp.and IntKind.u64 (IntKind.wrap IntKind.u64 (IntKind.wrap IntKind.i64 ((0 : Int) - (17 : Int)))) (31 : Int))) (shrI IntKind.u32 (List.getD w (Int.toNat (IntKind.wrap IntKind.i64 (t - (2 : Int)))) (0 : Int)) (IntKind.wrap IntKind.u64 ((32 : Int) - (bitsOp Go.BinOp.and IntKind.u64 (IntKind.wrap IntKind.u64 (IntKind.wrap IntKind.i64 ((0 : Int) - (17 : Int)))) (31 : Int)))))) (bitsOp Go.BinOp.or IntKind.u32 (shlI IntKind.u32 (List.getD w (Int.toNat (IntKind.wrap IntKind.i64 (t - (2 : Int)))) (0 : Int)) (bitsOp Go.BinOp.and IntKind.u64 (IntKind.wrap IntKind.u64 (IntKind.wrap IntKind.i64 ((0 : Int) - (19 : Int)))) (31 : Int))) (shrI IntKind.u32 (List.getD w (Int.toNat (IntKind.wrap IntKind.i64 (t - (2 : Int)))) (0 : Int)) (IntKind.wrap IntKind.u64 ((32 : Int) - (bitsOp Go.BinOp.and IntKind.u64 (IntKind.wrap IntKind.u64 (IntKind.wrap IntKind.i64 ((0 : Int) - (19 : Int)))) (31 : Int))))))) (shrI IntKind.u32 (List.getD w (Int.toNat (IntKind.wrap IntKind.i64 (t - (2 : Int)))) (0 : Int)) (10 : Int))) + (List.getD w (Int.toNat (IntKind.wrap IntKind.i64 (t - (7 : Int)))) (0 : Int)))) + (bitsOp Go.BinOp.xor IntKind.u32 (bitsOp Go.BinOp.xor IntKind.u32 (bitsOp Go.BinOp.or IntKind.u32 (shlI IntKind.u32 (List.getD w (Int.toNat (IntKind.wrap IntKind.i64 (t - (15 : Int)))) (0 : Int)) (bitsOp Go.BinOp.and IntKind.u64 (IntKind.wrap IntKind.u64 (IntKind.wrap IntKind.i64 ((0 : Int) - (7 : Int)))) (31 : Int))) (shrI IntKind.u32 (List.getD w (Int.toNat (IntKind.wrap IntKind.i64 (t - (15 : Int)))) (0 : Int)) (IntKind.wrap IntKind.u64 ((32 : Int) - (bitsOp Go.BinOp.and IntKind.u64 (IntKind.wrap IntKind.u64 (IntKind.wrap IntKind.i64 ((0 : Int) - (7 : Int)))) (31 : Int)))))) (bitsOp Go.BinOp.or IntKind.u32 (shlI IntKind.u32 (List.getD w (Int.toNat (IntKind.wrap IntKind.i64 (t - (15 : Int)))) (0 : Int)) (bitsOp Go.BinOp.and IntKind.u64 (IntKind.wrap IntKind.u64 (IntKind.wrap IntKind.i64 ((0 : Int) - (18 : Int)))) (31 : Int))) (shrI IntKind.u32 (List.getD w (Int.toNat (IntKind.wrap IntKind.i64 (t - (15 : Int)))) (0 : Int)) (IntKind.wrap IntKind.u64 ((32 : Int) - (bitsOp Go.BinOp.and IntKind.u64 (IntKind.wrap IntKind.u64 (IntKind.wrap IntKind.i64 ((0 : Int) - (18 : Int)))) (31 : Int))))))) (shrI IntKind.u32 (List.getD w (Int.toNat (IntKind.wrap IntKind.i64 (t - (15 : Int)))) (0 : Int)) (3 : Int))))) + (List.getD w (Int.toNat (IntKind.wrap IntKind.i64 (t - (16 : Int)))) (0 : Int))))) (IntKind.wrap IntKind.i64 (t + (1 : Int))))
                      (none))
                    (none))
                  (none))
                (none))
              (none))
            (none))
          (none))
        (none))
      (none))
    (none))
  (k0 w)

noncomputable def sha_schedule_p2 (N : Nat) (x2 : (List Int)) (w : (List Int)) (t : Int) (k0 : (List Int) → Option (List Int)) : Option (List Int) :=
  iter (fun (v : ((List Int) × Int)) r => sha_schedule_s2 N x2 v.1 v.2 (fun w t => (r (w, t))) k0) N (w, t)

noncomputable def g2_12 (N : Nat) (i : (List Int)) (v : ((List Int) × Int)) (r : ((List Int) × Int) → Option (List Int)) (K : Ex → List A → Option (List Int)) : Option (List Int) :=
  sha_schedule_s2 N i v.1 v.2 (fun w t => (r (w, t))) (fun a1 => (K (.exit 2) (mkS [(2, .box (.arr 64 (.int .u32))), (0, .box (.arr 64 (.int .u32)))] 82 (i, a1, ()))))

noncomputable def h2_12 (N : Nat) : Hd (List Int) := fun st K => (unS [(2, .box (.arr 64 (.int .u32))), (0, .box (.arr 64 (.int .u32))), (2, .v (.int .i64))] 79 (restr [6, 3, 2] 0 st)).bind fun x => iter (fun v r => g2_12 N ((fun x => x.1) x) v r K) N ((fun x => (x.2.1, x.2.2.1)) x)

noncomputable def t2_12 (N : Nat) : Tab (List Int) := []

theorem ok2_12 {N : Nat} {c : Ctx} (hb : Base Tryd.prog (E_12 N) c) : CodeOk Tryd.prog c (nodeAt body_12 [0, 1, 0, 1, 1, 1]) (h2_12 N) :=
  loop_ok (s := [(2, .box (.arr 64 (.int .u32))), (0, .box (.arr 64 (.int .u32))), (2, .v (.int .i64))]) (m := 79) (g2_12 N) [6, 3, 2] N (fun x => x.1) (fun x => (x.2.1, x.2.2.1)) (fun i v => (i, v.1, v.2, ())) (fun _ => rfl) (evN_sound hb N (t2_12 N) L_12 body_12 TabOk.nil [0, 0, 1, 0, 1, 1, 1] _ rfl) (fun i v r K => by kernel_rfl)

noncomputable def sha_schedule (N : Nat) (block : (List UInt8)) : Option (List Int) :=
  sha_schedule_p1 N block ((0 : Int) :: (0 : Int) :: (0 : Int) :: (0 : Int) :: (0 : Int) :: (0 : Int) :: (0 : Int) :: (0 : Int) :: (0 : Int) :: (0 : Int) :: (0 : Int) :: (0 : Int) :: (0 : Int) :: (0 : Int) :: (0 : Int) :: (0 : Int) :: (0 : Int) :: (0 : Int) :: (0 : Int) :: (0 : Int) :: (0 : Int) :: (0 : Int) :: (0 : Int) :: (0 : Int) :: (0 : Int) :: (0 : Int) :: (0 : Int) :: (0 : Int) :: (0 : Int) :: (0 : Int) :: (0 : Int) :: (0 : Int) :: (0 : Int) :: (0 : Int) :: (0 : Int) :: (0 : Int) :: (0 : Int) :: (0 : Int) :: (0 : Int) :: (0 : Int) :: (0 : Int) :: (0 : Int) :: (0 : Int) :: (0 : Int) :: (0 : Int) :: (0 : Int) :: (0 : Int) :: (0 : Int) :: (0 : Int) :: (0 : Int) :: (0 : Int) :: (0 : Int) :: (0 : Int) :: (0 : Int) :: (0 : Int) :: (0 : Int) :: (0 : Int) :: (0 : Int) :: (0 : Int) :: (0 : Int) :: (0 : Int) :: (0 : Int) :: (0 : Int) :: (0 : Int) :: ([] : List Int)) ((0 : Int) :: (0 : Int) :: (0 : Int) :: (0 : Int) :: (0 : Int) :: (0 : Int) :: (0 : Int) :: (0 : Int) :: (0 : Int) :: (0 : Int) :: (0 : Int) :: (0 : Int) :: (0 : Int) :: (0 : Int) :: (0 : Int) :: (0 : Int) :: (0 : Int) :: (0 : Int) :: (0 : Int) :: (0 : Int) :: (0 : Int) :: (0 : Int) :: (0 : Int) :: (0 : Int) :: (0 : Int) :: (0 : Int) :: (0 : Int) :: (0 : Int) :: (0 : Int) :: (0 : Int) :: (0 : Int) :: (0 : Int) :: (0 : Int) :: (0 : Int) :: (0 : Int) :: (0 : Int) :: (0 : Int) :: (0 : Int) :: (0 : Int) :: (0 : Int) :: (0 : Int) :: (0 : Int) :: (0 : Int) :: (0 : Int) :: (0 : Int) :: (0 : Int) :: (0 : Int) :: (0 : Int) :: (0 : Int) :: (0 : Int) :: (0 : Int) :: (0 : Int) :: (0 : Int) :: (0 : Int) :: (0 : Int) :: (0 : Int) :: (0 : Int) :: (0 : Int) :: (0 : Int) :: (0 : Int) :: (0 : Int) :: (0 : Int) :: (0 : Int) :: (0 : Int) :: ([] : List Int)) (0 : Int)
  (fun w => sha_schedule_p2 N ((0 : Int) :: (0 : Int) :: (0 : Int) :: (0 : Int) :: (0 : Int) :: (0 : Int) :: (0 : Int) :: (0 : Int) :: (0 : Int) :: (0 : Int) :: (0 : Int) :: (0 : Int) :: (0 : Int) :: (0 : Int) :: (0 : Int) :: (0 : Int) :: (0 : Int) :: (0 : Int) :: (0 : Int) :: (0 : Int) :: (0 : Int) :: (0 : Int) :: (0 : Int) :: (0 : Int) :: (0 : Int) :: (0 : Int) :: (0 : Int) :: (0 : Int) :: (0 : Int) :: (0 : Int) :: (0 : Int) :: (0 : Int) :: (0 : Int) :: (0 : Int) :: (0 : Int) :: (0 : Int) :: (0 : Int) :: (0 : Int) :: (0 : Int) :: (0 : Int) :: (0 : Int) :: (0 : Int) :: (0 : Int) :: (0 : Int) :: (0 : Int) :: (0 : Int) :: (0 : Int) :: (0 : Int) :: (0 : Int) :: (0 : Int) :: (0 : Int) :: (0 : Int) :: (0 : Int) :: (0 : Int) :: (0 : Int) :: (0 : Int) :: (0 : Int) :: (0 : Int) :: (0 : Int) :: (0 : Int) :: (0 : Int) :: (0 : Int) :: (0 : Int) :: (0 : Int) :: ([] : List Int)) w (16 : Int)
    (fun w1 => some w1))

noncomputable def t_12 (N : Nat) : Tab (List Int) := [([0, 1, 0, 1, 1], h1_12 N), ([0, 1, 0, 1, 1, 1], h2_12 N)]

theorem link_12 (N : Nat) (x : denS [(0, .v .str)]) : evFX (E_12 N) N (t_12 N) L_12 Tryd.f107 (mkS [(0, .v .str)] 0 x) (kRes (.v (.arr 64 (.int .u32))) 1) = sha_schedule N x.1 := by kernel_rfl

noncomputable def sha_schedule_res (N : Nat) : List A → Res := resOf [(0, .v .str)] (fun x => sha_schedule N x.1) (oRes (.v (.arr 64 (.int .u32))) 1)

theorem sha_schedule_ct (N : Nat) : Contract Tryd.prog glob 107 (sha_schedule_res N) :=
  Contract.of (E := E_12 N) (H := t_12 N) (L := L_12) (N := N) (body := body_12) (K := (kRes (.v (.arr 64 (.int .u32))) 1)) (Eok_12 N) Tryd.func107 (by kernel_rfl) (by decide) (fun _ hb => (TabOk.cons (ok1_12 hb) (TabOk.cons (ok2_12 hb) TabOk.nil))) (fun x y h => by rw [link_12]; exact h) (kRes_ok (s := (.v (.arr 64 (.int .u32)))) (m := 1))

noncomputable def body_13 : Code := (Tryd.f108.body).getD .skip

noncomputable def L_13 : List (List Nat × List Nat) := [([0], [2, 1, 4]), ([0, 1], [12, 9, 10, 11, 1, 5, 6, 7, 8, 4]), ([0, 1, 1], [5, 6, 7, 13, 8, 9, 10, 11, 4]), ([0, 1, 1, 1], [13, 14, 5, 6, 7, 8, 9, 10, 11, 4]), ([0, 1, 1, 1, 1], [4]), ([1, 1, 1, 1, 1], [4])]

noncomputable def E_13 (N : Nat) : Env := mkEnv tys glob [(110, sha_ror_res N)] [] [] [] false [] [(86, hmac_framed1_itr N)]

theorem Eok_13 (N : Nat) : EnvOk Tryd.prog (E_13 N) := mkEnv_ok mixed tys_ok (FnsOk.cons (sha_ror_ct N) (FnsOk.nil)) (ItsOk.cons (hmac_framed1_it N) (ItsOk.nil))

noncomputable def sha_round (N : Nat) (v_ : (List Int)) (k : Int) : Option (List Int) :=
  cond (decide (0 < (List.length v_)))
  (cond (decide (1 < (List.length v_)))
    (cond (decide (2 < (List.length v_)))
      (cond (decide (3 < (List.length v_)))
        (cond (decide (4 < (List.length v_)))
          (cond (decide (5 < (List.length v_)))
            (cond (decide (6 < (List.length v_)))
              (cond (decide (7 < (List.length v_)))
                (some ([(IntKind.wrap IntKind.u32 ((IntKind.wrap IntKind.u32 ((IntKind.wrap IntKind.u32 ((IntKind.wrap IntKind.u32 ((List.getD v_ 7 (0 : Int)) + (bitsOp Go.BinOp.xor IntKind.u32 (bitsOp Go.BinOp.xor IntKind.u32 (bitsOp Go.BinOp.or IntKind.u32 (shlI IntKind.u32 (List.getD v_ 4 (0 : Int)) (bitsOp Go.BinOp.and IntKind.u64 (IntKind.wrap IntKind.u64 (IntKind.wrap IntKind.i64 ((0 : Int) - (6 : Int)))) (31 : Int))) (shrI IntKind.u32 (List.getD v_ 4 (0 : Int)) (IntKind.wrap IntKind.u64 ((32 : Int) - (bitsOp Go.BinOp.and IntKind.u64 (IntKind.wrap IntKind.u64 (IntKind.wrap IntKind.i64 ((0 : Int) - (6 : Int)))) (31 : Int)))))) (bitsOp Go.BinOp.or IntKind.u32 (shlI IntKind.u32 (List.getD v_ 4 (0 : Int)) (bitsOp Go.BinOp.and IntKind.u64 (IntKind.wrap IntKind.u64 (IntKind.wrap IntKind.i64 ((0 : Int) - (11 : Int)))) (31 : Int))) (shrI IntKind.u32 (List.getD v_ 4 (0 : Int)) (IntKind.wrap IntKind.u64 ((32 : Int) - (bitsOp Go.BinOp.and IntKind.u64 (IntKind.wrap IntKind.u64 (IntKind.wrap IntKind.i64 ((0 : Int) - (11 : Int)))) (31 : Int))))))) (bitsOp Go.BinOp.or IntKind.u32 (shlI IntKind.u32 (List.getD v_ 4 (0 : Int)) (bitsOp Go.BinOp.and IntKind.u64 (IntKind.wrap IntKind.u64 (IntKind.wrap IntKind.i64 ((0 : Int) - (25 : Int)))) (31 : Int))) (shrI IntKind.u32 (List.getD v_ 4 (0 : Int)) (IntKind.wrap IntKind.u64 ((32 : Int) - (bitsOp Go.BinOp.and IntKind.u64 (IntKind.wrap IntKind.u64 (IntKind.wrap IntKind.i64 ((0 : Int) - (25 : Int)))) (31 : Int))))))))) + (bitsOp Go.BinOp.xor IntKind.u32 (bitsOp Go.BinOp.and IntKind.u32 (List.getD v_ 4 (0 : Int)) (List.getD v_ 5 (0 : Int))) (bitsOp Go.BinOp.and IntKind.u32 (bitsOp Go.BinOp.xor IntKind.u32 (if ((IntKind.signed IntKind.u32) = true) then (-(1 : Int)) else (IntKind.max IntKind.u32)) (List.getD v_ 4 (0 : Int))) (List.getD v_ 6 (0 : Int)))))) + k)) + (IntKind.wrap IntKind.u32 ((bitsOp Go.BinOp.xor IntKind.u32 (bitsOp Go.BinOp.xor IntKind.u32 (bitsOp Go.BinOp.or IntKind.u32 (shlI IntKind.u32 (List.getD v_ 0 (0 : Int)) (bitsOp Go.BinOp.and IntKind.u64 (IntKind.wrap IntKind.u64 (IntKind.wrap IntKind.i64 ((0 : Int) - (2 : Int)))) (31 : Int))) (shrI IntKind.u32 (List.getD v_ 0 (0 : Int)) (IntKind.wrap IntKind.u64 ((32 : Int) - (bitsOp Go.BinOp.and IntKind.u64 (IntKind.wrap IntKind.u64 (IntKind.wrap IntKind.i64 ((0 : Int) - (2 : Int)))) (31 : Int)))))) (bitsOp Go.BinOp.or IntKind.u32 (shlI IntKind.u32 (List.getD v_ 0 (0 : Int)) (bitsOp Go.BinOp.and IntKind.u64 (IntKind.wrap IntKind.u64 (IntKind.wrap IntKind.i64 ((0 : Int) - (13 : Int)))) (31 : Int))) (shrI IntKind.u32 (List.getD v_ 0 (0 : Int)) (IntKind.wrap IntKind.u64 ((32 : Int) - (bitsOp Go.BinOp.and IntKind.u64 (IntKind.wrap IntKind.u64 (IntKind.wrap IntKind.i64 ((0 : Int) - (13 : Int)))) (31 : Int))))))) (bitsOp Go.BinOp.or IntKind.u32 (shlI IntKind.u32 (List.getD v_ 0 (0 : Int)) (bitsOp Go.BinOp.and IntKind.u64 (IntKind.wrap IntKind.u64 (IntKind.wrap IntKind.i64 ((0 : Int) - (22 : Int)))) (31 : Int))) (shrI IntKind.u32 (List.getD v_ 0 (0 : Int)) (IntKind.wrap IntKind.u64 ((32 : Int) - (bitsOp Go.BinOp.and IntKind.u64 (IntKind.wrap IntKind.u64 (IntKind.wrap IntKind.i64 ((0 : Int) - (22 : Int)))) (31 : Int))))))) + (bitsOp Go.BinOp.xor IntKind.u32 (bitsOp Go.BinOp.xor IntKind.u32 (bitsOp Go.BinOp.and IntKind.u32 (List.getD v_ 0 (0 : Int)) (List.getD v_ 1 (0 : Int))) (bitsOp Go.BinOp.and IntKind.u32 (List.getD v_ 0 (0 : Int)) (List.getD v_ 2 (0 : Int)))) (bitsOp Go.BinOp.and IntKind.u32 (List.getD v_ 1 (0 : Int)) (List.getD v_ 2 (0 : Int)))))))), (List.getD v_ 0 (0 : Int)), (List.getD v_ 1 (0 : Int)), (List.getD v_ 2 (0 : Int)), (IntKind.wrap IntKind.u32 ((List.getD v_ 3 (0 : Int)) + (IntKind.wrap IntKind.u32 ((IntKind.wrap IntKind.u32 ((IntKind.wrap IntKind.u32 ((List.getD v_ 7 (0 : Int)) + (bitsOp Go.BinOp.xor IntKind.u32 (bitsOp Go.BinOp.xor IntKind.u32 (bitsOp Go.BinOp.or IntKind.u32 (shlI IntKind.u32 (List.getD v_ 4 (0 : Int)) (bitsOp Go.BinOp.and IntKind.u64 (IntKind.wrap IntKind.u64 (IntKind.wrap IntKind.i64 ((0 : Int) - (6 : Int)))) (31 : Int))) (shrI IntKind.u32 (List.getD v_ 4 (0 : Int)) (IntKind.wrap IntKind.u64 ((32 : Int) - (bitsOp Go.BinOp.and IntKind.u64 (IntKind.wrap IntKind.u64 (IntKind.wrap IntKind.i64 ((0 : Int) - (6 : Int)))) (31 : Int)))))) (bitsOp Go.BinOp.or IntKind.u32 (shlI IntKind.u32 (List.getD v_ 4 (0 : Int)) (bitsOp Go.BinOp.and IntKind.u64 (IntKind.wrap IntKind.u64 (IntKind.wrap IntKind.i64 ((0 : Int) - (11 : Int)))) (31 : Int))) (shrI IntKind.u32 (List.getD v_ 4 (0 : Int)) (IntKind.wrap IntKind.u64 ((32 : Int) - (bitsOp Go.BinOp.and IntKind.u64 (IntKind.wrap IntKind.u64 (IntKind.wrap IntKind.i64 ((0 : Int) - (11 : Int)))) (31 : Int))))))) (bitsOp Go.BinOp.or IntKind.u32 (shlI IntKind.u32 (List.getD v_ 4 (0 : Int)) (bitsOp Go.BinOp.and IntKind.u64 (IntKind.wrap IntKind.u64 (IntKind.wrap IntKind.i64 ((0 : Int) - (25 : Int)))) (31 : Int))) (shrI IntKind.u32 (List.getD v_ 4 (0 : Int)) (IntKind.wrap IntKind.u64 ((32 : Int) - (bitsOp Go.BinOp.and IntKind.u64 (IntKind.wrap IntKind.u64 (IntKind.wrap IntKind.i64 ((0 : Int) - (25 : Int)))) (31 : Int))))))))) + (bitsOp Go.BinOp.xor IntKind.u32 (bitsOp Go.BinOp.and IntKind.u32 (List.getD v_ 4 (0 : Int)) (List.getD v_ 5 (0 : Int))) (bitsOp Go.BinOp.and IntKind.u32 (bitsOp Go.BinOp.xor IntKind.u32 (if ((IntKind.signed IntKind.u32) = true) then (-(1 : Int)) else (IntKind.max IntKind.u32)) (List.getD v_ 4 (0 : Int))) (List.getD v_ 6 (0 : Int)))))) + k)))), (List.getD v_ 4 (0 : Int)), (List.getD v_ 5 (0 : Int)), (List.getD v_ 6 (0 : Int))] : List Int))
                (none))
              (none))
            (none))
          (none))
        (none))
      (none))
    (none))
  (none)

noncomputable def t_13 (N : Nat) : Tab (List Int) := []

theorem link_13 (N : Nat) (x : denS [(0, .v (.arr 8 (.int .u32))), (0, .v (.int .u32))]) : evFX (E_13 N) N (t_13 N) L_13 Tryd.f108 (mkS [(0, .v (.arr 8 (.int .u32))), (0, .v (.int .u32))] 0 x) (kRes (.v (.arr 8 (.int .u32))) 2) = sha_round N x.1 x.2.1 := by kernel_rfl

noncomputable def sha_round_res (N : Nat) : List A → Res := resOf [(0, .v (.arr 8 (.int .u32))), (0, .v (.int .u32))] (fun x => sha_round N x.1 x.2.1) (oRes (.v (.arr 8 (.int .u32))) 2)

theorem sha_round_ct (N : Nat) : Contract Tryd.prog glob 108 (sha_round_res N) :=
  Contract.of (E := E_13 N) (H := t_13 N) (L := L_13) (N := N) (body := body_13) (K := (kRes (.v (.arr 8 (.int .u32))) 2)) (Eok_13 N) Tryd.func108 (by kernel_rfl) (by decide) (fun _ hb => TabOk.nil) (fun x y h => by rw [link_13]; exact h) (kRes_ok (s := (.v (.arr 8 (.int .u32)))) (m := 2))

noncomputable def body_14 : Code := (Tryd.f101.body).getD .skip

noncomputable def L_14 : List (List Nat × List Nat) := [([0], [1, 2, 4]), ([0, 0, 1], [11, 2, 4, 1]), ([1, 0, 1], [1, 2, 4]), ([0, 0, 1, 0, 1], [4]), ([1, 0, 1, 0, 1], [4]), ([0, 1, 1], [2, 5, 4]), ([0, 1, 1, 1], [6, 5, 2, 4]), ([0, 0, 1, 1, 1, 1], [16, 6, 5, 2, 4]), ([0, 1, 0, 1, 1, 1, 1], [16, 6, 5, 2, 4]), ([0, 0, 0, 1, 0, 1, 1, 1, 1], [17, 16, 6, 5, 2, 4]), ([0, 1, 0, 0, 1, 0, 1, 1, 1, 1], [16, 6, 5, 2, 4]), ([1, 0, 1, 0, 0, 1, 0, 1, 1, 1, 1], [6, 2, 4]), ([0, 0, 0, 1, 1, 0, 0, 1, 0, 1, 1, 1, 1], [6, 7, 5, 16, 2, 4]), ([1, 0, 0, 1, 1, 0, 0, 1, 0, 1, 1, 1, 1], [16, 6, 5, 2, 4]), ([0, 1, 1, 0, 0, 1, 0, 1, 1, 1, 1], [16, 6, 5, 2, 4]), ([1, 1, 1, 0, 0, 1, 0, 1, 1, 1, 1], [16, 6, 5, 2, 4]), ([1, 0, 1, 1, 1, 1], [6, 2, 4]), ([0, 0, 1, 1, 1, 1, 1], [29, 6, 2, 4]), ([0, 1, 0, 1, 1, 1, 1, 1], [29, 6, 2, 4]), ([0, 0, 0, 1, 0, 1, 1, 1, 1, 1], [30, 29, 6, 2, 4]), ([0, 1, 0, 0, 1, 0, 1, 1, 1, 1, 1], [29, 6, 2, 4]), ([1, 0, 1, 0, 0, 1, 0, 1, 1, 1, 1, 1], [6, 4]), ([0, 0, 0, 1, 1, 0, 0, 1, 0, 1, 1, 1, 1, 1], [8, 6, 2, 29, 4]), ([1, 0, 0, 1, 1, 0, 0, 1, 0, 1, 1, 1, 1, 1], [29, 6, 2, 4]), ([0, 1, 1, 0, 0, 1, 0, 1, 1, 1, 1, 1], [29, 6, 2, 4]), ([1, 1, 1, 0, 0, 1, 0, 1, 1, 1, 1, 1], [29, 6, 2, 4]), ([1, 0, 1, 1, 1, 1, 1], [6, 4]), ([0, 1, 1, 1, 1, 1, 1], [4]), ([1, 1, 1, 1, 1, 1, 1], [4])]

noncomputable def E_14 (N : Nat) : Env := mkEnv tys glob [(108, sha_round_res N), (107, sha_schedule_res N)] [] [] [] false [] [(86, hmac_framed1_itr N)]

theorem Eok_14 (N : Nat) : EnvOk Tryd.prog (E_14 N) := mkEnv_ok mixed tys_ok (FnsOk.cons (sha_round_ct N) (FnsOk.cons (sha_schedule_ct N) (FnsOk.nil))) (ItsOk.cons (hmac_framed1_it N) (ItsOk.nil))

noncomputable def sha_Step_s1 (N : Nat) (h : (List Int)) (x4 : (List Int)) (w : (List Int)) (v_ : (List Int)) (x16 : Int) (rec : (List Int) → Int → Option (List Int)) (k0 : (List Int) → Option (List Int)) : Option (List Int) :=
  cond (decide (x16 < (64 : Int)))
  (cond (inR x16 64)
    (cond (inR x16 64)
      (cond (decide ((Int.toNat x16) < (List.length w)))
        ((sha_round N v_ (IntKind.wrap IntKind.u32 ((List.getD glob0 (Int.toNat x16) (0 : Int)) + (List.getD w (Int.toNat x16) (0 : Int))))).bind fun y =>
          rec y (IntKind.wrap IntKind.i64 (x16 + (1 : Int))))
        (none))
      (none))
    (none))
  (k0 v_)

noncomputable def sha_Step_p1 (N : Nat) (h : (List Int)) (x4 : (List Int)) (w : (List Int)) (v_ : (List Int)) (x16 : Int) (k0 : (List Int) → Option (List Int)) : Option (List Int) :=
  iter (fun (v : ((List Int) × Int)) r => sha_Step_s1 N h x4 w v.1 v.2 (fun v_ x16 => (r (v_, x16))) k0) N (v_, x16)

noncomputable def g1_14 (N : Nat) (i : ((List Int) × (List Int) × (List Int))) (v : ((List Int) × Int)) (r : ((List Int) × Int) → Option (List Int)) (K : Ex → List A → Option (List Int)) : Option (List Int) :=
  sha_Step_s1 N i.1 i.2.1 i.2.2 v.1 v.2 (fun v_ x16 => (r (v_, x16))) (fun a2 => (K (.exit 0) (mkS [(2, .box (.arr 8 (.int .u32))), (1, .box (.arr 8 (.int .u32))), (1, .box (.arr 8 (.int .u32)))] 35 (i.1, i.2.1, a2, ()))))

noncomputable def h1_14 (N : Nat) : Hd (List Int) := fun st K => (unS [(2, .box (.arr 8 (.int .u32))), (1, .box (.arr 8 (.int .u32))), (0, .box (.arr 64 (.int .u32))), (0, .box (.arr 8 (.int .u32))), (9, .v (.int .i64))] 25 (restr [16, 6, 5, 2, 4] 0 st)).bind fun x => iter (fun v r => g1_14 N ((fun x => (x.1, x.2.1, x.2.2.1)) x) v r K) N ((fun x => (x.2.2.2.1, x.2.2.2.2.1)) x)

noncomputable def t1_14 (N : Nat) : Tab (List Int) := []

theorem ok1_14 {N : Nat} {c : Ctx} (hb : Base Tryd.prog (E_14 N) c) : CodeOk Tryd.prog c (nodeAt body_14 [0, 1, 0, 1, 1, 1, 1]) (h1_14 N) :=
  loop_ok (s := [(2, .box (.arr 8 (.int .u32))), (1, .box (.arr 8 (.int .u32))), (0, .box (.arr 64 (.int .u32))), (0, .box (.arr 8 (.int .u32))), (9, .v (.int .i64))]) (m := 25) (g1_14 N) [16, 6, 5, 2, 4] N (fun x => (x.1, x.2.1, x.2.2.1)) (fun x => (x.2.2.2.1, x.2.2.2.2.1)) (fun i v => (i.1, i.2.1, i.2.2, v.1, v.2, ())) (fun _ => rfl) (evN_sound hb N (t1_14 N) L_14 body_14 TabOk.nil [0, 0, 1, 0, 1, 1, 1, 1] _ rfl) (fun i v r K => by kernel_rfl)

noncomputable def sha_Step_s2 (N : Nat) (h : (List Int)) (x4 : (List Int)) (v_ : (List Int)) (x29 : Int) (rec : (List Int) → Int → Option (List Int)) (k0 : (List Int) → Option (List Int)) : Option (List Int) :=
  cond (decide (x29 < (8 : Int)))
  (cond (inR x29 8)
    (cond (decide ((Int.toNat x29) < (List.length v_)))
      (cond (inR x29 8)
        (cond (decide ((Int.toNat x29) < (List.length h)))
          (cond (inR x29 8)
            (cond (decide ((Int.toNat x29) < (List.length v_)))
              (rec (List.set v_ (Int.toNat x29) (IntKind.wrap IntKind.u32 ((List.getD v_ (Int.toNat x29) (0 : Int)) + (List.getD h (Int.toNat x29) (0 : Int))))) (IntKind.wrap IntKind.i64 (x29 + (1 : Int))))
              (none))
            (none))
          (none))
        (none))
      (none))
    (none))
  (k0 v_)

noncomputable def sha_Step_p2 (N : Nat) (h : (List Int)) (x4 : (List Int)) (v_ : (List Int)) (x29 : Int) (k0 : (List Int) → Option (List Int)) : Option (List Int) :=
  iter (fun (v : ((List Int) × Int)) r => sha_Step_s2 N h x4 v.1 v.2 (fun v_ x29 => (r (v_, x29))) k0) N (v_, x29)

noncomputable def g2_14 (N : Nat) (i : ((List Int) × (List Int))) (v : ((List Int) × Int)) (r : ((List Int) × Int) → Option (List Int)) (K : Ex → List A → Option (List Int)) : Option (List Int) :=
  sha_Step_s2 N i.1 i.2 v.1 v.2 (fun v_ x29 => (r (v_, x29))) (fun a1 => (K (.exit 2) (mkS [(4, .box (.arr 8 (.int .u32))), (1, .box (.arr 8 (.int .u32)))] 35 (i.2, a1, ()))))

noncomputable def h2_14 (N : Nat) : Hd (List Int) := fun st K => (unS [(2, .box (.arr 8 (.int .u32))), (1, .box (.arr 8 (.int .u32))), (1, .box (.arr 8 (.int .u32))), (22, .v (.int .i64))] 12 (restr [29, 6, 2, 4] 0 st)).bind fun x => iter (fun v r => g2_14 N ((fun x => (x.1, x.2.1)) x) v r K) N ((fun x => (x.2.2.1, x.2.2.2.1)) x)

noncomputable def t2_14 (N : Nat) : Tab (List Int) := []

theorem ok2_14 {N : Nat} {c : Ctx} (hb : Base Tryd.prog (E_14 N) c) : CodeOk Tryd.prog c (nodeAt body_14 [0, 1, 0, 1, 1, 1, 1, 1]) (h2_14 N) :=
  loop_ok (s := [(2, .box (.arr 8 (.int .u32))), (1, .box (.arr 8 (.int .u32))), (1, .box (.arr 8 (.int .u32))), (22, .v (.int .i64))]) (m := 12) (g2_14 N) [29, 6, 2, 4] N (fun x => (x.1, x.2.1)) (fun x => (x.2.2.1, x.2.2.2.1)) (fun i v => (i.1, i.2, v.1, v.2, ())) (fun _ => rfl) (evN_sound hb N (t2_14 N) L_14 body_14 TabOk.nil [0, 0, 1, 0, 1, 1, 1, 1, 1] _ rfl) (fun i v r K => by kernel_rfl)

noncomputable def sha_Step (N : Nat) (h : (List Int)) (block : (List UInt8)) : Option (List Int) :=
  cond ((((List.length block) : Nat) : Int) != (64 : Int))
  (some h)
  ((sha_schedule N block).bind fun y =>
    sha_Step_p1 N h ([(0 : Int), (0 : Int), (0 : Int), (0 : Int), (0 : Int), (0 : Int), (0 : Int), (0 : Int)] : List Int) y h (0 : Int)
    (fun v_ => sha_Step_p2 N h ([(0 : Int), (0 : Int), (0 : Int), (0 : Int), (0 : Int), (0 : Int), (0 : Int), (0 : Int)] : List Int) v_ (0 : Int)
      (fun v_1 => some v_1)))

noncomputable def t_14 (N : Nat) : Tab (List Int) := [([0, 1, 0, 1, 1, 1, 1], h1_14 N), ([0, 1, 0, 1, 1, 1, 1, 1], h2_14 N)]

theorem link_14 (N : Nat) (x : denS [(0, .v (.arr 8 (.int .u32))), (0, .v .str)]) : evFX (E_14 N) N (t_14 N) L_14 Tryd.f101 (mkS [(0, .v (.arr 8 (.int .u32))), (0, .v .str)] 0 x) (kRes (.v (.arr 8 (.int .u32))) 2) = sha_Step N x.1 x.2.1 := by kernel_rfl

noncomputable def sha_Step_res (N : Nat) : List A → Res := resOf [(0, .v (.arr 8 (.int .u32))), (0, .v .str)] (fun x => sha_Step N x.1 x.2.1) (oRes (.v (.arr 8 (.int .u32))) 2)

theorem sha_Step_ct (N : Nat) : Contract Tryd.prog glob 101 (sha_Step_res N) :=
  Contract.of (E := E_14 N) (H := t_14 N) (L := L_14) (N := N) (body := body_14) (K := (kRes (.v (.arr 8 (.int .u32))) 2)) (Eok_14 N) Tryd.func101 (by kernel_rfl) (by decide) (fun _ hb => (TabOk.cons (ok1_14 hb) (TabOk.cons (ok2_14 hb) TabOk.nil))) (fun x y h => by rw [link_14]; exact h) (kRes_ok (s := (.v (.arr 8 (.int .u32)))) (m := 2))

noncomputable def body_15 : Code := (Tryd.f94.body).getD .skip

noncomputable def L_15 : List (List Nat × List Nat) := [([0], [1, 2, 4]), ([0, 0, 1], [5, 1, 2, 4]), ([0, 1, 0, 1], [5, 1, 2, 4]), ([0, 0, 0, 0, 1, 0, 1], [9, 2, 1, 5, 4]), ([1, 0, 0, 0, 1, 0, 1], [2, 1, 5, 4]), ([1, 1, 0, 0, 0, 1, 0, 1], [2, 4]), ([0, 0, 1, 0, 0, 1, 0, 1], [5, 1, 2, 4]), ([0, 1, 0, 0, 1, 0, 1], [5, 1, 2, 4]), ([1, 1, 0, 0, 1, 0, 1], [5, 1, 2, 4]), ([1, 0, 1], [2, 4]), ([0, 1, 1], [4]), ([1, 1, 1], [4])]

noncomputable def E_15 (N : Nat) : Env := mkEnv tys glob [(101, sha_Step_res N)] [] [] [] false [] [(86, hmac_framed1_itr N)]

theorem Eok_15 (N : Nat) : EnvOk Tryd.prog (E_15 N) := mkEnv_ok mixed tys_ok (FnsOk.cons (sha_Step_ct N) (FnsOk.nil)) (ItsOk.cons (hmac_framed1_it N) (ItsOk.nil))

noncomputable def sha_steps_s1 (N : Nat) (s : (List UInt8)) (x4 : (List Int)) (h : (List Int)) (i : Int) (rec : (List Int) → Int → Option (List Int)) (k0 : (List Int) → Option (List Int)) : Option (List Int) :=
  cond (decide (i < (((List.length s) : Nat) : Int)))
  (cond (decide (((0 : Int) ≤ (IntKind.wrap IntKind.i64 (i + (64 : Int)))) ∧ ((IntKind.wrap IntKind.i64 (i + (64 : Int))) ≤ (((List.length s) : Nat) : Int))))
    (cond (decide (((0 : Int) ≤ i) ∧ (i ≤ (IntKind.wrap IntKind.i64 (i + (64 : Int))))))
      ((sha_Step N h (cut s (Int.toNat i) (Int.toNat (IntKind.wrap IntKind.i64 (i + (64 : Int)))))).bind fun y =>
        rec y (IntKind.wrap IntKind.i64 (i + (64 : Int))))
      (none))
    (none))
  (k0 h)

noncomputable def sha_steps_p1 (N : Nat) (s : (List UInt8)) (h : (List Int)) (x4 : (List Int)) (i : Int) (k0 : (List Int) → Option (List Int)) : Option (List Int) :=
  iter (fun (v : ((List Int) × Int)) r => sha_steps_s1 N s x4 v.1 v.2 (fun h i => (r (h, i))) k0) N (h, i)

noncomputable def g1_15 (N : Nat) (i : ((List UInt8) × (List Int))) (v : ((List Int) × Int)) (r : ((List Int) × Int) → Option (List Int)) (K : Ex → List A → Option (List Int)) : Option (List Int) :=
  sha_steps_s1 N i.1 i.2 v.1 v.2 (fun h i => (r (h, i))) (fun a0 => (K (.exit 0) (mkS [(2, .box (.arr 8 (.int .u32))), (1, .box (.arr 8 (.int .u32)))] 15 (a0, i.2, ()))))

noncomputable def h1_15 (N : Nat) : Hd (List Int) := fun st K => (unS [(1, .v .str), (0, .box (.arr 8 (.int .u32))), (1, .box (.arr 8 (.int .u32))), (0, .v (.int .i64))] 14 (restr [5, 1, 2, 4] 0 st)).bind fun x => iter (fun v r => g1_15 N ((fun x => (x.1, x.2.2.1)) x) v r K) N ((fun x => (x.2.1, x.2.2.2.1)) x)

noncomputable def t1_15 (N : Nat) : Tab (List Int) := []

theorem ok1_15 {N : Nat} {c : Ctx} (hb : Base Tryd.prog (E_15 N) c) : CodeOk Tryd.prog c (nodeAt body_15 [0, 1, 0, 1]) (h1_15 N) :=
  loop_ok (s := [(1, .v .str), (0, .box (.arr 8 (.int .u32))), (1, .box (.arr 8 (.int .u32))), (0, .v (.int .i64))]) (m := 14) (g1_15 N) [5, 1, 2, 4] N (fun x => (x.1, x.2.2.1)) (fun x => (x.2.1, x.2.2.2.1)) (fun i v => (i.1, v.1, i.2, v.2, ())) (fun _ => rfl) (evN_sound hb N (t1_15 N) L_15 body_15 TabOk.nil [0, 0, 1, 0, 1] _ rfl) (fun i v r K => by kernel_rfl)

noncomputable def sha_steps (N : Nat) (h : (List Int)) (s : (List UInt8)) : Option (List Int) :=
  sha_steps_p1 N s h ([(0 : Int), (0 : Int), (0 : Int), (0 : Int), (0 : Int), (0 : Int), (0 : Int), (0 : Int)] : List Int) (0 : Int)
  (fun h1 => some h1)

noncomputable def t_15 (N : Nat) : Tab (List Int) := [([0, 1, 0, 1], h1_15 N)]

theorem link_15 (N : Nat) (x : denS [(0, .v (.arr 8 (.int .u32))), (0, .v .str)]) : evFX (E_15 N) N (t_15 N) L_15 Tryd.f94 (mkS [(0, .v (.arr 8 (.int .u32))), (0, .v .str)] 0 x) (kRes (.v (.arr 8 (.int .u32))) 2) = sha_steps N x.1 x.2.1 := by kernel_rfl

noncomputable def sha_steps_res (N : Nat) : List A → Res := resOf [(0, .v (.arr 8 (.int .u32))), (0, .v .str)] (fun x => sha_steps N x.1 x.2.1) (oRes (.v (.arr 8 (.int .u32))) 2)

theorem sha_steps_ct (N : Nat) : Contract Tryd.prog glob 94 (sha_steps_res N) :=
  Contract.of (E := E_15 N) (H := t_15 N) (L := L_15) (N := N) (body := body_15) (K := (kRes (.v (.arr 8 (.int .u32))) 2)) (Eok_15 N) Tryd.func94 (by kernel_rfl) (by decide) (fun _ hb => (TabOk.cons (ok1_15 hb) TabOk.nil)) (fun x y h => by rw [link_15]; exact h) (kRes_ok (s := (.v (.arr 8 (.int .u32)))) (m := 2))

noncomputable def body_16 : Code := (Tryd.f83.body).getD .skip

noncomputable def L_16 : List (List Nat × List Nat) := [([0, 0], [14, 0, 1]), ([1, 0], [0, 1]), ([0, 1, 0], [0]), ([0, 1], [0, 1]), ([0, 1, 1], [4, 0]), ([0, 1, 1, 1], [0, 4, 5]), ([0, 1, 1, 1, 1], [0, 4, 5]), ([1, 1, 1, 1, 1], [0])]

noncomputable def E_16 (N : Nat) : Env := mkEnv tys glob [(94, sha_steps_res N)] [] [] [0] false [] [(86, hmac_framed1_itr N)]

theorem Eok_16 (N : Nat) : EnvOk Tryd.prog (E_16 N) := mkEnv_ok mixed tys_ok (FnsOk.cons (sha_steps_ct N) (FnsOk.nil)) (ItsOk.cons (hmac_framed1_it N) (ItsOk.nil))

noncomputable def sha_Hash_Add_p1 (N : Nat) (h : DT3) (s : (List UInt8)) (k0 : Option ((Unit) × (DT3 × Unit))) (k1 : Option ((Unit) × (DT3 × Unit))) : Option ((Unit) × (DT3 × Unit)) :=
  cond (!h.1)
  (k0)
  (k1)

noncomputable def g1_16 (N : Nat) (x : denS [(0, .box TT2), (0, .v .str)]) (K : Ex → List A → Option ((Unit) × (DT3 × Unit))) : Option ((Unit) × (DT3 × Unit)) :=
  sha_Hash_Add_p1 N x.1 x.2.1 (K .ret (mkS [(0, .box TT2)] 52 (x.1, ()))) (K .normal (mkS [(0, .box TT2), (0, .v .str)] 51 (x.1, x.2.1, ())))

noncomputable def h1_16 (N : Nat) : Hd ((Unit) × (DT3 × Unit)) := fun st K => (unS [(0, .box TT2), (0, .v .str)] 51 (restr [0, 1] 0 st)).bind fun x => g1_16 N x K

noncomputable def t1_16 (N : Nat) : Tab ((Unit) × (DT3 × Unit)) := []

theorem ok1_16 {N : Nat} {c : Ctx} (hb : Base Tryd.prog (E_16 N) c) : CodeOk Tryd.prog c (nodeAt body_16 [0]) (h1_16 N) :=
  piece_ok (s := [(0, .box TT2), (0, .v .str)]) (m := 51) (g := g1_16 N) [0, 1] (evN_sound hb N (t1_16 N) L_16 body_16 TabOk.nil [0] _ rfl) (fun x K => by kernel_rfl)

noncomputable def sha_Hash_Add (N : Nat) (h : DT3) (s : (List UInt8)) : Option ((Unit) × (DT3 × Unit)) :=
  sha_Hash_Add_p1 N h s
  (some ((), (h, ())))
  (cond (decide (((List.length h.2.2.1) + (List.length s)) ≤ 9223372036854775807))
    (cond (decide (((0 : Int) ≤ (IntKind.wrap IntKind.i64 ((((List.length (h.2.2.1 ++ s)) : Nat) : Int) - (Int.tmod (((List.length (h.2.2.1 ++ s)) : Nat) : Int) (64 : Int))))) ∧ ((IntKind.wrap IntKind.i64 ((((List.length (h.2.2.1 ++ s)) : Nat) : Int) - (Int.tmod (((List.length (h.2.2.1 ++ s)) : Nat) : Int) (64 : Int)))) ≤ (((List.length (h.2.2.1 ++ s)) : Nat) : Int))))
      ((sha_steps N h.2.1 (cut (h.2.2.1 ++ s) 0 (Int.toNat (IntKind.wrap IntKind.i64 ((((List.length (h.2.2.1 ++ s)) : Nat) : Int) - (Int.tmod (((List.length (h.2.2.1 ++ s)) : Nat) : Int) (64 : Int))))))).bind fun y =>
        cond (decide (((0 : Int) ≤ (IntKind.wrap IntKind.i64 ((((List.length (h.2.2.1 ++ s)) : Nat) : Int) - (Int.tmod (((List.length (h.2.2.1 ++ s)) : Nat) : Int) (64 : Int))))) ∧ ((IntKind.wrap IntKind.i64 ((((List.length (h.2.2.1 ++ s)) : Nat) : Int) - (Int.tmod (((List.length (h.2.2.1 ++ s)) : Nat) : Int) (64 : Int)))) ≤ (((List.length (h.2.2.1 ++ s)) : Nat) : Int))))
        (some ((), ((h.1, (y, ((cut (h.2.2.1 ++ s) (Int.toNat (IntKind.wrap IntKind.i64 ((((List.length (h.2.2.1 ++ s)) : Nat) : Int) - (Int.tmod (((List.length (h.2.2.1 ++ s)) : Nat) : Int) (64 : Int))))) (List.length (h.2.2.1 ++ s))), ((IntKind.wrap IntKind.i64 (h.2.2.2.1 + (((List.length s) : Nat) : Int))), h.2.2.2.2)))), ())))
        (none))
      (none))
    (none))

noncomputable def t_16 (N : Nat) : Tab ((Unit) × (DT3 × Unit)) := [([0], h1_16 N)]

theorem link_16 (N : Nat) (x : denS [(0, .box TT2), (0, .v .str)]) : evFX (E_16 N) N (t_16 N) L_16 Tryd.f83 (mkS [(0, .box TT2), (0, .v .str)] 0 x) (kResB (.tup []) [(0, .box TT2)] 1) = sha_Hash_Add N x.1 x.2.1 := by kernel_rfl

noncomputable def sha_Hash_Add_res (N : Nat) : List A → Res := resOf [(0, .box TT2), (0, .v .str)] (fun x => sha_Hash_Add N x.1 x.2.1) (oResB (.tup []) [(0, .box TT2)] 1)

theorem sha_Hash_Add_ct (N : Nat) : Contract Tryd.prog glob 83 (sha_Hash_Add_res N) :=
  Contract.of (E := E_16 N) (H := t_16 N) (L := L_16) (N := N) (body := body_16) (K := (kResB (.tup []) [(0, .box TT2)] 1)) (Eok_16 N) Tryd.func83 (by kernel_rfl) (by decide) (fun _ hb => (TabOk.cons (ok1_16 hb) TabOk.nil)) (fun x y h => by rw [link_16]; exact h) (kResB_ok (s := (.tup [])) (os := [(0, .box TT2)]) (m := 1))

noncomputable def body_17 : Code := (Tryd.f83.body).getD .skip

noncomputable def L_17 : List (List Nat × List Nat) := [([0, 0], [14, 0, 1]), ([1, 0], [0, 1]), ([0, 1, 0], []), ([0, 1], [0, 1]), ([0, 1, 1], [4, 0]), ([0, 1, 1, 1], [0, 4, 5]), ([0, 1, 1, 1, 1], [0, 4, 5]), ([1, 1, 1, 1, 1], [])]

noncomputable def E_17 (N : Nat) : Env := mkEnv tys glob [(94, sha_steps_res N)] [] [] [] false [] [(86, hmac_framed1_itr N)]

theorem Eok_17 (N : Nat) : EnvOk Tryd.prog (E_17 N) := mkEnv_ok mixed tys_ok (FnsOk.cons (sha_steps_ct N) (FnsOk.nil)) (ItsOk.cons (hmac_framed1_it N) (ItsOk.nil))

noncomputable def sha_Hash_Add_nil_p1 (N : Nat) (s : (List UInt8)) (k0 : Option (Unit)) : Option (Unit) :=
  k0

noncomputable def g1_17 (N : Nat) (x : denS [(0, .nilp), (0, .v .str)]) (K : Ex → List A → Option (Unit)) : Option (Unit) :=
  sha_Hash_Add_nil_p1 N x.2.1 (K .ret (mkS [] 53 ()))

noncomputable def h1_17 (N : Nat) : Hd (Unit) := fun st K => (unS [(0, .nilp), (0, .v .str)] 51 (restr [0, 1] 0 st)).bind fun x => g1_17 N x K

noncomputable def t1_17 (N : Nat) : Tab (Unit) := []

theorem ok1_17 {N : Nat} {c : Ctx} (hb : Base Tryd.prog (E_17 N) c) : CodeOk Tryd.prog c (nodeAt body_17 [0]) (h1_17 N) :=
  piece_ok (s := [(0, .nilp), (0, .v .str)]) (m := 51) (g := g1_17 N) [0, 1] (evN_sound hb N (t1_17 N) L_17 body_17 TabOk.nil [0] _ rfl) (fun x K => by kernel_rfl)

noncomputable def sha_Hash_Add_nil (N : Nat) (s : (List UInt8)) : Option (Unit) :=
  sha_Hash_Add_nil_p1 N s
  (some ())

noncomputable def t_17 (N : Nat) : Tab (Unit) := [([0], h1_17 N)]

theorem link_17 (N : Nat) (x : denS [(0, .nilp), (0, .v .str)]) : evFX (E_17 N) N (t_17 N) L_17 Tryd.f83 (mkS [(0, .nilp), (0, .v .str)] 0 x) (kRes (.tup []) 2) = sha_Hash_Add_nil N x.2.1 := by kernel_rfl

noncomputable def sha_Hash_Add_nil_res (N : Nat) : List A → Res := resOf [(0, .nilp), (0, .v .str)] (fun x => sha_Hash_Add_nil N x.2.1) (oRes (.tup []) 2)

theorem sha_Hash_Add_nil_ct (N : Nat) : Contract Tryd.prog glob 83 (sha_Hash_Add_nil_res N) :=
  Contract.of (E := E_17 N) (H := t_17 N) (L := L_17) (N := N) (body := body_17) (K := (kRes (.tup []) 2)) (Eok_17 N) Tryd.func83 (by kernel_rfl) (by decide) (fun _ hb => (TabOk.cons (ok1_17 hb) TabOk.nil)) (fun x y h => by rw [link_17]; exact h) (kRes_ok (s := (.tup [])) (m := 2))

noncomputable def sha_Hash_Add_nil_all (N : Nat) : List A → Res := resAlt [(0, .nilp), (0, .v .str)] (fun x => sha_Hash_Add_nil N x.2.1) (oRes (.tup []) 2) (sha_Hash_Add_res N)

theorem sha_Hash_Add_nil_allct (N : Nat) : Contract Tryd.prog glob 83 (sha_Hash_Add_nil_all N) := Contract.alt (sha_Hash_Add_nil_ct N) (sha_Hash_Add_ct N)

noncomputable def body_18 : Code := (Tryd.f67.body).getD .skip

noncomputable def L_18 : List (List Nat × List Nat) := [([0], [1, 0]), ([0, 1], [1, 0]), ([0, 0, 1, 1], [10, 0, 1]), ([1, 0, 1, 1], [0, 1]), ([0, 0, 1, 0, 1, 1], [4]), ([1, 0, 1, 0, 1, 1], [4]), ([0, 1, 1, 1], [4]), ([1, 1, 1, 1], [4])]

noncomputable def E_18 (N : Nat) : Env := mkEnv tys glob [] [] [] [] false [] [(86, hmac_framed1_itr N)]

theorem Eok_18 (N : Nat) : EnvOk Tryd.prog (E_18 N) := mkEnv_ok mixed tys_ok (FnsOk.nil) (ItsOk.cons (hmac_framed1_it N) (ItsOk.nil))

noncomputable def octet_Pad (N : Nat) (s : (List UInt8)) (n : Int) : Option (List UInt8) :=
  cond (decide ((if ((65536 : Int) < n) then (65536 : Int) else n) ≤ (((List.length s) : Nat) : Int)))
  (some s)
  (cond (decide (((0 : Int) ≤ (IntKind.wrap IntKind.i64 ((if ((65536 : Int) < n) then (65536 : Int) else n) - (((List.length s) : Nat) : Int)))) ∧ (((IntKind.wrap IntKind.i64 ((if ((65536 : Int) < n) then (65536 : Int) else n) - (((List.length s) : Nat) : Int))) ≤ (IntKind.wrap IntKind.i64 ((if ((65536 : Int) < n) then (65536 : Int) else n) - (((List.length s) : Nat) : Int)))) ∧ ((((IntKind.wrap IntKind.i64 ((if ((65536 : Int) < n) then (65536 : Int) else n) - (((List.length s) : Nat) : Int))) * (1 : Int)) ≤ (281474976710656 : Int)) ∧ ((IntKind.wrap IntKind.i64 ((if ((65536 : Int) < n) then (65536 : Int) else n) - (((List.length s) : Nat) : Int))) ≤ (9223372036854775807 : Int))))))
    (cond (decide (((List.length s) + (List.length (toStr (List.replicate (Int.toNat (IntKind.wrap IntKind.i64 ((if ((65536 : Int) < n) then (65536 : Int) else n) - (((List.length s) : Nat) : Int)))) (0 : Int))))) ≤ 9223372036854775807))
      (some (s ++ (toStr (List.replicate (Int.toNat (IntKind.wrap IntKind.i64 ((if ((65536 : Int) < n) then (65536 : Int) else n) - (((List.length s) : Nat) : Int)))) (0 : Int)))))
      (none))
    (none))

noncomputable def t_18 (N : Nat) : Tab (List UInt8) := []

theorem link_18 (N : Nat) (x : denS [(0, .v .str), (0, .v (.int .i64))]) : evFX (E_18 N) N (t_18 N) L_18 Tryd.f67 (mkS [(0, .v .str), (0, .v (.int .i64))] 0 x) (kRes (.v .str) 2) = octet_Pad N x.1 x.2.1 := by kernel_rfl

noncomputable def octet_Pad_res (N : Nat) : List A → Res := resOf [(0, .v .str), (0, .v (.int .i64))] (fun x => octet_Pad N x.1 x.2.1) (oRes (.v .str) 2)

theorem octet_Pad_ct (N : Nat) : Contract Tryd.prog glob 67 (octet_Pad_res N) :=
  Contract.of (E := E_18 N) (H := t_18 N) (L := L_18) (N := N) (body := body_18) (K := (kRes (.v .str) 2)) (Eok_18 N) Tryd.func67 (by kernel_rfl) (by decide) (fun _ hb => TabOk.nil) (fun x y h => by rw [link_18]; exact h) (kRes_ok (s := (.v .str)) (m := 2))

noncomputable def body_19 : Code := (Tryd.f102.body).getD .skip

noncomputable def L_19 : List (List Nat × List Nat) := [([0], [1, 0]), ([0, 1], [1, 5, 0]), ([0, 0, 1, 1], [10, 9, 5, 0, 1]), ([0, 1, 0, 1, 1], [10, 9, 5, 0, 1]), ([0, 0, 0, 1, 0, 1, 1], [11, 10, 5, 0, 1, 9]), ([0, 1, 0, 0, 1, 0, 1, 1], [10, 5, 0, 1, 9]), ([1, 0, 1, 0, 0, 1, 0, 1, 1], [5]), ([0, 0, 0, 1, 1, 0, 0, 1, 0, 1, 1], [5, 6, 0, 1, 10, 9]), ([1, 0, 0, 1, 1, 0, 0, 1, 0, 1, 1], [10, 9, 5, 0, 1]), ([0, 1, 1, 0, 0, 1, 0, 1, 1], [10, 9, 5, 0, 1]), ([1, 1, 1, 0, 0, 1, 0, 1, 1], [10, 9, 5, 0, 1]), ([1, 0, 1, 1], [5]), ([0, 1, 1, 1], [4]), ([1, 1, 1, 1], [4])]

noncomputable def E_19 (N : Nat) : Env := mkEnv tys glob [] [(5, (.int .u8))] [] [] false [] [(86, hmac_framed1_itr N)]

theorem Eok_19 (N : Nat) : EnvOk Tryd.prog (E_19 N) := mkEnv_ok mixed tys_ok (FnsOk.nil) (ItsOk.cons (hmac_framed1_it N) (ItsOk.nil))

noncomputable def sha_bigEndian_s1 (N : Nat) (n : Int) (size : Int) (x9 : Int) (out : (List Int)) (x10 : Int) (rec : (List Int) → Int → Option (List UInt8)) (k0 : (List Int) → Option (List UInt8)) : Option (List UInt8) :=
  cond (decide (x10 < x9))
  (cond (decide ((0 : Int) ≤ (IntKind.wrap IntKind.i64 ((8 : Int) * (IntKind.wrap IntKind.i64 ((IntKind.wrap IntKind.i64 (size - (1 : Int))) - x10))))))
    (cond (inR x10 (List.length out))
      (cond (decide ((Int.toNat x10) < (List.length out)))
        (rec (List.set out (Int.toNat x10) (IntKind.wrap IntKind.u8 (shrI IntKind.u64 n (IntKind.wrap IntKind.i64 ((8 : Int) * (IntKind.wrap IntKind.i64 ((IntKind.wrap IntKind.i64 (size - (1 : Int))) - x10))))))) (IntKind.wrap IntKind.i64 (x10 + (1 : Int))))
        (none))
      (none))
    (none))
  (k0 out)

noncomputable def sha_bigEndian_p1 (N : Nat) (n : Int) (size : Int) (out : (List Int)) (x9 : Int) (x10 : Int) (k0 : (List Int) → Option (List UInt8)) : Option (List UInt8) :=
  iter (fun (v : ((List Int) × Int)) r => sha_bigEndian_s1 N n size x9 v.1 v.2 (fun out x10 => (r (out, x10))) k0) N (out, x10)

noncomputable def g1_19 (N : Nat) (i : (Int × Int × Int)) (v : ((List Int) × Int)) (r : ((List Int) × Int) → Option (List UInt8)) (K : Ex → List A → Option (List UInt8)) : Option (List UInt8) :=
  sha_bigEndian_s1 N i.1 i.2.1 i.2.2 v.1 v.2 (fun out x10 => (r (out, x10))) (fun a0 => (K (.exit 0) (mkS [(5, .row (.int .u8))] 21 (a0, ()))))

noncomputable def h1_19 (N : Nat) : Hd (List UInt8) := fun st K => (unS [(0, .v (.int .u64)), (0, .v (.int .i64)), (3, .row (.int .u8)), (3, .v (.int .i64)), (0, .v (.int .i64))] 16 (restr [10, 9, 5, 0, 1] 0 st)).bind fun x => iter (fun v r => g1_19 N ((fun x => (x.1, x.2.1, x.2.2.2.1)) x) v r K) N ((fun x => (x.2.2.1, x.2.2.2.2.1)) x)

noncomputable def t1_19 (N : Nat) : Tab (List UInt8) := []

theorem ok1_19 {N : Nat} {c : Ctx} (hb : Base Tryd.prog (E_19 N) c) : CodeOk Tryd.prog c (nodeAt body_19 [0, 1, 0, 1, 1]) (h1_19 N) :=
  loop_ok (s := [(0, .v (.int .u64)), (0, .v (.int .i64)), (3, .row (.int .u8)), (3, .v (.int .i64)), (0, .v (.int .i64))]) (m := 16) (g1_19 N) [10, 9, 5, 0, 1] N (fun x => (x.1, x.2.1, x.2.2.2.1)) (fun x => (x.2.2.1, x.2.2.2.2.1)) (fun i v => (i.1, i.2.1, v.1, i.2.2, v.2, ())) (fun _ => rfl) (evN_sound hb N (t1_19 N) L_19 body_19 TabOk.nil [0, 0, 1, 0, 1, 1] _ rfl) (fun i v r K => by kernel_rfl)

noncomputable def sha_bigEndian (N : Nat) (n : Int) (size : Int) : Option (List UInt8) :=
  cond (decide (((0 : Int) ≤ size) ∧ ((size ≤ size) ∧ (((size * (1 : Int)) ≤ (281474976710656 : Int)) ∧ (size ≤ (9223372036854775807 : Int))))))
  (sha_bigEndian_p1 N n size (List.replicate (Int.toNat size) (0 : Int)) size (0 : Int)
    (fun out => some (toStr out)))
  (none)

noncomputable def t_19 (N : Nat) : Tab (List UInt8) := [([0, 1, 0, 1, 1], h1_19 N)]

theorem link_19 (N : Nat) (x : denS [(0, .v (.int .u64)), (0, .v (.int .i64))]) : evFX (E_19 N) N (t_19 N) L_19 Tryd.f102 (mkS [(0, .v (.int .u64)), (0, .v (.int .i64))] 0 x) (kRes (.v .str) 2) = sha_bigEndian N x.1 x.2.1 := by kernel_rfl

noncomputable def sha_bigEndian_res (N : Nat) : List A → Res := resOf [(0, .v (.int .u64)), (0, .v (.int .i64))] (fun x => sha_bigEndian N x.1 x.2.1) (oRes (.v .str) 2)

theorem sha_bigEndian_ct (N : Nat) : Contract Tryd.prog glob 102 (sha_bigEndian_res N) :=
  Contract.of (E := E_19 N) (H := t_19 N) (L := L_19) (N := N) (body := body_19) (K := (kRes (.v .str) 2)) (Eok_19 N) Tryd.func102 (by kernel_rfl) (by decide) (fun _ hb => (TabOk.cons (ok1_19 hb) TabOk.nil)) (fun x y h => by rw [link_19]; exact h) (kRes_ok (s := (.v .str)) (m := 2))

noncomputable def body_20 : Code := (Tryd.f96.body).getD .skip

noncomputable def L_20 : List (List Nat × List Nat) := [([0], [0]), ([0, 1], [3, 0]), ([0, 1, 1], [2]), ([1, 1, 1], [2])]

noncomputable def E_20 (N : Nat) : Env := mkEnv tys glob [(102, sha_bigEndian_res N), (67, octet_Pad_res N)] [] [] [] false [] [(86, hmac_framed1_itr N)]

theorem Eok_20 (N : Nat) : EnvOk Tryd.prog (E_20 N) := mkEnv_ok mixed tys_ok (FnsOk.cons (sha_bigEndian_ct N) (FnsOk.cons (octet_Pad_ct N) (FnsOk.nil))) (ItsOk.cons (hmac_framed1_it N) (ItsOk.nil))

noncomputable def sha_tail (N : Nat) (n : Int) : Option (List UInt8) :=
  (octet_Pad N ([(128 : UInt8)] : List UInt8) (IntKind.wrap IntKind.i64 ((1 : Int) + (Int.tmod (IntKind.wrap IntKind.i64 ((119 : Int) - (Int.tmod n (64 : Int)))) (64 : Int))))).bind fun y =>
  (sha_bigEndian N (IntKind.wrap IntKind.u64 ((8 : Int) * (IntKind.wrap IntKind.u64 n))) (8 : Int)).bind fun y1 =>
  cond (decide (((List.length y) + (List.length y1)) ≤ 9223372036854775807))
  (some (y ++ y1))
  (none)

noncomputable def t_20 (N : Nat) : Tab (List UInt8) := []

theorem link_20 (N : Nat) (x : denS [(0, .v (.int .i64))]) : evFX (E_20 N) N (t_20 N) L_20 Tryd.f96 (mkS [(0, .v (.int .i64))] 0 x) (kRes (.v .str) 1) = sha_tail N x.1 := by kernel_rfl

noncomputable def sha_tail_res (N : Nat) : List A → Res := resOf [(0, .v (.int .i64))] (fun x => sha_tail N x.1) (oRes (.v .str) 1)

theorem sha_tail_ct (N : Nat) : Contract Tryd.prog glob 96 (sha_tail_res N) :=
  Contract.of (E := E_20 N) (H := t_20 N) (L := L_20) (N := N) (body := body_20) (K := (kRes (.v .str) 1)) (Eok_20 N) Tryd.func96 (by kernel_rfl) (by decide) (fun _ hb => TabOk.nil) (fun x y h => by rw [link_20]; exact h) (kRes_ok (s := (.v .str)) (m := 1))

noncomputable def body_21 : Code := (Tryd.f95.body).getD .skip

noncomputable def L_21 : List (List Nat × List Nat) := [([0], [1]), ([0, 1], [1, 3]), ([0, 0, 1, 1], [7, 6, 3]), ([0, 1, 0, 1, 1], [7, 6, 3]), ([0, 0, 0, 1, 0, 1, 1], [8, 6, 7, 3]), ([0, 1, 0, 0, 1, 0, 1, 1], [6, 7, 3]), ([1, 0, 1, 0, 0, 1, 0, 1, 1], [3]), ([0, 0, 0, 1, 1, 0, 0, 1, 0, 1, 1], [3, 5, 7, 6]), ([1, 0, 0, 1, 1, 0, 0, 1, 0, 1, 1], [7, 6, 3]), ([0, 1, 1, 0, 0, 1, 0, 1, 1], [7, 6, 3]), ([1, 1, 1, 0, 0, 1, 0, 1, 1], [7, 6, 3]), ([1, 0, 1, 1], [3]), ([0, 1, 1, 1], [2]), ([1, 1, 1, 1], [2])]

noncomputable def E_21 (N : Nat) : Env := mkEnv tys glob [(102, sha_bigEndian_res N)] [] [] [] false [] [(86, hmac_framed1_itr N)]

theorem Eok_21 (N : Nat) : EnvOk Tryd.prog (E_21 N) := mkEnv_ok mixed tys_ok (FnsOk.cons (sha_bigEndian_ct N) (FnsOk.nil)) (ItsOk.cons (hmac_framed1_it N) (ItsOk.nil))

noncomputable def sha_Tell_s1 (N : Nat) (x6 : (List Int)) (out : (List UInt8)) (x7 : Int) (rec : (List UInt8) → Int → Option (List UInt8)) (k0 : (List UInt8) → Option (List UInt8)) : Option (List UInt8) :=
  cond (decide (x7 < (8 : Int)))
  (cond (inR x7 8)
    ((sha_bigEndian N (IntKind.wrap IntKind.u64 (List.getD x6 (Int.toNat x7) (0 : Int))) (4 : Int)).bind fun y =>
      cond (decide (((List.length out) + (List.length y)) ≤ 9223372036854775807))
      (rec (out ++ y) (IntKind.wrap IntKind.i64 (x7 + (1 : Int))))
      (none))
    (none))
  (k0 out)

noncomputable def sha_Tell_p1 (N : Nat) (out : (List UInt8)) (x6 : (List Int)) (x7 : Int) (k0 : (List UInt8) → Option (List UInt8)) : Option (List UInt8) :=
  iter (fun (v : ((List UInt8) × Int)) r => sha_Tell_s1 N x6 v.1 v.2 (fun out x7 => (r (out, x7))) k0) N (out, x7)

noncomputable def g1_21 (N : Nat) (i : (List Int)) (v : ((List UInt8) × Int)) (r : ((List UInt8) × Int) → Option (List UInt8)) (K : Ex → List A → Option (List UInt8)) : Option (List UInt8) :=
  sha_Tell_s1 N i v.1 v.2 (fun out x7 => (r (out, x7))) (fun a0 => (K (.exit 0) (mkS [(3, .v .str)] 13 (a0, ()))))

noncomputable def h1_21 (N : Nat) : Hd (List UInt8) := fun st K => (unS [(3, .v .str), (2, .v (.arr 8 (.int .u32))), (0, .v (.int .i64))] 9 (restr [7, 6, 3] 0 st)).bind fun x => iter (fun v r => g1_21 N ((fun x => x.2.1) x) v r K) N ((fun x => (x.1, x.2.2.1)) x)

noncomputable def t1_21 (N : Nat) : Tab (List UInt8) := []

theorem ok1_21 {N : Nat} {c : Ctx} (hb : Base Tryd.prog (E_21 N) c) : CodeOk Tryd.prog c (nodeAt body_21 [0, 1, 0, 1, 1]) (h1_21 N) :=
  loop_ok (s := [(3, .v .str), (2, .v (.arr 8 (.int .u32))), (0, .v (.int .i64))]) (m := 9) (g1_21 N) [7, 6, 3] N (fun x => x.2.1) (fun x => (x.1, x.2.2.1)) (fun i v => (v.1, i, v.2, ())) (fun _ => rfl) (evN_sound hb N (t1_21 N) L_21 body_21 TabOk.nil [0, 0, 1, 0, 1, 1] _ rfl) (fun i v r K => by kernel_rfl)

noncomputable def sha_Tell (N : Nat) (h : (List Int)) : Option (List UInt8) :=
  sha_Tell_p1 N ([] : List UInt8) h (0 : Int)
  (fun out => some out)

noncomputable def t_21 (N : Nat) : Tab (List UInt8) := [([0, 1, 0, 1, 1], h1_21 N)]

theorem link_21 (N : Nat) (x : denS [(0, .v (.arr 8 (.int .u32)))]) : evFX (E_21 N) N (t_21 N) L_21 Tryd.f95 (mkS [(0, .v (.arr 8 (.int .u32)))] 0 x) (kRes (.v .str) 1) = sha_Tell N x.1 := by kernel_rfl

noncomputable def sha_Tell_res (N : Nat) : List A → Res := resOf [(0, .v (.arr 8 (.int .u32)))] (fun x => sha_Tell N x.1) (oRes (.v .str) 1)

theorem sha_Tell_ct (N : Nat) : Contract Tryd.prog glob 95 (sha_Tell_res N) :=
  Contract.of (E := E_21 N) (H := t_21 N) (L := L_21) (N := N) (body := body_21) (K := (kRes (.v .str) 1)) (Eok_21 N) Tryd.func95 (by kernel_rfl) (by decide) (fun _ hb => (TabOk.cons (ok1_21 hb) TabOk.nil)) (fun x y h => by rw [link_21]; exact h) (kRes_ok (s := (.v .str)) (m := 1))

noncomputable def body_22 : Code := (Tryd.f84.body).getD .skip

noncomputable def L_22 : List (List Nat × List Nat) := [([0], [0]), ([0, 0, 1], [11, 0]), ([1, 0, 1], [0]), ([0, 0, 1, 0, 1], [2, 0]), ([1, 0, 1, 0, 1], [2, 0]), ([0, 1, 1], [2, 0]), ([1, 1, 1], [2, 0])]

noncomputable def E_22 (N : Nat) : Env := mkEnv tys glob [(95, sha_Tell_res N), (96, sha_tail_res N), (94, sha_steps_res N)] [] [] [0] false [] [(86, hmac_framed1_itr N)]

theorem Eok_22 (N : Nat) : EnvOk Tryd.prog (E_22 N) := mkEnv_ok mixed tys_ok (FnsOk.cons (sha_Tell_ct N) (FnsOk.cons (sha_tail_ct N) (FnsOk.cons (sha_steps_ct N) (FnsOk.nil)))) (ItsOk.cons (hmac_framed1_it N) (ItsOk.nil))

noncomputable def sha_Hash_Sum1_p2 (N : Nat) (h : DT3) (k0 : Bool → Option DT9) : Option DT9 :=
  k0 (!h.1)

noncomputable def g2_22 (N : Nat) (x : denS [(0, .box TT2)]) (K : Ex → List A → Option DT9) : Option DT9 :=
  sha_Hash_Sum1_p2 N x.1 (fun a1 => (K .normal (mkS [(0, .box TT2), (10, .v .bool)] 17 (x.1, a1, ()))))

noncomputable def h2_22 (N : Nat) : Hd DT9 := fun st K => (unS [(0, .box TT2)] 28 (restr [0] 0 st)).bind fun x => g2_22 N x K

noncomputable def t2_22 (N : Nat) : Tab DT9 := []

theorem ok2_22 {N : Nat} {c : Ctx} (hb : Base Tryd.prog (E_22 N) c) : CodeOk Tryd.prog c (nodeAt body_22 [0, 0, 1]) (h2_22 N) :=
  piece_ok (s := [(0, .box TT2)]) (m := 28) (g := g2_22 N) [0] (evN_sound hb N (t2_22 N) L_22 body_22 TabOk.nil [0, 0, 1] _ rfl) (fun x K => by kernel_rfl)

noncomputable def sha_Hash_Sum1_p1 (N : Nat) (h : DT3) (k0 : Option DT9) : Option DT9 :=
  sha_Hash_Sum1_p2 N h
  (fun x11 => cond x11
    (none)
    (k0))

noncomputable def g1_22 (N : Nat) (x : denS [(0, .box TT2)]) (K : Ex → List A → Option DT9) : Option DT9 :=
  sha_Hash_Sum1_p1 N x.1 (K .normal (mkS [(0, .box TT2)] 28 (x.1, ())))

noncomputable def h1_22 (N : Nat) : Hd DT9 := fun st K => (unS [(0, .box TT2)] 28 (restr [0] 0 st)).bind fun x => g1_22 N x K

noncomputable def t1_22 (N : Nat) : Tab DT9 := [([0, 0, 1], h2_22 N)]

theorem ok1_22 {N : Nat} {c : Ctx} (hb : Base Tryd.prog (E_22 N) c) : CodeOk Tryd.prog c (nodeAt body_22 [0, 1]) (h1_22 N) :=
  piece_ok (s := [(0, .box TT2)]) (m := 28) (g := g1_22 N) [0] (evN_sound hb N (t1_22 N) L_22 body_22 (TabOk.cons (ok2_22 hb) TabOk.nil) [0, 1] _ rfl) (fun x K => by kernel_rfl)

noncomputable def sha_Hash_Sum1 (N : Nat) (h : DT3) : Option DT9 :=
  sha_Hash_Sum1_p1 N h
  ((sha_tail N h.2.2.2.1).bind fun y =>
    cond (decide (((List.length h.2.2.1) + (List.length y)) ≤ 9223372036854775807))
    ((sha_steps N h.2.1 (h.2.2.1 ++ y)).bind fun y1 =>
      (sha_Tell N y1).bind fun y2 =>
      some (y2, (h, ())))
    (none))

noncomputable def t_22 (N : Nat) : Tab DT9 := [([0, 1], h1_22 N)]

theorem link_22 (N : Nat) (x : denS [(0, .box TT2)]) : evFX (E_22 N) N (t_22 N) L_22 Tryd.f84 (mkS [(0, .box TT2)] 0 x) (kResB (.v .str) [(0, .box TT2)] 0) = sha_Hash_Sum1 N x.1 := by kernel_rfl

noncomputable def sha_Hash_Sum1_res (N : Nat) : List A → Res := resOf [(0, .box TT2)] (fun x => sha_Hash_Sum1 N x.1) (oResB (.v .str) [(0, .box TT2)] 0)

theorem sha_Hash_Sum1_ct (N : Nat) : Contract Tryd.prog glob 84 (sha_Hash_Sum1_res N) :=
  Contract.of (E := E_22 N) (H := t_22 N) (L := L_22) (N := N) (body := body_22) (K := (kResB (.v .str) [(0, .box TT2)] 0)) (Eok_22 N) Tryd.func84 (by kernel_rfl) (by decide) (fun _ hb => (TabOk.cons (ok1_22 hb) TabOk.nil)) (fun x y h => by rw [link_22]; exact h) (kResB_ok (s := (.v .str)) (os := [(0, .box TT2)]) (m := 0))

noncomputable def body_23 : Code := (Tryd.f66.body).getD .skip

noncomputable def L_23 : List (List Nat × List Nat) := [([0], [0]), ([0, 1], [3, 0]), ([0, 1, 1], [3]), ([0, 1, 1, 1], [2]), ([1, 1, 1, 1], [2])]

noncomputable def E_23 (N : Nat) : Env := mkEnv tys glob [(84, sha_Hash_Sum1_res N), (83, sha_Hash_Add_nil_all N), (82, sha_New_res N)] [] [] [] false [] [(86, hmac_framed1_itr N)]

theorem Eok_23 (N : Nat) : EnvOk Tryd.prog (E_23 N) := mkEnv_ok mixed tys_ok (FnsOk.cons (sha_Hash_Sum1_ct N) (FnsOk.cons (sha_Hash_Add_nil_allct N) (FnsOk.cons (sha_New_ct N) (FnsOk.nil)))) (ItsOk.cons (hmac_framed1_it N) (ItsOk.nil))

noncomputable def sha_Sum (N : Nat) (s : (List UInt8)) : Option (List UInt8) :=
  (sha_Hash_Add N (true, (([(1779033703 : Int), (3144134277 : Int), (1013904242 : Int), (2773480762 : Int), (1359893119 : Int), (2600822924 : Int), (528734635 : Int), (1541459225 : Int)] : List Int), (([] : List UInt8), ((0 : Int), ())))) s).bind fun y =>
  (sha_Hash_Sum1 N y.2.1).bind fun y1 =>
  some y1.1

noncomputable def t_23 (N : Nat) : Tab (List UInt8) := []

theorem link_23 (N : Nat) (x : denS [(0, .v .str)]) : evFX (E_23 N) N (t_23 N) L_23 Tryd.f66 (mkS [(0, .v .str)] 0 x) (kRes (.v .str) 1) = sha_Sum N x.1 := by kernel_rfl

noncomputable def sha_Sum_res (N : Nat) : List A → Res := resOf [(0, .v .str)] (fun x => sha_Sum N x.1) (oRes (.v .str) 1)

theorem sha_Sum_ct (N : Nat) : Contract Tryd.prog glob 66 (sha_Sum_res N) :=
  Contract.of (E := E_23 N) (H := t_23 N) (L := L_23) (N := N) (body := body_23) (K := (kRes (.v .str) 1)) (Eok_23 N) Tryd.func66 (by kernel_rfl) (by decide) (fun _ hb => TabOk.nil) (fun x y h => by rw [link_23]; exact h) (kRes_ok (s := (.v .str)) (m := 1))

noncomputable def body_24 : Code := (Tryd.f84.body).getD .skip

noncomputable def L_24 : List (List Nat × List Nat) := [([0], [0]), ([0, 0, 1], [11, 0]), ([1, 0, 1], [0]), ([0, 0, 1, 0, 1], [2, 0]), ([1, 0, 1, 0, 1], [2, 0]), ([0, 1, 1], [2, 0]), ([1, 1, 1], [2, 0])]

noncomputable def E_24 (N : Nat) : Env := mkEnv tys glob [(66, sha_Sum_res N), (95, sha_Tell_res N), (96, sha_tail_res N), (94, sha_steps_res N)] [] [] [0] false [] [(86, hmac_framed1_itr N)]

theorem Eok_24 (N : Nat) : EnvOk Tryd.prog (E_24 N) := mkEnv_ok mixed tys_ok (FnsOk.cons (sha_Sum_ct N) (FnsOk.cons (sha_Tell_ct N) (FnsOk.cons (sha_tail_ct N) (FnsOk.cons (sha_steps_ct N) (FnsOk.nil))))) (ItsOk.cons (hmac_framed1_it N) (ItsOk.nil))

noncomputable def sha_Hash_Sum_p2 (N : Nat) (h : DT3) (k0 : Bool → Option DT9) : Option DT9 :=
  k0 (!h.1)

noncomputable def g2_24 (N : Nat) (x : denS [(0, .box TT2)]) (K : Ex → List A → Option DT9) : Option DT9 :=
  sha_Hash_Sum_p2 N x.1 (fun a1 => (K .normal (mkS [(0, .box TT2), (10, .v .bool)] 17 (x.1, a1, ()))))

noncomputable def h2_24 (N : Nat) : Hd DT9 := fun st K => (unS [(0, .box TT2)] 28 (restr [0] 0 st)).bind fun x => g2_24 N x K

noncomputable def t2_24 (N : Nat) : Tab DT9 := []

theorem ok2_24 {N : Nat} {c : Ctx} (hb : Base Tryd.prog (E_24 N) c) : CodeOk Tryd.prog c (nodeAt body_24 [0, 0, 1]) (h2_24 N) :=
  piece_ok (s := [(0, .box TT2)]) (m := 28) (g := g2_24 N) [0] (evN_sound hb N (t2_24 N) L_24 body_24 TabOk.nil [0, 0, 1] _ rfl) (fun x K => by kernel_rfl)

noncomputable def sha_Hash_Sum_p1 (N : Nat) (h : DT3) (k0 : (List UInt8) → Option DT9) (k1 : Option DT9) : Option DT9 :=
  sha_Hash_Sum_p2 N h
  (fun x11 => cond x11
    ((sha_Sum N ([] : List UInt8)).bind fun y =>
      k0 y)
    (k1))

noncomputable def g1_24 (N : Nat) (x : denS [(0, .box TT2)]) (K : Ex → List A → Option DT9) : Option DT9 :=
  sha_Hash_Sum_p1 N x.1 (fun a1 => (K .ret (mkS [(0, .box TT2), (1, .v .str)] 26 (x.1, a1, ())))) (K .normal (mkS [(0, .box TT2)] 28 (x.1, ())))

noncomputable def h1_24 (N : Nat) : Hd DT9 := fun st K => (unS [(0, .box TT2)] 28 (restr [0] 0 st)).bind fun x => g1_24 N x K

noncomputable def t1_24 (N : Nat) : Tab DT9 := [([0, 0, 1], h2_24 N)]

theorem ok1_24 {N : Nat} {c : Ctx} (hb : Base Tryd.prog (E_24 N) c) : CodeOk Tryd.prog c (nodeAt body_24 [0, 1]) (h1_24 N) :=
  piece_ok (s := [(0, .box TT2)]) (m := 28) (g := g1_24 N) [0] (evN_sound hb N (t1_24 N) L_24 body_24 (TabOk.cons (ok2_24 hb) TabOk.nil) [0, 1] _ rfl) (fun x K => by kernel_rfl)

noncomputable def sha_Hash_Sum (N : Nat) (h : DT3) : Option DT9 :=
  sha_Hash_Sum_p1 N h
  (fun x2 => some (x2, (h, ())))
  ((sha_tail N h.2.2.2.1).bind fun y =>
    cond (decide (((List.length h.2.2.1) + (List.length y)) ≤ 9223372036854775807))
    ((sha_steps N h.2.1 (h.2.2.1 ++ y)).bind fun y1 =>
      (sha_Tell N y1).bind fun y2 =>
      some (y2, (h, ())))
    (none))

noncomputable def t_24 (N : Nat) : Tab DT9 := [([0, 1], h1_24 N)]

theorem link_24 (N : Nat) (x : denS [(0, .box TT2)]) : evFX (E_24 N) N (t_24 N) L_24 Tryd.f84 (mkS [(0, .box TT2)] 0 x) (kResB (.v .str) [(0, .box TT2)] 0) = sha_Hash_Sum N x.1 := by kernel_rfl

noncomputable def sha_Hash_Sum_res (N : Nat) : List A → Res := resOf [(0, .box TT2)] (fun x => sha_Hash_Sum N x.1) (oResB (.v .str) [(0, .box TT2)] 0)

theorem sha_Hash_Sum_ct (N : Nat) : Contract Tryd.prog glob 84 (sha_Hash_Sum_res N) :=
  Contract.of (E := E_24 N) (H := t_24 N) (L := L_24) (N := N) (body := body_24) (K := (kResB (.v .str) [(0, .box TT2)] 0)) (Eok_24 N) Tryd.func84 (by kernel_rfl) (by decide) (fun _ hb => (TabOk.cons (ok1_24 hb) TabOk.nil)) (fun x y h => by rw [link_24]; exact h) (kResB_ok (s := (.v .str)) (os := [(0, .box TT2)]) (m := 0))

noncomputable def sha_Hash_Sum_all (N : Nat) : List A → Res := resAlt [(0, .box TT2)] (fun x => sha_Hash_Sum N x.1) (oResB (.v .str) [(0, .box TT2)] 0) (sha_Hash_Sum1_res N)

theorem sha_Hash_Sum_allct (N : Nat) : Contract Tryd.prog glob 84 (sha_Hash_Sum_all N) := Contract.alt (sha_Hash_Sum_ct N) (sha_Hash_Sum1_ct N)

noncomputable def body_25 : Code := (Tryd.f84.body).getD .skip

noncomputable def L_25 : List (List Nat × List Nat) := [([0], [0]), ([0, 0, 1], [11, 0]), ([1, 0, 1], [0]), ([0, 0, 1, 0, 1], [2]), ([1, 0, 1, 0, 1], [2]), ([0, 1, 1], [2]), ([1, 1, 1], [2])]

noncomputable def E_25 (N : Nat) : Env := mkEnv tys glob [(66, sha_Sum_res N), (95, sha_Tell_res N), (96, sha_tail_res N), (94, sha_steps_res N)] [] [] [] false [] [(86, hmac_framed1_itr N)]

theorem Eok_25 (N : Nat) : EnvOk Tryd.prog (E_25 N) := mkEnv_ok mixed tys_ok (FnsOk.cons (sha_Sum_ct N) (FnsOk.cons (sha_Tell_ct N) (FnsOk.cons (sha_tail_ct N) (FnsOk.cons (sha_steps_ct N) (FnsOk.nil))))) (ItsOk.cons (hmac_framed1_it N) (ItsOk.nil))

noncomputable def sha_Hash_Sum_nil_p2 (N : Nat) (k0 : Bool → Option (List UInt8)) : Option (List UInt8) :=
  k0 true

noncomputable def g2_25 (N : Nat) (x : denS [(0, .nilp)]) (K : Ex → List A → Option (List UInt8)) : Option (List UInt8) :=
  sha_Hash_Sum_nil_p2 N (fun a0 => (K .normal (mkS [(0, .nilp), (10, .v .bool)] 17 ((), a0, ()))))

noncomputable def h2_25 (N : Nat) : Hd (List UInt8) := fun st K => (unS [(0, .nilp)] 28 (restr [0] 0 st)).bind fun x => g2_25 N x K

noncomputable def t2_25 (N : Nat) : Tab (List UInt8) := []

theorem ok2_25 {N : Nat} {c : Ctx} (hb : Base Tryd.prog (E_25 N) c) : CodeOk Tryd.prog c (nodeAt body_25 [0, 0, 1]) (h2_25 N) :=
  piece_ok (s := [(0, .nilp)]) (m := 28) (g := g2_25 N) [0] (evN_sound hb N (t2_25 N) L_25 body_25 TabOk.nil [0, 0, 1] _ rfl) (fun x K => by kernel_rfl)

noncomputable def sha_Hash_Sum_nil_p1 (N : Nat) (k0 : (List UInt8) → Option (List UInt8)) (k1 : Option (List UInt8)) : Option (List UInt8) :=
  sha_Hash_Sum_nil_p2 N
  (fun x11 => cond x11
    ((sha_Sum N ([] : List UInt8)).bind fun y =>
      k0 y)
    (k1))

noncomputable def g1_25 (N : Nat) (x : denS [(0, .nilp)]) (K : Ex → List A → Option (List UInt8)) : Option (List UInt8) :=
  sha_Hash_Sum_nil_p1 N (fun a0 => (K .ret (mkS [(2, .v .str)] 26 (a0, ())))) (K .normal (mkS [(0, .nilp)] 28 ((), ())))

noncomputable def h1_25 (N : Nat) : Hd (List UInt8) := fun st K => (unS [(0, .nilp)] 28 (restr [0] 0 st)).bind fun x => g1_25 N x K

noncomputable def t1_25 (N : Nat) : Tab (List UInt8) := [([0, 0, 1], h2_25 N)]

theorem ok1_25 {N : Nat} {c : Ctx} (hb : Base Tryd.prog (E_25 N) c) : CodeOk Tryd.prog c (nodeAt body_25 [0, 1]) (h1_25 N) :=
  piece_ok (s := [(0, .nilp)]) (m := 28) (g := g1_25 N) [0] (evN_sound hb N (t1_25 N) L_25 body_25 (TabOk.cons (ok2_25 hb) TabOk.nil) [0, 1] _ rfl) (fun x K => by kernel_rfl)

noncomputable def sha_Hash_Sum_nil (N : Nat) : Option (List UInt8) :=
  sha_Hash_Sum_nil_p1 N
  (fun x2 => some x2)
  (none)

noncomputable def t_25 (N : Nat) : Tab (List UInt8) := [([0, 1], h1_25 N)]

theorem link_25 (N : Nat) (x : denS [(0, .nilp)]) : evFX (E_25 N) N (t_25 N) L_25 Tryd.f84 (mkS [(0, .nilp)] 0 x) (kRes (.v .str) 1) = sha_Hash_Sum_nil N := by kernel_rfl

noncomputable def sha_Hash_Sum_nil_res (N : Nat) : List A → Res := resOf [(0, .nilp)] (fun x => sha_Hash_Sum_nil N) (oRes (.v .str) 1)

theorem sha_Hash_Sum_nil_ct (N : Nat) : Contract Tryd.prog glob 84 (sha_Hash_Sum_nil_res N) :=
  Contract.of (E := E_25 N) (H := t_25 N) (L := L_25) (N := N) (body := body_25) (K := (kRes (.v .str) 1)) (Eok_25 N) Tryd.func84 (by kernel_rfl) (by decide) (fun _ hb => (TabOk.cons (ok1_25 hb) TabOk.nil)) (fun x y h => by rw [link_25]; exact h) (kRes_ok (s := (.v .str)) (m := 1))

noncomputable def sha_Hash_Sum_nil_all (N : Nat) : List A → Res := resAlt [(0, .nilp)] (fun x => sha_Hash_Sum_nil N) (oRes (.v .str) 1) (sha_Hash_Sum_all N)

theorem sha_Hash_Sum_nil_allct (N : Nat) : Contract Tryd.prog glob 84 (sha_Hash_Sum_nil_all N) := Contract.alt (sha_Hash_Sum_nil_ct N) (sha_Hash_Sum_allct N)

noncomputable def body_34 : Code := (Tryd.f52.body).getD .skip

noncomputable def L_34 : List (List Nat × List Nat) := [([0], [0, 1]), ([0, 1], [5, 0, 1]), ([0, 0, 1, 1], [15, 14, 5, 0, 1]), ([0, 1, 0, 1, 1], [15, 14, 5, 0, 1]), ([0, 0, 0, 1, 0, 1, 1], [16, 15, 5, 0, 1, 14]), ([0, 1, 0, 0, 1, 0, 1, 1], [15, 5, 0, 1, 14]), ([1, 0, 1, 0, 0, 1, 0, 1, 1], [5]), ([0, 0, 0, 1, 1, 0, 0, 1, 0, 1, 1], [5, 6, 0, 1, 15, 14]), ([1, 0, 0, 1, 1, 0, 0, 1, 0, 1, 1], [15, 14, 5, 0, 1]), ([0, 1, 1, 0, 0, 1, 0, 1, 1], [15, 14, 5, 0, 1]), ([1, 1, 1, 0, 0, 1, 0, 1, 1], [15, 14, 5, 0, 1]), ([1, 0, 1, 1], [5]), ([0, 1, 1, 1], [4]), ([1, 1, 1, 1], [4])]

noncomputable def E_34 (N : Nat) : Env := mkEnv tys glob [] [(5, (.int .u8))] [] [] false [] [(86, hmac_framed1_itr N)]

theorem Eok_34 (N : Nat) : EnvOk Tryd.prog (E_34 N) := mkEnv_ok mixed tys_ok (FnsOk.nil) (ItsOk.cons (hmac_framed1_it N) (ItsOk.nil))

noncomputable def octet_Xor_s1 (N : Nat) (a : (List UInt8)) (b : (List UInt8)) (x14 : Int) (out : (List Int)) (x15 : Int) (rec : (List Int) → Int → Option (List UInt8)) (k0 : (List Int) → Option (List UInt8)) : Option (List UInt8) :=
  cond (decide (x15 < x14))
  (cond (inR x15 (List.length a))
    (cond (inR x15 (List.length b))
      (cond (inR x15 (List.length out))
        (cond (decide ((Int.toNat x15) < (List.length out)))
          (rec (List.set out (Int.toNat x15) (bitsOp Go.BinOp.xor IntKind.u8 (((UInt8.toNat (List.getD a (Int.toNat x15) (0 : UInt8))) : Nat) : Int) (((UInt8.toNat (List.getD b (Int.toNat x15) (0 : UInt8))) : Nat) : Int))) (IntKind.wrap IntKind.i64 (x15 + (1 : Int))))
          (none))
        (none))
      (none))
    (none))
  (k0 out)

noncomputable def octet_Xor_p1 (N : Nat) (a : (List UInt8)) (b : (List UInt8)) (out : (List Int)) (x14 : Int) (x15 : Int) (k0 : (List Int) → Option (List UInt8)) : Option (List UInt8) :=
  iter (fun (v : ((List Int) × Int)) r => octet_Xor_s1 N a b x14 v.1 v.2 (fun out x15 => (r (out, x15))) k0) N (out, x15)

noncomputable def g1_34 (N : Nat) (i : ((List UInt8) × (List UInt8) × Int)) (v : ((List Int) × Int)) (r : ((List Int) × Int) → Option (List UInt8)) (K : Ex → List A → Option (List UInt8)) : Option (List UInt8) :=
  octet_Xor_s1 N i.1 i.2.1 i.2.2 v.1 v.2 (fun out x15 => (r (out, x15))) (fun a0 => (K (.exit 0) (mkS [(5, .row (.int .u8))] 25 (a0, ()))))

noncomputable def h1_34 (N : Nat) : Hd (List UInt8) := fun st K => (unS [(0, .v .str), (0, .v .str), (3, .row (.int .u8)), (8, .v (.int .i64)), (0, .v (.int .i64))] 15 (restr [15, 14, 5, 0, 1] 0 st)).bind fun x => iter (fun v r => g1_34 N ((fun x => (x.1, x.2.1, x.2.2.2.1)) x) v r K) N ((fun x => (x.2.2.1, x.2.2.2.2.1)) x)

noncomputable def t1_34 (N : Nat) : Tab (List UInt8) := []

theorem ok1_34 {N : Nat} {c : Ctx} (hb : Base Tryd.prog (E_34 N) c) : CodeOk Tryd.prog c (nodeAt body_34 [0, 1, 0, 1, 1]) (h1_34 N) :=
  loop_ok (s := [(0, .v .str), (0, .v .str), (3, .row (.int .u8)), (8, .v (.int .i64)), (0, .v (.int .i64))]) (m := 15) (g1_34 N) [15, 14, 5, 0, 1] N (fun x => (x.1, x.2.1, x.2.2.2.1)) (fun x => (x.2.2.1, x.2.2.2.2.1)) (fun i v => (i.1, i.2.1, v.1, i.2.2, v.2, ())) (fun _ => rfl) (evN_sound hb N (t1_34 N) L_34 body_34 TabOk.nil [0, 0, 1, 0, 1, 1] _ rfl) (fun i v r K => by kernel_rfl)

noncomputable def octet_Xor (N : Nat) (a : (List UInt8)) (b : (List UInt8)) : Option (List UInt8) :=
  cond (decide (((0 : Int) ≤ (if ((((List.length b) : Nat) : Int) < (((List.length a) : Nat) : Int)) then (((List.length b) : Nat) : Int) else (((List.length a) : Nat) : Int))) ∧ (((if ((((List.length b) : Nat) : Int) < (((List.length a) : Nat) : Int)) then (((List.length b) : Nat) : Int) else (((List.length a) : Nat) : Int)) ≤ (if ((((List.length b) : Nat) : Int) < (((List.length a) : Nat) : Int)) then (((List.length b) : Nat) : Int) else (((List.length a) : Nat) : Int))) ∧ ((((if ((((List.length b) : Nat) : Int) < (((List.length a) : Nat) : Int)) then (((List.length b) : Nat) : Int) else (((List.length a) : Nat) : Int)) * (1 : Int)) ≤ (281474976710656 : Int)) ∧ ((if ((((List.length b) : Nat) : Int) < (((List.length a) : Nat) : Int)) then (((List.length b) : Nat) : Int) else (((List.length a) : Nat) : Int)) ≤ (9223372036854775807 : Int))))))
  (octet_Xor_p1 N a b (List.replicate (Int.toNat (if ((((List.length b) : Nat) : Int) < (((List.length a) : Nat) : Int)) then (((List.length b) : Nat) : Int) else (((List.length a) : Nat) : Int))) (0 : Int)) (((List.length (List.replicate (Int.toNat (if ((((List.length b) : Nat) : Int) < (((List.length a) : Nat) : Int)) then (((List.length b) : Nat) : Int) else (((List.length a) : Nat) : Int))) (0 : Int))) : Nat) : Int) (0 : Int)
    (fun out => some (toStr out)))
  (none)

noncomputable def t_34 (N : Nat) : Tab (List UInt8) := [([0, 1, 0, 1, 1], h1_34 N)]

theorem link_34 (N : Nat) (x : denS [(0, .v .str), (0, .v .str)]) : evFX (E_34 N) N (t_34 N) L_34 Tryd.f52 (mkS [(0, .v .str), (0, .v .str)] 0 x) (kRes (.v .str) 2) = octet_Xor N x.1 x.2.1 := by kernel_rfl

noncomputable def octet_Xor_res (N : Nat) : List A → Res := resOf [(0, .v .str), (0, .v .str)] (fun x => octet_Xor N x.1 x.2.1) (oRes (.v .str) 2)

theorem octet_Xor_ct (N : Nat) : Contract Tryd.prog glob 52 (octet_Xor_res N) :=
  Contract.of (E := E_34 N) (H := t_34 N) (L := L_34) (N := N) (body := body_34) (K := (kRes (.v .str) 2)) (Eok_34 N) Tryd.func52 (by kernel_rfl) (by decide) (fun _ hb => (TabOk.cons (ok1_34 hb) TabOk.nil)) (fun x y h => by rw [link_34]; exact h) (kRes_ok (s := (.v .str)) (m := 2))

noncomputable def body_35 : Code := (Tryd.f68.body).getD .skip

noncomputable def L_35 : List (List Nat × List Nat) := [([0], [0, 1, 2]), ([0, 1], [7, 0, 1, 2]), ([0, 1, 1], [7, 2]), ([0, 1, 1, 1], [7]), ([0, 1, 1, 1, 1], [6]), ([1, 1, 1, 1, 1], [6])]

noncomputable def E_35 (N : Nat) : Env := mkEnv tys glob [(52, octet_Xor_res N), (84, sha_Hash_Sum_nil_all N), (83, sha_Hash_Add_nil_all N), (82, sha_New_res N), (85, repeat_res)] [] [] [] false [] [(86, hmac_framed1_itr N)]

theorem Eok_35 (N : Nat) : EnvOk Tryd.prog (E_35 N) := mkEnv_ok mixed tys_ok (FnsOk.cons (octet_Xor_ct N) (FnsOk.cons (sha_Hash_Sum_nil_allct N) (FnsOk.cons (sha_Hash_Add_nil_allct N) (FnsOk.cons (sha_New_ct N) (FnsOk.cons (repeat_ct glob) (FnsOk.nil)))))) (ItsOk.cons (hmac_framed1_it N) (ItsOk.nil))

noncomputable def hmac_keyed (N : Nat) (key : (List UInt8)) (mask : (List UInt8)) (text : (List UInt8)) : Option (List UInt8) :=
  (repeat_F (mask, ((64 : Int), ()))).bind fun y =>
  (octet_Xor N key y).bind fun y1 =>
  (sha_Hash_Add N (true, (([(1779033703 : Int), (3144134277 : Int), (1013904242 : Int), (2773480762 : Int), (1359893119 : Int), (2600822924 : Int), (528734635 : Int), (1541459225 : Int)] : List Int), (([] : List UInt8), ((0 : Int), ())))) y1).bind fun y2 =>
  (sha_Hash_Add N y2.2.1 text).bind fun y3 =>
  (sha_Hash_Sum N y3.2.1).bind fun y4 =>
  some y4.1

noncomputable def t_35 (N : Nat) : Tab (List UInt8) := []

theorem link_35 (N : Nat) (x : denS [(0, .v .str), (0, .v .str), (0, .v .str)]) : evFX (E_35 N) N (t_35 N) L_35 Tryd.f68 (mkS [(0, .v .str), (0, .v .str), (0, .v .str)] 0 x) (kRes (.v .str) 3) = hmac_keyed N x.1 x.2.1 x.2.2.1 := by kernel_rfl

noncomputable def hmac_keyed_res (N : Nat) : List A → Res := resOf [(0, .v .str), (0, .v .str), (0, .v .str)] (fun x => hmac_keyed N x.1 x.2.1 x.2.2.1) (oRes (.v .str) 3)

theorem hmac_keyed_ct (N : Nat) : Contract Tryd.prog glob 68 (hmac_keyed_res N) :=
  Contract.of (E := E_35 N) (H := t_35 N) (L := L_35) (N := N) (body := body_35) (K := (kRes (.v .str) 3)) (Eok_35 N) Tryd.func68 (by kernel_rfl) (by decide) (fun _ hb => TabOk.nil) (fun x y h => by rw [link_35]; exact h) (kRes_ok (s := (.v .str)) (m := 3))

noncomputable def body_36 : Code := (Tryd.f55.body).getD .skip

noncomputable def L_36 : List (List Nat × List Nat) := [([0], [0, 1]), ([0, 0, 1], [8, 0, 1]), ([1, 0, 1], [0, 1]), ([0, 1, 0, 1], [0, 1]), ([0, 1, 1], [0, 1]), ([0, 1, 1, 1], [0, 5]), ([0, 1, 1, 1, 1], [4]), ([1, 1, 1, 1, 1], [4])]

noncomputable def E_36 (N : Nat) : Env := mkEnv tys glob [(68, hmac_keyed_res N), (66, sha_Sum_res N), (67, octet_Pad_res N)] [] [] [] false [] [(86, hmac_framed1_itr N)]

theorem Eok_36 (N : Nat) : EnvOk Tryd.prog (E_36 N) := mkEnv_ok mixed tys_ok (FnsOk.cons (hmac_keyed_ct N) (FnsOk.cons (sha_Sum_ct N) (FnsOk.cons (octet_Pad_ct N) (FnsOk.nil)))) (ItsOk.cons (hmac_framed1_it N) (ItsOk.nil))

noncomputable def hmac_Sum_p1 (N : Nat) (key : (List UInt8)) (text : (List UInt8)) (k0 : (List UInt8) → Option (List UInt8)) : Option (List UInt8) :=
  cond (decide ((64 : Int) < (((List.length key) : Nat) : Int)))
  ((sha_Sum N key).bind fun y =>
    k0 y)
  (k0 key)

noncomputable def g1_36 (N : Nat) (x : denS [(0, .v .str), (0, .v .str)]) (K : Ex → List A → Option (List UInt8)) : Option (List UInt8) :=
  hmac_Sum_p1 N x.1 x.2.1 (fun a0 => (K .normal (mkS [(0, .v .str), (0, .v .str)] 17 (a0, x.2.1, ()))))

noncomputable def h1_36 (N : Nat) : Hd (List UInt8) := fun st K => (unS [(0, .v .str), (0, .v .str)] 17 (restr [0, 1] 0 st)).bind fun x => g1_36 N x K

noncomputable def t1_36 (N : Nat) : Tab (List UInt8) := []

theorem ok1_36 {N : Nat} {c : Ctx} (hb : Base Tryd.prog (E_36 N) c) : CodeOk Tryd.prog c (nodeAt body_36 [0, 1]) (h1_36 N) :=
  piece_ok (s := [(0, .v .str), (0, .v .str)]) (m := 17) (g := g1_36 N) [0, 1] (evN_sound hb N (t1_36 N) L_36 body_36 TabOk.nil [0, 1] _ rfl) (fun x K => by kernel_rfl)

noncomputable def hmac_Sum (N : Nat) (key : (List UInt8)) (text : (List UInt8)) : Option (List UInt8) :=
  hmac_Sum_p1 N key text
  (fun key1 => (octet_Pad N key1 (64 : Int)).bind fun y =>
    (hmac_keyed N y ([(54 : UInt8)] : List UInt8) text).bind fun y1 =>
    (hmac_keyed N y ([(92 : UInt8)] : List UInt8) y1).bind fun y2 =>
    some y2)

noncomputable def t_36 (N : Nat) : Tab (List UInt8) := [([0, 1], h1_36 N)]

theorem link_36 (N : Nat) (x : denS [(0, .v .str), (0, .v .str)]) : evFX (E_36 N) N (t_36 N) L_36 Tryd.f55 (mkS [(0, .v .str), (0, .v .str)] 0 x) (kRes (.v .str) 2) = hmac_Sum N x.1 x.2.1 := by kernel_rfl

noncomputable def hmac_Sum_res (N : Nat) : List A → Res := resOf [(0, .v .str), (0, .v .str)] (fun x => hmac_Sum N x.1 x.2.1) (oRes (.v .str) 2)

theorem hmac_Sum_ct (N : Nat) : Contract Tryd.prog glob 55 (hmac_Sum_res N) :=
  Contract.of (E := E_36 N) (H := t_36 N) (L := L_36) (N := N) (body := body_36) (K := (kRes (.v .str) 2)) (Eok_36 N) Tryd.func55 (by kernel_rfl) (by decide) (fun _ hb => (TabOk.cons (ok1_36 hb) TabOk.nil)) (fun x y h => by rw [link_36]; exact h) (kRes_ok (s := (.v .str)) (m := 2))

noncomputable def body_37 : Code := (Tryd.f43.body).getD .skip

noncomputable def L_37 : List (List Nat × List Nat) := [([0], [0, 1]), ([0, 1], [4]), ([1, 1], [4])]

noncomputable def E_37 (N : Nat) : Env := mkEnv tys glob [(55, hmac_Sum_res N), (56, hmac_Frame_res N)] [] [] [] false [] [(86, hmac_framed1_itr N)]

theorem Eok_37 (N : Nat) : EnvOk Tryd.prog (E_37 N) := mkEnv_ok mixed tys_ok (FnsOk.cons (hmac_Sum_ct N) (FnsOk.cons (hmac_Frame_ct N) (FnsOk.nil))) (ItsOk.cons (hmac_framed1_it N) (ItsOk.nil))

noncomputable def hmac_Parts (N : Nat) (key : (List UInt8)) (parts : (List (List UInt8))) : Option (List UInt8) :=
  (hmac_Frame N parts).bind fun y =>
  (hmac_Sum N key y).bind fun y1 =>
  some y1

noncomputable def t_37 (N : Nat) : Tab (List UInt8) := []

theorem link_37 (N : Nat) (x : denS [(0, .v .str), (0, .v (.sl .str))]) : evFX (E_37 N) N (t_37 N) L_37 Tryd.f43 (mkS [(0, .v .str), (0, .v (.sl .str))] 0 x) (kRes (.v .str) 2) = hmac_Parts N x.1 x.2.1 := by kernel_rfl

noncomputable def hmac_Parts_res (N : Nat) : List A → Res := resOf [(0, .v .str), (0, .v (.sl .str))] (fun x => hmac_Parts N x.1 x.2.1) (oRes (.v .str) 2)

theorem hmac_Parts_ct (N : Nat) : Contract Tryd.prog glob 43 (hmac_Parts_res N) :=
  Contract.of (E := E_37 N) (H := t_37 N) (L := L_37) (N := N) (body := body_37) (K := (kRes (.v .str) 2)) (Eok_37 N) Tryd.func43 (by kernel_rfl) (by decide) (fun _ hb => TabOk.nil) (fun x y h => by rw [link_37]; exact h) (kRes_ok (s := (.v .str)) (m := 2))

noncomputable def body_38 : Code := (Tryd.f37.body).getD .skip

noncomputable def L_38 : List (List Nat × List Nat) := [([0], [3, 0]), ([0, 0, 1], [7, 0, 3]), ([1, 0, 1], [0, 3]), ([0, 0, 1, 0, 1], [4]), ([1, 0, 1, 0, 1], [4]), ([0, 1, 1], [4]), ([1, 1, 1], [4])]

noncomputable def E_38 (N : Nat) : Env := mkEnv tys glob [(43, hmac_Parts_res N)] [] [] [] false [] [(86, hmac_framed1_itr N)]

theorem Eok_38 (N : Nat) : EnvOk Tryd.prog (E_38 N) := mkEnv_ok mixed tys_ok (FnsOk.cons (hmac_Parts_ct N) (FnsOk.nil)) (ItsOk.cons (hmac_framed1_it N) (ItsOk.nil))

noncomputable def chain_tag_next (N : Nat) (t : (List UInt8)) (l : ((List UInt8) × DT4)) : Option (List UInt8) :=
  cond (l.2.1 == ([] : List UInt8))
  ((hmac_Parts N t ([([(102 : UInt8), (105 : UInt8), (114 : UInt8), (115 : UInt8), (116 : UInt8)] : List UInt8), l.1] : List (List UInt8))).bind fun y =>
    some y)
  ((hmac_Parts N t ([([(116 : UInt8), (104 : UInt8), (105 : UInt8), (114 : UInt8), (100 : UInt8)] : List UInt8), l.2.1, l.1] : List (List UInt8))).bind fun y1 =>
    some y1)

noncomputable def t_38 (N : Nat) : Tab (List UInt8) := []

theorem link_38 (N : Nat) (x : denS [(0, .v .str), (0, .v TT5)]) : evFX (E_38 N) N (t_38 N) L_38 Tryd.f37 (mkS [(0, .v .str), (0, .v TT5)] 0 x) (kRes (.v .str) 2) = chain_tag_next N x.1 x.2.1 := by kernel_rfl

noncomputable def chain_tag_next_res (N : Nat) : List A → Res := resOf [(0, .v .str), (0, .v TT5)] (fun x => chain_tag_next N x.1 x.2.1) (oRes (.v .str) 2)

theorem chain_tag_next_ct (N : Nat) : Contract Tryd.prog glob 37 (chain_tag_next_res N) :=
  Contract.of (E := E_38 N) (H := t_38 N) (L := L_38) (N := N) (body := body_38) (K := (kRes (.v .str) 2)) (Eok_38 N) Tryd.func37 (by kernel_rfl) (by decide) (fun _ hb => TabOk.nil) (fun x y h => by rw [link_38]; exact h) (kRes_ok (s := (.v .str)) (m := 2))

noncomputable def body_39 : Code := (Tryd.f24.body).getD .skip

noncomputable def L_39 : List (List Nat × List Nat) := [([0], [0, 3]), ([0, 1], [4]), ([1, 1], [4])]

noncomputable def E_39 (N : Nat) : Env := mkEnv tys glob [(37, chain_tag_next_res N)] [] [] [] false [] [(86, hmac_framed1_itr N)]

theorem Eok_39 (N : Nat) : EnvOk Tryd.prog (E_39 N) := mkEnv_ok mixed tys_ok (FnsOk.cons (chain_tag_next_ct N) (FnsOk.nil)) (ItsOk.cons (hmac_framed1_it N) (ItsOk.nil))

noncomputable def chain_Next (N : Nat) (before : (List UInt8)) (l : ((List UInt8) × DT4)) : Option (List UInt8) :=
  (chain_tag_next N before l).bind fun y =>
  some y

noncomputable def t_39 (N : Nat) : Tab (List UInt8) := []

theorem link_39 (N : Nat) (x : denS [(0, .v .str), (0, .v TT5)]) : evFX (E_39 N) N (t_39 N) L_39 Tryd.f24 (mkS [(0, .v .str), (0, .v TT5)] 0 x) (kRes (.v .str) 2) = chain_Next N x.1 x.2.1 := by kernel_rfl

noncomputable def chain_Next_res (N : Nat) : List A → Res := resOf [(0, .v .str), (0, .v TT5)] (fun x => chain_Next N x.1 x.2.1) (oRes (.v .str) 2)

theorem chain_Next_ct (N : Nat) : Contract Tryd.prog glob 24 (chain_Next_res N) :=
  Contract.of (E := E_39 N) (H := t_39 N) (L := L_39) (N := N) (body := body_39) (K := (kRes (.v .str) 2)) (Eok_39 N) Tryd.func24 (by kernel_rfl) (by decide) (fun _ hb => TabOk.nil) (fun x y h => by rw [link_39]; exact h) (kRes_ok (s := (.v .str)) (m := 2))

noncomputable def body_40 : Code := (Tryd.f27.body).getD .skip

noncomputable def L_40 : List (List Nat × List Nat) := [([0], [1, 2]), ([0, 1], [3, 1, 2]), ([0, 1, 1], [3, 1, 2]), ([0, 1, 1, 1], [3, 2]), ([0, 1, 1, 1, 1], [2]), ([1, 1, 1, 1, 1], [2])]

noncomputable def E_40 (N : Nat) : Env := mkEnv tys glob [(24, chain_Next_res N), (33, holder_clone_res N)] [] [] [] false [(3, (.pair .str (.pair (.own TT5) (.pair .str .unit))))] [(86, hmac_framed1_itr N)]

theorem Eok_40 (N : Nat) : EnvOk Tryd.prog (E_40 N) := mkEnv_ok mixed tys_ok (FnsOk.cons (chain_Next_ct N) (FnsOk.cons (holder_clone_ct N) (FnsOk.nil))) (ItsOk.cons (hmac_framed1_it N) (ItsOk.nil))

noncomputable def holder_addition_token (N : Nat) (a : (((List UInt8) × DT4) × (DT1 × Unit))) : Option DT1 :=
  (holder_clone N a.2.1).bind fun y =>
  cond (decide ((((List.length y.2.1) + 1) * 32) ≤ 70368744177664))
  ((chain_Next N y.2.2.1 a.1).bind fun y1 =>
    some (y.1, ((y.2.1 ++ ([a.1] : List ((List UInt8) × DT4))), (y1, y.2.2.2))))
  (none)

noncomputable def t_40 (N : Nat) : Tab DT1 := []

theorem link_40 (N : Nat) (x : denS [(0, .v (.pair TT5 (.pair TT0 .unit)))]) : evFX (E_40 N) N (t_40 N) L_40 Tryd.f27 (mkS [(0, .v (.pair TT5 (.pair TT0 .unit)))] 0 x) (kRes (.v TT0) 1) = holder_addition_token N x.1 := by kernel_rfl

noncomputable def holder_addition_token_res (N : Nat) : List A → Res := resOf [(0, .v (.pair TT5 (.pair TT0 .unit)))] (fun x => holder_addition_token N x.1) (oRes (.v TT0) 1)

theorem holder_addition_token_ct (N : Nat) : Contract Tryd.prog glob 27 (holder_addition_token_res N) :=
  Contract.of (E := E_40 N) (H := t_40 N) (L := L_40) (N := N) (body := body_40) (K := (kRes (.v TT0) 1)) (Eok_40 N) Tryd.func27 (by kernel_rfl) (by decide) (fun _ hb => TabOk.nil) (fun x y h => by rw [link_40]; exact h) (kRes_ok (s := (.v TT0)) (m := 1))

noncomputable def body_41 : Code := (Tryd.f8.body).getD .skip

noncomputable def L_41 : List (List Nat × List Nat) := [([0], [2, 1, 4]), ([0, 1], [6, 1, 4]), ([0, 0, 1, 1], [15, 4, 1, 6]), ([1, 0, 1, 1], [1, 6, 4]), ([0, 0, 1, 0, 1, 1], [4, 5]), ([1, 0, 1, 0, 1, 1], [4, 5]), ([0, 1, 1, 1], [6, 4]), ([0, 1, 1, 1, 1], [4, 5]), ([1, 1, 1, 1, 1], [4, 5])]

noncomputable def E_41 (N : Nat) : Env := mkEnv tys glob [(27, holder_addition_token_res N), (26, holder_addition_full_res N)] [] [] [] false [] [(86, hmac_framed1_itr N)]

theorem Eok_41 (N : Nat) : EnvOk Tryd.prog (E_41 N) := mkEnv_ok mixed tys_ok (FnsOk.cons (holder_addition_token_ct N) (FnsOk.cons (holder_addition_full_ct N) (FnsOk.nil))) (ItsOk.cons (hmac_framed1_it N) (ItsOk.nil))

noncomputable def holder_Add_p2 (N : Nat) (text : (List UInt8)) (x4 : DT1) (a : (((List UInt8) × DT4) × (DT1 × Unit))) (k0 : Bool → Option (DT1 × Int × Unit)) : Option (DT1 × Int × Unit) :=
  cond (decide ((64 : Int) ≤ (((List.length a.2.1.2.1) : Nat) : Int)))
  (k0 true)
  (k0 (decide ((2048 : Int) < (((List.length text) : Nat) : Int))))

noncomputable def g2_41 (N : Nat) (x : denS [(1, .v .str), (2, .box TT0), (1, .box (.pair TT5 (.pair TT0 .unit)))]) (K : Ex → List A → Option (DT1 × Int × Unit)) : Option (DT1 × Int × Unit) :=
  holder_Add_p2 N x.1 x.2.1 x.2.2.1 (fun a3 => (K .normal (mkS [(1, .v .str), (2, .box TT0), (1, .box (.pair TT5 (.pair TT0 .unit))), (8, .v .bool)] 6 (x.1, x.2.1, x.2.2.1, a3, ()))))

noncomputable def h2_41 (N : Nat) : Hd (DT1 × Int × Unit) := fun st K => (unS [(1, .v .str), (2, .box TT0), (1, .box (.pair TT5 (.pair TT0 .unit)))] 15 (restr [6, 1, 4] 0 st)).bind fun x => g2_41 N x K

noncomputable def t2_41 (N : Nat) : Tab (DT1 × Int × Unit) := []

theorem ok2_41 {N : Nat} {c : Ctx} (hb : Base Tryd.prog (E_41 N) c) : CodeOk Tryd.prog c (nodeAt body_41 [0, 0, 1, 1]) (h2_41 N) :=
  piece_ok (s := [(1, .v .str), (2, .box TT0), (1, .box (.pair TT5 (.pair TT0 .unit)))]) (m := 15) (g := g2_41 N) [6, 1, 4] (evN_sound hb N (t2_41 N) L_41 body_41 TabOk.nil [0, 0, 1, 1] _ rfl) (fun x K => by kernel_rfl)

noncomputable def holder_Add_p1 (N : Nat) (text : (List UInt8)) (x4 : DT1) (a : (((List UInt8) × DT4) × (DT1 × Unit))) (k0 : DT1 → Int → Option (DT1 × Int × Unit)) (k1 : Option (DT1 × Int × Unit)) : Option (DT1 × Int × Unit) :=
  holder_Add_p2 N text x4 a
  (fun x15 => cond x15
    (k0 (([] : List UInt8), (([] : List ((List UInt8) × DT4)), (([] : List UInt8), ()))) (3 : Int))
    (k1))

noncomputable def g1_41 (N : Nat) (x : denS [(1, .v .str), (2, .box TT0), (1, .box (.pair TT5 (.pair TT0 .unit)))]) (K : Ex → List A → Option (DT1 × Int × Unit)) : Option (DT1 × Int × Unit) :=
  holder_Add_p1 N x.1 x.2.1 x.2.2.1 (fun a0 a1 => (K .ret (mkS [(4, .box TT0), (0, .v (.int .i64))] 16 (a0, a1, ())))) (K .normal (mkS [(1, .v .str), (2, .box TT0), (1, .box (.pair TT5 (.pair TT0 .unit)))] 15 (x.1, x.2.1, x.2.2.1, ())))

noncomputable def h1_41 (N : Nat) : Hd (DT1 × Int × Unit) := fun st K => (unS [(1, .v .str), (2, .box TT0), (1, .box (.pair TT5 (.pair TT0 .unit)))] 15 (restr [6, 1, 4] 0 st)).bind fun x => g1_41 N x K

noncomputable def t1_41 (N : Nat) : Tab (DT1 × Int × Unit) := [([0, 0, 1, 1], h2_41 N)]

theorem ok1_41 {N : Nat} {c : Ctx} (hb : Base Tryd.prog (E_41 N) c) : CodeOk Tryd.prog c (nodeAt body_41 [0, 1, 1]) (h1_41 N) :=
  piece_ok (s := [(1, .v .str), (2, .box TT0), (1, .box (.pair TT5 (.pair TT0 .unit)))]) (m := 15) (g := g1_41 N) [6, 1, 4] (evN_sound hb N (t1_41 N) L_41 body_41 (TabOk.cons (ok2_41 hb) TabOk.nil) [0, 1, 1] _ rfl) (fun x K => by kernel_rfl)

noncomputable def holder_Add (N : Nat) (t : DT1) (text : (List UInt8)) : Option (DT1 × Int × Unit) :=
  holder_Add_p1 N text (([] : List UInt8), (([] : List ((List UInt8) × DT4)), (([] : List UInt8), ()))) ((([] : List UInt8), (([] : List UInt8), ())), (t, ()))
  (fun x4 x5 => some (x4, (x5, ())))
  ((holder_addition_token N ((text, (([] : List UInt8), ())), (t, ()))).bind fun y =>
    some (y, ((0 : Int), ())))

noncomputable def t_41 (N : Nat) : Tab (DT1 × Int × Unit) := [([0, 1, 1], h1_41 N)]

theorem link_41 (N : Nat) (x : denS [(0, .v TT0), (0, .v .str)]) : evFX (E_41 N) N (t_41 N) L_41 Tryd.f8 (mkS [(0, .v TT0), (0, .v .str)] 0 x) (kRes (.tup [TT0, (.int .i64)]) 2) = holder_Add N x.1 x.2.1 := by kernel_rfl

noncomputable def holder_Add_res (N : Nat) : List A → Res := resOf [(0, .v TT0), (0, .v .str)] (fun x => holder_Add N x.1 x.2.1) (oRes (.tup [TT0, (.int .i64)]) 2)

theorem holder_Add_ct (N : Nat) : Contract Tryd.prog glob 8 (holder_Add_res N) :=
  Contract.of (E := E_41 N) (H := t_41 N) (L := L_41) (N := N) (body := body_41) (K := (kRes (.tup [TT0, (.int .i64)]) 2)) (Eok_41 N) Tryd.func8 (by kernel_rfl) (by decide) (fun _ hb => (TabOk.cons (ok1_41 hb) TabOk.nil)) (fun x y h => by rw [link_41]; exact h) (kRes_ok (s := (.tup [TT0, (.int .i64)])) (m := 2))

noncomputable def body_42 : Code := (Tryd.f25.body).getD .skip

noncomputable def L_42 : List (List Nat × List Nat) := [([0], [0, 1]), ([0, 1], [4]), ([1, 1], [4])]

noncomputable def E_42 (N : Nat) : Env := mkEnv tys glob [(43, hmac_Parts_res N)] [] [] [] false [] [(86, hmac_framed1_itr N)]

theorem Eok_42 (N : Nat) : EnvOk Tryd.prog (E_42 N) := mkEnv_ok mixed tys_ok (FnsOk.cons (hmac_Parts_ct N) (FnsOk.nil)) (ItsOk.cons (hmac_framed1_it N) (ItsOk.nil))

noncomputable def chain_Bind (N : Nat) (of : (List UInt8)) (other : (List UInt8)) : Option (List UInt8) :=
  (hmac_Parts N of ([([(98 : UInt8), (105 : UInt8), (110 : UInt8), (100 : UInt8)] : List UInt8), other] : List (List UInt8))).bind fun y =>
  some y

noncomputable def t_42 (N : Nat) : Tab (List UInt8) := []

theorem link_42 (N : Nat) (x : denS [(0, .v .str), (0, .v .str)]) : evFX (E_42 N) N (t_42 N) L_42 Tryd.f25 (mkS [(0, .v .str), (0, .v .str)] 0 x) (kRes (.v .str) 2) = chain_Bind N x.1 x.2.1 := by kernel_rfl

noncomputable def chain_Bind_res (N : Nat) : List A → Res := resOf [(0, .v .str), (0, .v .str)] (fun x => chain_Bind N x.1 x.2.1) (oRes (.v .str) 2)

theorem chain_Bind_ct (N : Nat) : Contract Tryd.prog glob 25 (chain_Bind_res N) :=
  Contract.of (E := E_42 N) (H := t_42 N) (L := L_42) (N := N) (body := body_42) (K := (kRes (.v .str) 2)) (Eok_42 N) Tryd.func25 (by kernel_rfl) (by decide) (fun _ hb => TabOk.nil) (fun x y h => by rw [link_42]; exact h) (kRes_ok (s := (.v .str)) (m := 2))

noncomputable def body_43 : Code := (Tryd.f13.body).getD .skip

noncomputable def L_43 : List (List Nat × List Nat) := [([0], [3, 2, 4]), ([0, 1], [2, 3, 5, 4]), ([0, 1, 1], [5, 4]), ([0, 1, 1, 1], [4]), ([1, 1, 1, 1], [4])]

noncomputable def E_43 (N : Nat) : Env := mkEnv tys glob [(25, chain_Bind_res N), (33, holder_clone_res N)] [] [] [] false [(5, (.pair .str (.pair (.own TT5) (.pair .str .unit))))] [(86, hmac_framed1_itr N)]

theorem Eok_43 (N : Nat) : EnvOk Tryd.prog (E_43 N) := mkEnv_ok mixed tys_ok (FnsOk.cons (chain_Bind_ct N) (FnsOk.cons (holder_clone_ct N) (FnsOk.nil))) (ItsOk.cons (hmac_framed1_it N) (ItsOk.nil))

noncomputable def holder_Bind (N : Nat) (t : DT1) (discharge : DT1) : Option DT1 :=
  (holder_clone N discharge).bind fun y =>
  (chain_Bind N t.2.2.1 discharge.2.2.1).bind fun y1 =>
  some (y.1, (y.2.1, (y1, y.2.2.2)))

noncomputable def t_43 (N : Nat) : Tab DT1 := []

theorem link_43 (N : Nat) (x : denS [(0, .v TT0), (0, .v TT0)]) : evFX (E_43 N) N (t_43 N) L_43 Tryd.f13 (mkS [(0, .v TT0), (0, .v TT0)] 0 x) (kRes (.v TT0) 2) = holder_Bind N x.1 x.2.1 := by kernel_rfl

noncomputable def holder_Bind_res (N : Nat) : List A → Res := resOf [(0, .v TT0), (0, .v TT0)] (fun x => holder_Bind N x.1 x.2.1) (oRes (.v TT0) 2)

theorem holder_Bind_ct (N : Nat) : Contract Tryd.prog glob 13 (holder_Bind_res N) :=
  Contract.of (E := E_43 N) (H := t_43 N) (L := L_43) (N := N) (body := body_43) (K := (kRes (.v TT0) 2)) (Eok_43 N) Tryd.func13 (by kernel_rfl) (by decide) (fun _ hb => TabOk.nil) (fun x y h => by rw [link_43]; exact h) (kRes_ok (s := (.v TT0)) (m := 2))

noncomputable def body_44 : Code := (Tryd.f7.body).getD .skip

noncomputable def L_44 : List (List Nat × List Nat) := [([0], []), ([0, 1], [1]), ([0, 1, 1], [3, 2, 1]), ([0, 1, 1, 1], [0]), ([1, 1, 1, 1], [0])]

noncomputable def E_44 (N : Nat) : Env := mkEnv tys glob [(13, holder_Bind_res N), (25, chain_Bind_res N), (8, holder_Add_res N), (24, chain_Next_res N)] [] [] [] false [] [(86, hmac_framed1_itr N)]

theorem Eok_44 (N : Nat) : EnvOk Tryd.prog (E_44 N) := mkEnv_ok mixed tys_ok (FnsOk.cons (holder_Bind_ct N) (FnsOk.cons (chain_Bind_ct N) (FnsOk.cons (holder_Add_ct N) (FnsOk.cons (chain_Next_ct N) (FnsOk.nil))))) (ItsOk.cons (hmac_framed1_it N) (ItsOk.nil))

noncomputable def porterlaw35_works (N : Nat) : Option Bool :=
  (holder_Add N (([(97 : UInt8)] : List UInt8), (([] : List ((List UInt8) × DT4)), (([(116 : UInt8)] : List UInt8), ()))) ([(98 : UInt8), (101 : UInt8), (102 : UInt8), (111 : UInt8), (114 : UInt8), (101 : UInt8), (32 : UInt8), (57 : UInt8)] : List UInt8)).bind fun y =>
  cond (y.2.1 == (0 : Int))
  (cond ((((List.length y.1.2.1) : Nat) : Int) == (1 : Int))
    (cond (inR (0 : Int) (List.length y.1.2.1))
      (cond (eqD (T.pair T.str (T.pair T.str T.unit)) (List.getD y.1.2.1 0 (([] : List UInt8), (([] : List UInt8), ()))) (([(98 : UInt8), (101 : UInt8), (102 : UInt8), (111 : UInt8), (114 : UInt8), (101 : UInt8), (32 : UInt8), (57 : UInt8)] : List UInt8), (([] : List UInt8), ())))
        (cond (inR (0 : Int) (List.length y.1.2.1))
          ((chain_Next N ([(116 : UInt8)] : List UInt8) (List.getD y.1.2.1 0 (([] : List UInt8), (([] : List UInt8), ())))).bind fun y1 =>
            cond (y.1.2.2.1 == y1)
            ((holder_Bind N (([(97 : UInt8)] : List UInt8), (([] : List ((List UInt8) × DT4)), (([(116 : UInt8)] : List UInt8), ()))) y.1).bind fun y2 =>
              (chain_Bind N ([(116 : UInt8)] : List UInt8) y.1.2.2.1).bind fun y3 =>
              some (y2.2.2.1 == y3))
            (some false))
          (none))
        (some false))
      (none))
    (some false))
  (some false)

noncomputable def t_44 (N : Nat) : Tab Bool := []

theorem link_44 (N : Nat) (x : denS []) : evFX (E_44 N) N (t_44 N) L_44 Tryd.f7 (mkS [] 0 x) (kRes (.v .bool) 0) = porterlaw35_works N := by kernel_rfl

noncomputable def porterlaw35_works_res (N : Nat) : List A → Res := resOf [] (fun x => porterlaw35_works N) (oRes (.v .bool) 0)

theorem porterlaw35_works_ct (N : Nat) : Contract Tryd.prog glob 7 (porterlaw35_works_res N) :=
  Contract.of (E := E_44 N) (H := t_44 N) (L := L_44) (N := N) (body := body_44) (K := (kRes (.v .bool) 0)) (Eok_44 N) Tryd.func7 (by kernel_rfl) (by decide) (fun _ hb => TabOk.nil) (fun x y h => by rw [link_44]; exact h) (kRes_ok (s := (.v .bool)) (m := 0))

noncomputable def body_45 : Code := (Tryd.f45.body).getD .skip

noncomputable def L_45 : List (List Nat × List Nat) := [([0], [1]), ([0, 0, 1], [5, 1]), ([1, 0, 1], [1]), ([0, 0, 1, 0, 1], [2]), ([1, 0, 1, 0, 1], [2]), ([0, 1, 1], [2]), ([1, 1, 1], [2])]

noncomputable def E_45 (N : Nat) : Env := mkEnv tys glob [] [] [] [] false [] [(86, hmac_framed1_itr N)]

theorem Eok_45 (N : Nat) : EnvOk Tryd.prog (E_45 N) := mkEnv_ok mixed tys_ok (FnsOk.nil) (ItsOk.cons (hmac_framed1_it N) (ItsOk.nil))

noncomputable def porterref34_NextParts (N : Nat) (l : ((List UInt8) × DT4)) : Option (List (List UInt8)) :=
  cond (l.2.1 == ([] : List UInt8))
  (some ([([(102 : UInt8), (105 : UInt8), (114 : UInt8), (115 : UInt8), (116 : UInt8)] : List UInt8), l.1] : List (List UInt8)))
  (some ([([(116 : UInt8), (104 : UInt8), (105 : UInt8), (114 : UInt8), (100 : UInt8)] : List UInt8), l.2.1, l.1] : List (List UInt8)))

noncomputable def t_45 (N : Nat) : Tab (List (List UInt8)) := []

theorem link_45 (N : Nat) (x : denS [(0, .v TT5)]) : evFX (E_45 N) N (t_45 N) L_45 Tryd.f45 (mkS [(0, .v TT5)] 0 x) (kRes (.v (.sl .str)) 1) = porterref34_NextParts N x.1 := by kernel_rfl

noncomputable def porterref34_NextParts_res (N : Nat) : List A → Res := resOf [(0, .v TT5)] (fun x => porterref34_NextParts N x.1) (oRes (.v (.sl .str)) 1)

theorem porterref34_NextParts_ct (N : Nat) : Contract Tryd.prog glob 45 (porterref34_NextParts_res N) :=
  Contract.of (E := E_45 N) (H := t_45 N) (L := L_45) (N := N) (body := body_45) (K := (kRes (.v (.sl .str)) 1)) (Eok_45 N) Tryd.func45 (by kernel_rfl) (by decide) (fun _ hb => TabOk.nil) (fun x y h => by rw [link_45]; exact h) (kRes_ok (s := (.v (.sl .str))) (m := 1))

noncomputable def body_46 : Code := (Tryd.f70.body).getD .skip

noncomputable def L_46 : List (List Nat × List Nat) := [([0], [0]), ([0, 1], [3]), ([0, 1, 1], [2]), ([1, 1, 1], [2])]

noncomputable def E_46 (N : Nat) : Env := mkEnv tys glob [] [] [] [] false [] [(86, hmac_framed1_itr N)]

theorem Eok_46 (N : Nat) : EnvOk Tryd.prog (E_46 N) := mkEnv_ok mixed tys_ok (FnsOk.nil) (ItsOk.cons (hmac_framed1_it N) (ItsOk.nil))

noncomputable def porterref02_Byte (N : Nat) (n : Int) : Option (List UInt8) :=
  some (toStr ([(IntKind.wrap IntKind.u8 n)] : List Int))

noncomputable def t_46 (N : Nat) : Tab (List UInt8) := []

theorem link_46 (N : Nat) (x : denS [(0, .v (.int .i64))]) : evFX (E_46 N) N (t_46 N) L_46 Tryd.f70 (mkS [(0, .v (.int .i64))] 0 x) (kRes (.v .str) 1) = porterref02_Byte N x.1 := by kernel_rfl

noncomputable def porterref02_Byte_res (N : Nat) : List A → Res := resOf [(0, .v (.int .i64))] (fun x => porterref02_Byte N x.1) (oRes (.v .str) 1)

theorem porterref02_Byte_ct (N : Nat) : Contract Tryd.prog glob 70 (porterref02_Byte_res N) :=
  Contract.of (E := E_46 N) (H := t_46 N) (L := L_46) (N := N) (body := body_46) (K := (kRes (.v .str) 1)) (Eok_46 N) Tryd.func70 (by kernel_rfl) (by decide) (fun _ hb => TabOk.nil) (fun x y h => by rw [link_46]; exact h) (kRes_ok (s := (.v .str)) (m := 1))

noncomputable def body_47 : Code := (Tryd.f61.body).getD .skip

noncomputable def L_47 : List (List Nat × List Nat) := [([0], [0]), ([0, 1], [0, 3]), ([0, 0, 1, 1], [4, 0, 3]), ([0, 1, 0, 1, 1], [4, 0, 3]), ([0, 0, 0, 0, 1, 0, 1, 1], [6, 0, 3, 4]), ([1, 0, 0, 0, 1, 0, 1, 1], [0, 3, 4]), ([1, 1, 0, 0, 0, 1, 0, 1, 1], [3]), ([0, 0, 0, 1, 0, 0, 1, 0, 1, 1], [0, 4, 3]), ([1, 0, 0, 1, 0, 0, 1, 0, 1, 1], [4, 0, 3]), ([0, 1, 0, 0, 1, 0, 1, 1], [4, 0, 3]), ([1, 1, 0, 0, 1, 0, 1, 1], [4, 0, 3]), ([1, 0, 1, 1], [3]), ([0, 1, 1, 1], [2]), ([1, 1, 1, 1], [2])]

noncomputable def E_47 (N : Nat) : Env := mkEnv tys glob [(70, porterref02_Byte_res N)] [] [] [] false [] [(86, hmac_framed1_itr N)]

theorem Eok_47 (N : Nat) : EnvOk Tryd.prog (E_47 N) := mkEnv_ok mixed tys_ok (FnsOk.cons (porterref02_Byte_ct N) (FnsOk.nil)) (ItsOk.cons (hmac_framed1_it N) (ItsOk.nil))

noncomputable def porterref04_long_s1 (N : Nat) (n : Int) (out : (List UInt8)) (i : Int) (rec : Int → (List UInt8) → Int → Option (List UInt8)) (k0 : (List UInt8) → Option (List UInt8)) : Option (List UInt8) :=
  cond (decide (i < (8 : Int)))
  (cond (decide (((List.length (toStr ([(IntKind.wrap IntKind.u8 (Int.tmod n (256 : Int)))] : List Int))) + (List.length out)) ≤ 9223372036854775807))
    (rec (IntKind.wrap IntKind.i64 (Int.tdiv n (256 : Int))) ((toStr ([(IntKind.wrap IntKind.u8 (Int.tmod n (256 : Int)))] : List Int)) ++ out) (IntKind.wrap IntKind.i64 (i + (1 : Int))))
    (none))
  (k0 out)

noncomputable def porterref04_long_p1 (N : Nat) (n : Int) (out : (List UInt8)) (i : Int) (k0 : (List UInt8) → Option (List UInt8)) : Option (List UInt8) :=
  iter (fun (v : (Int × (List UInt8) × Int)) r => porterref04_long_s1 N v.1 v.2.1 v.2.2 (fun n out i => (r (n, out, i))) k0) N (n, out, i)

noncomputable def g1_47 (N : Nat) (i : Unit) (v : (Int × (List UInt8) × Int)) (r : (Int × (List UInt8) × Int) → Option (List UInt8)) (K : Ex → List A → Option (List UInt8)) : Option (List UInt8) :=
  porterref04_long_s1 N v.1 v.2.1 v.2.2 (fun n out i => (r (n, out, i))) (fun a0 => (K (.exit 0) (mkS [(3, .v .str)] 13 (a0, ()))))

noncomputable def h1_47 (N : Nat) : Hd (List UInt8) := fun st K => (unS [(0, .v (.int .i64)), (2, .v .str), (0, .v (.int .i64))] 12 (restr [4, 0, 3] 0 st)).bind fun x => iter (fun v r => g1_47 N ((fun x => ()) x) v r K) N ((fun x => (x.1, x.2.1, x.2.2.1)) x)

noncomputable def t1_47 (N : Nat) : Tab (List UInt8) := []

theorem ok1_47 {N : Nat} {c : Ctx} (hb : Base Tryd.prog (E_47 N) c) : CodeOk Tryd.prog c (nodeAt body_47 [0, 1, 0, 1, 1]) (h1_47 N) :=
  loop_ok (s := [(0, .v (.int .i64)), (2, .v .str), (0, .v (.int .i64))]) (m := 12) (g1_47 N) [4, 0, 3] N (fun x => ()) (fun x => (x.1, x.2.1, x.2.2.1)) (fun i v => (v.1, v.2.1, v.2.2, ())) (fun _ => rfl) (evN_sound hb N (t1_47 N) L_47 body_47 TabOk.nil [0, 0, 1, 0, 1, 1] _ rfl) (fun i v r K => by kernel_rfl)

noncomputable def porterref04_long (N : Nat) (n : Int) : Option (List UInt8) :=
  porterref04_long_p1 N n ([] : List UInt8) (0 : Int)
  (fun out => some out)

noncomputable def t_47 (N : Nat) : Tab (List UInt8) := [([0, 1, 0, 1, 1], h1_47 N)]

theorem link_47 (N : Nat) (x : denS [(0, .v (.int .i64))]) : evFX (E_47 N) N (t_47 N) L_47 Tryd.f61 (mkS [(0, .v (.int .i64))] 0 x) (kRes (.v .str) 1) = porterref04_long N x.1 := by kernel_rfl

noncomputable def porterref04_long_res (N : Nat) : List A → Res := resOf [(0, .v (.int .i64))] (fun x => porterref04_long N x.1) (oRes (.v .str) 1)

theorem porterref04_long_ct (N : Nat) : Contract Tryd.prog glob 61 (porterref04_long_res N) :=
  Contract.of (E := E_47 N) (H := t_47 N) (L := L_47) (N := N) (body := body_47) (K := (kRes (.v .str) 1)) (Eok_47 N) Tryd.func61 (by kernel_rfl) (by decide) (fun _ hb => (TabOk.cons (ok1_47 hb) TabOk.nil)) (fun x y h => by rw [link_47]; exact h) (kRes_ok (s := (.v .str)) (m := 1))

noncomputable def body_48 : Code := (Tryd.f49.body).getD .skip

noncomputable def L_48 : List (List Nat × List Nat) := [([0], [0]), ([0, 1], [0, 3]), ([0, 0, 1, 1], [4, 0, 3]), ([0, 1, 0, 1, 1], [4, 0, 3]), ([0, 0, 0, 0, 1, 0, 1, 1], [8, 3, 0, 4]), ([1, 0, 0, 0, 1, 0, 1, 1], [3, 0, 4]), ([1, 1, 0, 0, 0, 1, 0, 1, 1], [3]), ([0, 0, 1, 0, 0, 1, 0, 1, 1], [4, 0, 3]), ([0, 1, 0, 0, 1, 0, 1, 1], [4, 0, 3]), ([1, 1, 0, 0, 1, 0, 1, 1], [4, 0, 3]), ([1, 0, 1, 1], [3]), ([0, 1, 1, 1], [2]), ([1, 1, 1, 1], [2])]

noncomputable def E_48 (N : Nat) : Env := mkEnv tys glob [(61, porterref04_long_res N)] [] [] [] false [] [(86, hmac_framed1_itr N)]

theorem Eok_48 (N : Nat) : EnvOk Tryd.prog (E_48 N) := mkEnv_ok mixed tys_ok (FnsOk.cons (porterref04_long_ct N) (FnsOk.nil)) (ItsOk.cons (hmac_framed1_it N) (ItsOk.nil))

noncomputable def porterref04_Frame_s1 (N : Nat) (l : (List (List UInt8))) (out : (List UInt8)) (i : Int) (rec : (List UInt8) → Int → Option (List UInt8)) (k0 : (List UInt8) → Option (List UInt8)) : Option (List UInt8) :=
  cond (decide (i < (((List.length l) : Nat) : Int)))
  (cond (inR i (List.length l))
    ((porterref04_long N (((List.length (List.getD l (Int.toNat i) ([] : List UInt8))) : Nat) : Int)).bind fun y =>
      cond (decide (((List.length out) + (List.length y)) ≤ 9223372036854775807))
      (cond (inR i (List.length l))
        (cond (decide (((List.length (out ++ y)) + (List.length (List.getD l (Int.toNat i) ([] : List UInt8)))) ≤ 9223372036854775807))
          (rec ((out ++ y) ++ (List.getD l (Int.toNat i) ([] : List UInt8))) (IntKind.wrap IntKind.i64 (i + (1 : Int))))
          (none))
        (none))
      (none))
    (none))
  (k0 out)

noncomputable def porterref04_Frame_p1 (N : Nat) (l : (List (List UInt8))) (out : (List UInt8)) (i : Int) (k0 : (List UInt8) → Option (List UInt8)) : Option (List UInt8) :=
  iter (fun (v : ((List UInt8) × Int)) r => porterref04_Frame_s1 N l v.1 v.2 (fun out i => (r (out, i))) k0) N (out, i)

noncomputable def g1_48 (N : Nat) (i : (List (List UInt8))) (v : ((List UInt8) × Int)) (r : ((List UInt8) × Int) → Option (List UInt8)) (K : Ex → List A → Option (List UInt8)) : Option (List UInt8) :=
  porterref04_Frame_s1 N i v.1 v.2 (fun out i => (r (out, i))) (fun a0 => (K (.exit 0) (mkS [(3, .v .str)] 21 (a0, ()))))

noncomputable def h1_48 (N : Nat) : Hd (List UInt8) := fun st K => (unS [(0, .v (.sl .str)), (2, .v .str), (0, .v (.int .i64))] 20 (restr [4, 0, 3] 0 st)).bind fun x => iter (fun v r => g1_48 N ((fun x => x.1) x) v r K) N ((fun x => (x.2.1, x.2.2.1)) x)

noncomputable def t1_48 (N : Nat) : Tab (List UInt8) := []

theorem ok1_48 {N : Nat} {c : Ctx} (hb : Base Tryd.prog (E_48 N) c) : CodeOk Tryd.prog c (nodeAt body_48 [0, 1, 0, 1, 1]) (h1_48 N) :=
  loop_ok (s := [(0, .v (.sl .str)), (2, .v .str), (0, .v (.int .i64))]) (m := 20) (g1_48 N) [4, 0, 3] N (fun x => x.1) (fun x => (x.2.1, x.2.2.1)) (fun i v => (i, v.1, v.2, ())) (fun _ => rfl) (evN_sound hb N (t1_48 N) L_48 body_48 TabOk.nil [0, 0, 1, 0, 1, 1] _ rfl) (fun i v r K => by kernel_rfl)

noncomputable def porterref04_Frame (N : Nat) (l : (List (List UInt8))) : Option (List UInt8) :=
  porterref04_Frame_p1 N l ([] : List UInt8) (0 : Int)
  (fun out => some out)

noncomputable def t_48 (N : Nat) : Tab (List UInt8) := [([0, 1, 0, 1, 1], h1_48 N)]

theorem link_48 (N : Nat) (x : denS [(0, .v (.sl .str))]) : evFX (E_48 N) N (t_48 N) L_48 Tryd.f49 (mkS [(0, .v (.sl .str))] 0 x) (kRes (.v .str) 1) = porterref04_Frame N x.1 := by kernel_rfl

noncomputable def porterref04_Frame_res (N : Nat) : List A → Res := resOf [(0, .v (.sl .str))] (fun x => porterref04_Frame N x.1) (oRes (.v .str) 1)

theorem porterref04_Frame_ct (N : Nat) : Contract Tryd.prog glob 49 (porterref04_Frame_res N) :=
  Contract.of (E := E_48 N) (H := t_48 N) (L := L_48) (N := N) (body := body_48) (K := (kRes (.v .str) 1)) (Eok_48 N) Tryd.func49 (by kernel_rfl) (by decide) (fun _ hb => (TabOk.cons (ok1_48 hb) TabOk.nil)) (fun x y h => by rw [link_48]; exact h) (kRes_ok (s := (.v .str)) (m := 1))

noncomputable def body_49 : Code := (Tryd.f74.body).getD .skip

noncomputable def L_49 : List (List Nat × List Nat) := [([0], [0]), ([0, 1], [3, 0]), ([0, 1, 1], [3, 0]), ([0, 0, 1, 1, 1], [3, 0]), ([0, 0, 0, 0, 0, 1, 1, 1], [14, 3, 0]), ([1, 0, 0, 0, 0, 1, 1, 1], [3, 0]), ([1, 1, 0, 0, 0, 0, 1, 1, 1], [0, 3]), ([0, 1, 0, 0, 0, 1, 1, 1], [3, 0]), ([1, 0, 0, 0, 1, 1, 1], [3, 0]), ([0, 1, 1, 1], [0, 3]), ([0, 1, 1, 1, 1], [3, 4]), ([0, 0, 1, 1, 1, 1, 1], [5, 3, 4]), ([0, 1, 0, 1, 1, 1, 1, 1], [5, 3, 4]), ([0, 0, 0, 0, 1, 0, 1, 1, 1, 1, 1], [23, 3, 4, 5]), ([1, 0, 0, 0, 1, 0, 1, 1, 1, 1, 1], [3, 4, 5]), ([1, 1, 0, 0, 0, 1, 0, 1, 1, 1, 1, 1], [3]), ([0, 0, 1, 0, 0, 1, 0, 1, 1, 1, 1, 1], [5, 3, 4]), ([0, 1, 0, 0, 1, 0, 1, 1, 1, 1, 1], [5, 3, 4]), ([1, 1, 0, 0, 1, 0, 1, 1, 1, 1, 1], [5, 3, 4]), ([1, 0, 1, 1, 1, 1, 1], [3]), ([0, 1, 1, 1, 1, 1, 1], [2]), ([1, 1, 1, 1, 1, 1, 1], [2])]

noncomputable def E_49 (N : Nat) : Env := mkEnv tys glob [] [(3, (.int .u8))] [] [] false [] [(86, hmac_framed1_itr N)]

theorem Eok_49 (N : Nat) : EnvOk Tryd.prog (E_49 N) := mkEnv_ok mixed tys_ok (FnsOk.nil) (ItsOk.cons (hmac_framed1_it N) (ItsOk.nil))

noncomputable def porterref03_Pad_s1 (N : Nat) (s : (List UInt8)) (b : (List Int)) (rec : (List Int) → Option (List UInt8)) (k0 : (List Int) → Option (List UInt8)) : Option (List UInt8) :=
  cond ((Int.tmod (((List.length b) : Nat) : Int) (64 : Int)) != (56 : Int))
  (cond (decide ((((List.length b) + 1) * 1) ≤ 70368744177664))
    (rec (b ++ ([(0 : Int)] : List Int)))
    (none))
  (k0 b)

noncomputable def porterref03_Pad_p1 (N : Nat) (s : (List UInt8)) (b : (List Int)) (k0 : (List Int) → Option (List UInt8)) : Option (List UInt8) :=
  iter (fun (v : (List Int)) r => porterref03_Pad_s1 N s v (fun b => (r b)) k0) N b

noncomputable def g1_49 (N : Nat) (i : (List UInt8)) (v : (List Int)) (r : (List Int) → Option (List UInt8)) (K : Ex → List A → Option (List UInt8)) : Option (List UInt8) :=
  porterref03_Pad_s1 N i v (fun b => (r b)) (fun a1 => (K (.exit 0) (mkS [(0, .v .str), (2, .row (.int .u8))] 33 (i, a1, ()))))

noncomputable def h1_49 (N : Nat) : Hd (List UInt8) := fun st K => (unS [(0, .v .str), (2, .row (.int .u8))] 33 (restr [3, 0] 0 st)).bind fun x => iter (fun v r => g1_49 N ((fun x => x.1) x) v r K) N ((fun x => x.2.1) x)

noncomputable def t1_49 (N : Nat) : Tab (List UInt8) := []

theorem ok1_49 {N : Nat} {c : Ctx} (hb : Base Tryd.prog (E_49 N) c) : CodeOk Tryd.prog c (nodeAt body_49 [0, 0, 1, 1, 1]) (h1_49 N) :=
  loop_ok (s := [(0, .v .str), (2, .row (.int .u8))]) (m := 33) (g1_49 N) [3, 0] N (fun x => x.1) (fun x => x.2.1) (fun i v => (i, v, ())) (fun _ => rfl) (evN_sound hb N (t1_49 N) L_49 body_49 TabOk.nil [0, 0, 0, 1, 1, 1] _ rfl) (fun i v r K => by kernel_rfl)

noncomputable def porterref03_Pad_s2 (N : Nat) (n : Int) (b : (List Int)) (i : Int) (rec : (List Int) → Int → Option (List UInt8)) (k0 : (List Int) → Option (List UInt8)) : Option (List UInt8) :=
  cond (decide ((0 : Int) ≤ i))
  (cond (decide ((0 : Int) ≤ (IntKind.wrap IntKind.u64 (IntKind.wrap IntKind.i64 ((8 : Int) * i)))))
    (cond (decide ((((List.length b) + 1) * 1) ≤ 70368744177664))
      (rec (b ++ ([(IntKind.wrap IntKind.u8 (shrI IntKind.u64 n (IntKind.wrap IntKind.u64 (IntKind.wrap IntKind.i64 ((8 : Int) * i)))))] : List Int)) (IntKind.wrap IntKind.i64 (i - (1 : Int))))
      (none))
    (none))
  (k0 b)

noncomputable def porterref03_Pad_p2 (N : Nat) (b : (List Int)) (n : Int) (i : Int) (k0 : (List Int) → Option (List UInt8)) : Option (List UInt8) :=
  iter (fun (v : ((List Int) × Int)) r => porterref03_Pad_s2 N n v.1 v.2 (fun b i => (r (b, i))) k0) N (b, i)

noncomputable def g2_49 (N : Nat) (i : Int) (v : ((List Int) × Int)) (r : ((List Int) × Int) → Option (List UInt8)) (K : Ex → List A → Option (List UInt8)) : Option (List UInt8) :=
  porterref03_Pad_s2 N i v.1 v.2 (fun b i => (r (b, i))) (fun a0 => (K (.exit 2) (mkS [(3, .row (.int .u8))] 33 (a0, ()))))

noncomputable def h2_49 (N : Nat) : Hd (List UInt8) := fun st K => (unS [(3, .row (.int .u8)), (0, .v (.int .u64)), (0, .v (.int .i64))] 31 (restr [5, 3, 4] 0 st)).bind fun x => iter (fun v r => g2_49 N ((fun x => x.2.1) x) v r K) N ((fun x => (x.1, x.2.2.1)) x)

noncomputable def t2_49 (N : Nat) : Tab (List UInt8) := []

theorem ok2_49 {N : Nat} {c : Ctx} (hb : Base Tryd.prog (E_49 N) c) : CodeOk Tryd.prog c (nodeAt body_49 [0, 1, 0, 1, 1, 1, 1, 1]) (h2_49 N) :=
  loop_ok (s := [(3, .row (.int .u8)), (0, .v (.int .u64)), (0, .v (.int .i64))]) (m := 31) (g2_49 N) [5, 3, 4] N (fun x => x.2.1) (fun x => (x.1, x.2.2.1)) (fun i v => (v.1, i, v.2, ())) (fun _ => rfl) (evN_sound hb N (t2_49 N) L_49 body_49 TabOk.nil [0, 0, 1, 0, 1, 1, 1, 1, 1] _ rfl) (fun i v r K => by kernel_rfl)

noncomputable def porterref03_Pad (N : Nat) (s : (List UInt8)) : Option (List UInt8) :=
  cond (decide ((((List.length (ofStr s)) + 1) * 1) ≤ 70368744177664))
  (porterref03_Pad_p1 N s ((ofStr s) ++ ([(128 : Int)] : List Int))
    (fun b => porterref03_Pad_p2 N b (IntKind.wrap IntKind.u64 ((8 : Int) * (IntKind.wrap IntKind.u64 (((List.length s) : Nat) : Int)))) (7 : Int)
      (fun b1 => some (toStr b1))))
  (none)

noncomputable def t_49 (N : Nat) : Tab (List UInt8) := [([0, 0, 1, 1, 1], h1_49 N), ([0, 1, 0, 1, 1, 1, 1, 1], h2_49 N)]

theorem link_49 (N : Nat) (x : denS [(0, .v .str)]) : evFX (E_49 N) N (t_49 N) L_49 Tryd.f74 (mkS [(0, .v .str)] 0 x) (kRes (.v .str) 1) = porterref03_Pad N x.1 := by kernel_rfl

noncomputable def porterref03_Pad_res (N : Nat) : List A → Res := resOf [(0, .v .str)] (fun x => porterref03_Pad N x.1) (oRes (.v .str) 1)

theorem porterref03_Pad_ct (N : Nat) : Contract Tryd.prog glob 74 (porterref03_Pad_res N) :=
  Contract.of (E := E_49 N) (H := t_49 N) (L := L_49) (N := N) (body := body_49) (K := (kRes (.v .str) 1)) (Eok_49 N) Tryd.func74 (by kernel_rfl) (by decide) (fun _ hb => (TabOk.cons (ok1_49 hb) (TabOk.cons (ok2_49 hb) TabOk.nil))) (fun x y h => by rw [link_49]; exact h) (kRes_ok (s := (.v .str)) (m := 1))

noncomputable def body_50 : Code := (Tryd.f75.body).getD .skip

noncomputable def L_50 : List (List Nat × List Nat) := [([0], []), ([0, 1], [0]), ([1, 1], [0])]

noncomputable def E_50 (N : Nat) : Env := mkEnv tys glob [] [] [] [] false [] [(86, hmac_framed1_itr N)]

theorem Eok_50 (N : Nat) : EnvOk Tryd.prog (E_50 N) := mkEnv_ok mixed tys_ok (FnsOk.nil) (ItsOk.cons (hmac_framed1_it N) (ItsOk.nil))

noncomputable def porterref03_table (N : Nat) : Option (List Int) :=
  some (List.set (List.set (List.set (List.set (List.set (List.set (List.set (List.set (List.set (List.set (List.set (List.set (List.set (List.set (List.set (List.set (List.set (List.set (List.set (List.set (List.set (List.set (List.set (List.set (List.set (List.set (List.set (List.set (List.set (List.set (List.set (List.set (List.set (List.set (List.set (List.set (List.set (List.set (List.set (List.set (List.set (List.set (List.set (List.set (List.set (List.set (List.set (List.set (List.set (List.set (List.set (List.set (List.set (List.set (List.set (List.set (List.set (List.set (List.set (List.set (List.set (List.set (List.set (List.set (List.replicate 64 (0 : Int)) 0 (1116352408 : Int)) 1 (1899447441 : Int)) 2 (3049323471 : Int)) 3 (3921009573 : Int)) 4 (961987163 : Int)) 5 (1508970993 : Int)) 6 (2453635748 : Int)) 7 (2870763221 : Int)) 8 (3624381080 : Int)) 9 (310598401 : Int)) 10 (607225278 : Int)) 11 (1426881987 : Int)) 12 (1925078388 : Int)) 13 (2162078206 : Int)) 14 (2614888103 : Int)) 15 (3248222580 : Int)) 16 (3835390401 : Int)) 17 (4022224774 : Int)) 18 (264347078 : Int)) 19 (604807628 : Int)) 20 (770255983 : Int)) 21 (1249150122 : Int)) 22 (1555081692 : Int)) 23 (1996064986 : Int)) 24 (2554220882 : Int)) 25 (2821834349 : Int)) 26 (2952996808 : Int)) 27 (3210313671 : Int)) 28 (3336571891 : Int)) 29 (3584528711 : Int)) 30 (113926993 : Int)) 31 (338241895 : Int)) 32 (666307205 : Int)) 33 (773529912 : Int)) 34 (1294757372 : Int)) 35 (1396182291 : Int)) 36 (1695183700 : Int)) 37 (1986661051 : Int)) 38 (2177026350 : Int)) 39 (2456956037 : Int)) 40 (2730485921 : Int)) 41 (2820302411 : Int)) 42 (3259730800 : Int)) 43 (3345764771 : Int)) 44 (3516065817 : Int)) 45 (3600352804 : Int)) 46 (4094571909 : Int)) 47 (275423344 : Int)) 48 (430227734 : Int)) 49 (506948616 : Int)) 50 (659060556 : Int)) 51 (883997877 : Int)) 52 (958139571 : Int)) 53 (1322822218 : Int)) 54 (1537002063 : Int)) 55 (1747873779 : Int)) 56 (1955562222 : Int)) 57 (2024104815 : Int)) 58 (2227730452 : Int)) 59 (2361852424 : Int)) 60 (2428436474 : Int)) 61 (2756734187 : Int)) 62 (3204031479 : Int)) 63 (3329325298 : Int))

noncomputable def t_50 (N : Nat) : Tab (List Int) := []

theorem link_50 (N : Nat) (x : denS []) : evFX (E_50 N) N (t_50 N) L_50 Tryd.f75 (mkS [] 0 x) (kRes (.v (.sl (.int .u32))) 0) = porterref03_table N := by kernel_rfl

noncomputable def porterref03_table_res (N : Nat) : List A → Res := resOf [] (fun x => porterref03_table N) (oRes (.v (.sl (.int .u32))) 0)

theorem porterref03_table_ct (N : Nat) : Contract Tryd.prog glob 75 (porterref03_table_res N) :=
  Contract.of (E := E_50 N) (H := t_50 N) (L := L_50) (N := N) (body := body_50) (K := (kRes (.v (.sl (.int .u32))) 0)) (Eok_50 N) Tryd.func75 (by kernel_rfl) (by decide) (fun _ hb => TabOk.nil) (fun x y h => by rw [link_50]; exact h) (kRes_ok (s := (.v (.sl (.int .u32)))) (m := 0))

noncomputable def body_51 : Code := (Tryd.f76.body).getD .skip

noncomputable def L_51 : List (List Nat × List Nat) := [([0], [0]), ([0, 1], [0]), ([1, 1], [0])]

noncomputable def E_51 (N : Nat) : Env := mkEnv tys glob [] [] [] [] false [] [(86, hmac_framed1_itr N)]

theorem Eok_51 (N : Nat) : EnvOk Tryd.prog (E_51 N) := mkEnv_ok mixed tys_ok (FnsOk.nil) (ItsOk.cons (hmac_framed1_it N) (ItsOk.nil))

noncomputable def porterref03_First (N : Nat) : Option (List Int) :=
  some ([(1779033703 : Int), (3144134277 : Int), (1013904242 : Int), (2773480762 : Int), (1359893119 : Int), (2600822924 : Int), (528734635 : Int), (1541459225 : Int)] : List Int)

noncomputable def t_51 (N : Nat) : Tab (List Int) := []

theorem link_51 (N : Nat) (x : denS []) : evFX (E_51 N) N (t_51 N) L_51 Tryd.f76 (mkS [] 0 x) (kRes (.v (.arr 8 (.int .u32))) 0) = porterref03_First N := by kernel_rfl

noncomputable def porterref03_First_res (N : Nat) : List A → Res := resOf [] (fun x => porterref03_First N) (oRes (.v (.arr 8 (.int .u32))) 0)

theorem porterref03_First_ct (N : Nat) : Contract Tryd.prog glob 76 (porterref03_First_res N) :=
  Contract.of (E := E_51 N) (H := t_51 N) (L := L_51) (N := N) (body := body_51) (K := (kRes (.v (.arr 8 (.int .u32))) 0)) (Eok_51 N) Tryd.func76 (by kernel_rfl) (by decide) (fun _ hb => TabOk.nil) (fun x y h => by rw [link_51]; exact h) (kRes_ok (s := (.v (.arr 8 (.int .u32)))) (m := 0))

noncomputable def body_52 : Code := (Tryd.f90.body).getD .skip

noncomputable def L_52 : List (List Nat × List Nat) := [([0], [0, 1]), ([0, 1], [4]), ([1, 1], [4])]

noncomputable def E_52 (N : Nat) : Env := mkEnv tys glob [] [] [] [] false [] [(86, hmac_framed1_itr N)]

theorem Eok_52 (N : Nat) : EnvOk Tryd.prog (E_52 N) := mkEnv_ok mixed tys_ok (FnsOk.nil) (ItsOk.cons (hmac_framed1_it N) (ItsOk.nil))

noncomputable def porterref03_ror (N : Nat) (x0 : Int) (n : Int) : Option Int :=
  cond (decide ((0 : Int) ≤ (IntKind.wrap IntKind.u64 n)))
  (cond (decide ((0 : Int) ≤ (IntKind.wrap IntKind.u64 (IntKind.wrap IntKind.i64 ((32 : Int) - n)))))
    (some (bitsOp Go.BinOp.or IntKind.u32 (shrI IntKind.u32 x0 (IntKind.wrap IntKind.u64 n)) (shlI IntKind.u32 x0 (IntKind.wrap IntKind.u64 (IntKind.wrap IntKind.i64 ((32 : Int) - n))))))
    (none))
  (none)

noncomputable def t_52 (N : Nat) : Tab Int := []

theorem link_52 (N : Nat) (x : denS [(0, .v (.int .u32)), (0, .v (.int .i64))]) : evFX (E_52 N) N (t_52 N) L_52 Tryd.f90 (mkS [(0, .v (.int .u32)), (0, .v (.int .i64))] 0 x) (kRes (.v (.int .u32)) 2) = porterref03_ror N x.1 x.2.1 := by kernel_rfl

noncomputable def porterref03_ror_res (N : Nat) : List A → Res := resOf [(0, .v (.int .u32)), (0, .v (.int .i64))] (fun x => porterref03_ror N x.1 x.2.1) (oRes (.v (.int .u32)) 2)

theorem porterref03_ror_ct (N : Nat) : Contract Tryd.prog glob 90 (porterref03_ror_res N) :=
  Contract.of (E := E_52 N) (H := t_52 N) (L := L_52) (N := N) (body := body_52) (K := (kRes (.v (.int .u32)) 2)) (Eok_52 N) Tryd.func90 (by kernel_rfl) (by decide) (fun _ hb => TabOk.nil) (fun x y h => by rw [link_52]; exact h) (kRes_ok (s := (.v (.int .u32))) (m := 2))

noncomputable def body_53 : Code := (Tryd.f77.body).getD .skip

noncomputable def L_53 : List (List Nat × List Nat) := [([0], [2, 1, 4, 3, 8]), ([0, 1], [2, 9, 1, 4, 3, 8]), ([0, 0, 1, 1], [10, 2, 9, 1, 4, 3, 8]), ([0, 1, 0, 1, 1], [10, 2, 9, 1, 4, 3, 8]), ([0, 0, 0, 0, 1, 0, 1, 1], [26, 2, 10, 9, 1, 4, 3, 8]), ([1, 0, 0, 0, 1, 0, 1, 1], [2, 10, 9, 1, 4, 3, 8]), ([1, 1, 0, 0, 0, 1, 0, 1, 1], [9, 4, 3, 8]), ([0, 0, 0, 1, 0, 0, 1, 0, 1, 1], [9, 1, 11, 10, 2, 4, 3, 8]), ([1, 0, 0, 1, 0, 0, 1, 0, 1, 1], [10, 2, 9, 1, 4, 3, 8]), ([0, 1, 0, 0, 1, 0, 1, 1], [10, 2, 9, 1, 4, 3, 8]), ([1, 1, 0, 0, 1, 0, 1, 1], [10, 2, 9, 1, 4, 3, 8]), ([1, 0, 1, 1], [9, 4, 3, 8]), ([0, 0, 1, 1, 1], [12, 9, 4, 3, 8]), ([0, 1, 0, 1, 1, 1], [12, 9, 4, 3, 8]), ([0, 0, 0, 0, 1, 0, 1, 1, 1], [62, 9, 12, 4, 3, 8]), ([1, 0, 0, 0, 1, 0, 1, 1, 1], [9, 12, 4, 3, 8]), ([1, 1, 0, 0, 0, 1, 0, 1, 1, 1], [4, 3, 9, 8]), ([0, 0, 0, 1, 0, 0, 1, 0, 1, 1, 1], [13, 14, 9, 12, 4, 3, 8]), ([0, 1, 0, 0, 1, 0, 0, 1, 0, 1, 1, 1], [14, 9, 12, 15, 4, 3, 8]), ([0, 1, 1, 0, 0, 1, 0, 0, 1, 0, 1, 1, 1], [9, 16, 12, 15, 4, 3, 8]), ([1, 1, 1, 0, 0, 1, 0, 0, 1, 0, 1, 1, 1], [12, 9, 4, 3, 8]), ([0, 1, 0, 0, 1, 0, 1, 1, 1], [12, 9, 4, 3, 8]), ([1, 1, 0, 0, 1, 0, 1, 1, 1], [12, 9, 4, 3, 8]), ([1, 0, 1, 1, 1], [4, 3, 9, 8]), ([0, 1, 1, 1, 1], [17, 3, 9, 4, 8]), ([0, 0, 1, 1, 1, 1, 1], [18, 17, 3, 9, 4, 8]), ([0, 1, 0, 1, 1, 1, 1, 1], [18, 17, 3, 9, 4, 8]), ([0, 0, 0, 0, 1, 0, 1, 1, 1, 1, 1], [111, 17, 3, 18, 9, 4, 8]), ([1, 0, 0, 0, 1, 0, 1, 1, 1, 1, 1], [17, 3, 18, 9, 4, 8]), ([1, 1, 0, 0, 0, 1, 0, 1, 1, 1, 1, 1], [17, 4, 8]), ([0, 0, 0, 1, 0, 0, 1, 0, 1, 1, 1, 1, 1], [17, 19, 3, 18, 9, 4, 8]), ([0, 1, 0, 0, 1, 0, 0, 1, 0, 1, 1, 1, 1, 1], [17, 19, 20, 3, 18, 9, 4, 8]), ([0, 1, 1, 0, 0, 1, 0, 0, 1, 0, 1, 1, 1, 1, 1], [17, 21, 18, 3, 9, 4, 8]), ([0, 1, 1, 1, 0, 0, 1, 0, 0, 1, 0, 1, 1, 1, 1, 1], [17, 21, 22, 18, 3, 9, 4, 8]), ([0, 1, 1, 1, 1, 0, 0, 1, 0, 0, 1, 0, 1, 1, 1, 1, 1], [21, 22, 23, 17, 18, 3, 9, 4, 8]), ([1, 1, 1, 1, 1, 0, 0, 1, 0, 0, 1, 0, 1, 1, 1, 1, 1], [18, 17, 3, 9, 4, 8]), ([0, 1, 0, 0, 1, 0, 1, 1, 1, 1, 1], [18, 17, 3, 9, 4, 8]), ([1, 1, 0, 0, 1, 0, 1, 1, 1, 1, 1], [18, 17, 3, 9, 4, 8]), ([1, 0, 1, 1, 1, 1, 1], [17, 4, 8]), ([0, 0, 1, 1, 1, 1, 1, 1], [24, 17, 4, 8]), ([0, 1, 0, 1, 1, 1, 1, 1, 1], [24, 17, 4, 8]), ([0, 0, 0, 0, 1, 0, 1, 1, 1, 1, 1, 1], [204, 24, 17, 4, 8]), ([1, 0, 0, 0, 1, 0, 1, 1, 1, 1, 1, 1], [24, 17, 4, 8]), ([1, 1, 0, 0, 0, 1, 0, 1, 1, 1, 1, 1, 1], [17, 8]), ([0, 0, 1, 0, 0, 1, 0, 1, 1, 1, 1, 1, 1], [24, 17, 4, 8]), ([0, 1, 0, 0, 1, 0, 1, 1, 1, 1, 1, 1], [24, 17, 4, 8]), ([1, 1, 0, 0, 1, 0, 1, 1, 1, 1, 1, 1], [24, 17, 4, 8]), ([1, 0, 1, 1, 1, 1, 1, 1], [17, 8]), ([0, 1, 1, 1, 1, 1, 1, 1], [8]), ([1, 1, 1, 1, 1, 1, 1, 1], [8])]

noncomputable def E_53 (N : Nat) : Env := mkEnv tys glob [(90, porterref03_ror_res N)] [(9, (.int .u32))] [] [] false [] [(86, hmac_framed1_itr N)]

theorem Eok_53 (N : Nat) : EnvOk Tryd.prog (E_53 N) := mkEnv_ok mixed tys_ok (FnsOk.cons (porterref03_ror_ct N) (FnsOk.nil)) (ItsOk.cons (hmac_framed1_it N) (ItsOk.nil))

noncomputable def porterref03_step_s1 (N : Nat) (s : (List UInt8)) (at_ : Int) (k : (List Int)) (h : (List Int)) (x8 : (List Int)) (w : (List Int)) (t : Int) (rec : (List Int) → Int → Option (List Int)) (k0 : (List Int) → Option (List Int)) : Option (List Int) :=
  cond (decide (t < (16 : Int)))
  (cond (inR (IntKind.wrap IntKind.i64 (at_ + (IntKind.wrap IntKind.i64 ((4 : Int) * t)))) (List.length s))
    (cond (inR (IntKind.wrap IntKind.i64 ((IntKind.wrap IntKind.i64 (at_ + (IntKind.wrap IntKind.i64 ((4 : Int) * t)))) + (1 : Int))) (List.length s))
      (cond (inR (IntKind.wrap IntKind.i64 ((IntKind.wrap IntKind.i64 (at_ + (IntKind.wrap IntKind.i64 ((4 : Int) * t)))) + (2 : Int))) (List.length s))
        (cond (inR (IntKind.wrap IntKind.i64 ((IntKind.wrap IntKind.i64 (at_ + (IntKind.wrap IntKind.i64 ((4 : Int) * t)))) + (3 : Int))) (List.length s))
          (cond (decide ((((List.length w) + 1) * 4) ≤ 70368744177664))
            (rec (w ++ ([(IntKind.wrap IntKind.u32 ((IntKind.wrap IntKind.u32 ((IntKind.wrap IntKind.u32 ((shlI IntKind.u32 (IntKind.wrap IntKind.u32 (((UInt8.toNat (List.getD s (Int.toNat (IntKind.wrap IntKind.i64 (at_ + (IntKind.wrap IntKind.i64 ((4 : Int) * t))))) (0 : UInt8))) : Nat) : Int)) (24 : Int)) + (shlI IntKind.u32 (IntKind.wrap IntKind.u32 (((UInt8.toNat (List.getD s (Int.toNat (IntKind.wrap IntKind.i64 ((IntKind.wrap IntKind.i64 (at_ + (IntKind.wrap IntKind.i64 ((4 : Int) * t)))) + (1 : Int)))) (0 : UInt8))) : Nat) : Int)) (16 : Int)))) + (shlI IntKind.u32 (IntKind.wrap IntKind.u32 (((UInt8.toNat (List.getD s (Int.toNat (IntKind.wrap IntKind.i64 ((IntKind.wrap IntKind.i64 (at_ + (IntKind.wrap IntKind.i64 ((4 : Int) * t)))) + (2 : Int)))) (0 : UInt8))) : Nat) : Int)) (8 : Int)))) + (IntKind.wrap IntKind.u32 (((UInt8.toNat (List.getD s (Int.toNat (IntKind.wrap IntKind.i64 ((IntKind.wrap IntKind.i64 (at_ + (IntKind.wrap IntKind.i64 ((4 : Int) * t)))) + (3 : Int)))) (0 : UInt8))) : Nat) : Int))))] : List Int)) (IntKind.wrap IntKind.i64 (t + (1 : Int))))
            (none))
          (none))
        (none))
      (none))
    (none))
  (k0 w)

noncomputable def porterref03_step_p1 (N : Nat) (s : (List UInt8)) (at_ : Int) (k : (List Int)) (h : (List Int)) (x8 : (List Int)) (w : (List Int)) (t : Int) (k0 : (List Int) → Option (List Int)) : Option (List Int) :=
  iter (fun (v : ((List Int) × Int)) r => porterref03_step_s1 N s at_ k h x8 v.1 v.2 (fun w t => (r (w, t))) k0) N (w, t)

noncomputable def g1_53 (N : Nat) (i : ((List UInt8) × Int × (List Int) × (List Int) × (List Int))) (v : ((List Int) × Int)) (r : ((List Int) × Int) → Option (List Int)) (K : Ex → List A → Option (List Int)) : Option (List Int) :=
  porterref03_step_s1 N i.1 i.2.1 i.2.2.1 i.2.2.2.1 i.2.2.2.2 v.1 v.2 (fun w t => (r (w, t))) (fun a3 => (K (.exit 0) (mkS [(3, .v (.sl (.int .u32))), (0, .box (.arr 8 (.int .u32))), (3, .box (.arr 8 (.int .u32))), (0, .row (.int .u32))] 207 (i.2.2.1, i.2.2.2.1, i.2.2.2.2, a3, ()))))

noncomputable def h1_53 (N : Nat) : Hd (List Int) := fun st K => (unS [(1, .v .str), (0, .v (.int .i64)), (0, .v (.sl (.int .u32))), (0, .box (.arr 8 (.int .u32))), (3, .box (.arr 8 (.int .u32))), (0, .row (.int .u32)), (0, .v (.int .i64))] 206 (restr [10, 2, 9, 1, 4, 3, 8] 0 st)).bind fun x => iter (fun v r => g1_53 N ((fun x => (x.1, x.2.1, x.2.2.1, x.2.2.2.1, x.2.2.2.2.1)) x) v r K) N ((fun x => (x.2.2.2.2.2.1, x.2.2.2.2.2.2.1)) x)

noncomputable def t1_53 (N : Nat) : Tab (List Int) := []

theorem ok1_53 {N : Nat} {c : Ctx} (hb : Base Tryd.prog (E_53 N) c) : CodeOk Tryd.prog c (nodeAt body_53 [0, 1, 0, 1, 1]) (h1_53 N) :=
  loop_ok (s := [(1, .v .str), (0, .v (.int .i64)), (0, .v (.sl (.int .u32))), (0, .box (.arr 8 (.int .u32))), (3, .box (.arr 8 (.int .u32))), (0, .row (.int .u32)), (0, .v (.int .i64))]) (m := 206) (g1_53 N) [10, 2, 9, 1, 4, 3, 8] N (fun x => (x.1, x.2.1, x.2.2.1, x.2.2.2.1, x.2.2.2.2.1)) (fun x => (x.2.2.2.2.2.1, x.2.2.2.2.2.2.1)) (fun i v => (i.1, i.2.1, i.2.2.1, i.2.2.2.1, i.2.2.2.2, v.1, v.2, ())) (fun _ => rfl) (evN_sound hb N (t1_53 N) L_53 body_53 TabOk.nil [0, 0, 1, 0, 1, 1] _ rfl) (fun i v r K => by kernel_rfl)

noncomputable def porterref03_step_s2 (N : Nat) (k : (List Int)) (h : (List Int)) (x8 : (List Int)) (w : (List Int)) (t : Int) (rec : (List Int) → Int → Option (List Int)) (k0 : (List Int) → Option (List Int)) : Option (List Int) :=
  cond (decide (t < (64 : Int)))
  (cond (inR (IntKind.wrap IntKind.i64 (t - (15 : Int))) (List.length w))
    (cond (decide ((Int.toNat (IntKind.wrap IntKind.i64 (t - (15 : Int)))) < (List.length w)))
      (cond (inR (IntKind.wrap IntKind.i64 (t - (2 : Int))) (List.length w))
        (cond (decide ((Int.toNat (IntKind.wrap IntKind.i64 (t - (2 : Int)))) < (List.length w)))
          (cond (inR (IntKind.wrap IntKind.i64 (t - (7 : Int))) (List.length w))
            (cond (decide ((Int.toNat (IntKind.wrap IntKind.i64 (t - (7 : Int)))) < (List.length w)))
              (cond (inR (IntKind.wrap IntKind.i64 (t - (16 : Int))) (List.length w))
                (cond (decide ((Int.toNat (IntKind.wrap IntKind.i64 (t - (16 : Int)))) < (List.length w)))
                  (cond (decide ((((List.length w) + 1) * 4) ≤ 70368744177664))
                    (rec (w ++ ([(IntKind.wrap IntKind.u32 ((IntKind.wrap IntKind.u32 ((IntKind.wrap IntKind.u32 ((bitsOp Go.BinOp.xor IntKind.u32 (bitsOp Go.BinOp.xor IntKind.u32 (bitsOp Go.BinOp.or IntKind.u32 (shrI IntKind.u32 (List.getD w (Int.toNat (IntKind.wrap IntKind.i64 (t - (2 : Int)))) (0 : Int)) (IntKind.wrap IntKind.u64 (17 : Int))) (shlI IntKind.u32 (List.getD w (Int.toNat (IntKind.wrap IntKind.i64 (t - (2 : Int)))) (0 : Int)) (IntKind.wrap IntKind.u64 (IntKind.wrap IntKind.i64 ((32 : Int) - (17 : Int)))))) (bitsOp Go.BinOp.or IntKind.u32 (shrI IntKind.u32 (List.getD w (Int.toNat (IntKind.wrap IntKind.i64 (t - (2 : Int)))) (0 : Int)) (IntKind.wrap IntKind.u64 (19 : Int))) (shlI IntKind.u32 (List.getD w (Int.toNat (IntKind.wrap IntKind.i64 (t - (2 : Int)))) (0 : Int)) (IntKind.wrap IntKind.u64 (IntKind.wrap IntKind.i64 ((32 : Int) - (19 : Int))))))) (shrI IntKind.u32 (List.getD w (Int.toNat (IntKind.wrap IntKind.i64 (t - (2 : Int)))) (0 : Int)) (10 : Int))) + (List.getD w (Int.toNat (IntKind.wrap IntKind.i64 (t - (7 : Int)))) (0 : Int)))) + (bitsOp Go.BinOp.xor IntKind.u32 (bitsOp Go.BinOp.xor IntKind.u32 (bitsOp Go.BinOp.or IntKind.u32 (shrI IntKind.u32 (List.getD w (Int.toNat (IntKind.wrap IntKind.i64 (t - (15 : Int)))) (0 : Int)) (IntKind.wrap IntKind.u64 (7 : Int))) (shlI IntKind.u32 (List.getD w (Int.toNat (IntKind.wrap IntKind.i64 (t - (15 : Int)))) (0 : Int)) (IntKind.wrap IntKind.u64 (IntKind.wrap IntKind.i64 ((32 : Int) - (7 : Int)))))) (bitsOp Go.BinOp.or IntKind.u32 (shrI IntKind.u32 (List.getD w (Int.toNat (IntKind.wrap IntKind.i64 (t - (15 : Int)))) (0 : Int)) (IntKind.wrap IntKind.u64 (18 : Int))) (shlI IntKind.u32 (List.getD w (Int.toNat (IntKind.wrap IntKind.i64 (t - (15 : Int)))) (0 : Int)) (IntKind.wrap IntKind.u64 (IntKind.wrap IntKind.i64 ((32 : Int) - (18 : Int))))))) (shrI IntKind.u32 (List.getD w (Int.toNat (IntKind.wrap IntKind.i64 (t - (15 : Int)))) (0 : Int)) (3 : Int))))) + (List.getD w (Int.toNat (IntKind.wrap IntKind.i64 (t - (16 : Int)))) (0 : Int))))] : List Int)) (IntKind.wrap IntKind.i64 (t + (1 : Int))))
                    (none))
                  (none))
                (none))
              (none))
            (none))
          (none))
        (none))
      (none))
    (none))
  (k0 w)

noncomputable def porterref03_step_p2 (N : Nat) (k : (List Int)) (h : (List Int)) (x8 : (List Int)) (w : (List Int)) (t : Int) (k0 : (List Int) → Option (List Int)) : Option (List Int) :=
  iter (fun (v : ((List Int) × Int)) r => porterref03_step_s2 N k h x8 v.1 v.2 (fun w t => (r (w, t))) k0) N (w, t)

noncomputable def g2_53 (N : Nat) (i : ((List Int) × (List Int) × (List Int))) (v : ((List Int) × Int)) (r : ((List Int) × Int) → Option (List Int)) (K : Ex → List A → Option (List Int)) : Option (List Int) :=
  porterref03_step_s2 N i.1 i.2.1 i.2.2 v.1 v.2 (fun w t => (r (w, t))) (fun a3 => (K (.exit 2) (mkS [(3, .v (.sl (.int .u32))), (0, .box (.arr 8 (.int .u32))), (3, .box (.arr 8 (.int .u32))), (0, .row (.int .u32))] 207 (i.1, i.2.1, i.2.2, a3, ()))))

noncomputable def h2_53 (N : Nat) : Hd (List Int) := fun st K => (unS [(3, .v (.sl (.int .u32))), (0, .box (.arr 8 (.int .u32))), (3, .box (.arr 8 (.int .u32))), (0, .row (.int .u32)), (2, .v (.int .i64))] 204 (restr [12, 9, 4, 3, 8] 0 st)).bind fun x => iter (fun v r => g2_53 N ((fun x => (x.1, x.2.1, x.2.2.1)) x) v r K) N ((fun x => (x.2.2.2.1, x.2.2.2.2.1)) x)

noncomputable def t2_53 (N : Nat) : Tab (List Int) := []

theorem ok2_53 {N : Nat} {c : Ctx} (hb : Base Tryd.prog (E_53 N) c) : CodeOk Tryd.prog c (nodeAt body_53 [0, 1, 0, 1, 1, 1]) (h2_53 N) :=
  loop_ok (s := [(3, .v (.sl (.int .u32))), (0, .box (.arr 8 (.int .u32))), (3, .box (.arr 8 (.int .u32))), (0, .row (.int .u32)), (2, .v (.int .i64))]) (m := 204) (g2_53 N) [12, 9, 4, 3, 8] N (fun x => (x.1, x.2.1, x.2.2.1)) (fun x => (x.2.2.2.1, x.2.2.2.2.1)) (fun i v => (i.1, i.2.1, i.2.2, v.1, v.2, ())) (fun _ => rfl) (evN_sound hb N (t2_53 N) L_53 body_53 TabOk.nil [0, 0, 1, 0, 1, 1, 1] _ rfl) (fun i v r K => by kernel_rfl)

noncomputable def porterref03_step_s3 (N : Nat) (k : (List Int)) (h : (List Int)) (x8 : (List Int)) (w : (List Int)) (v_ : (List Int)) (t : Int) (rec : (List Int) → Int → Option (List Int)) (k0 : (List Int) → Option (List Int)) : Option (List Int) :=
  cond (decide (t < (64 : Int)))
  (cond (decide (4 < (List.length v_)))
    (cond (decide (4 < (List.length v_)))
      (cond (decide (4 < (List.length v_)))
        (cond (decide (4 < (List.length v_)))
          (cond (decide (5 < (List.length v_)))
            (cond (decide (4 < (List.length v_)))
              (cond (decide (6 < (List.length v_)))
                (cond (decide (7 < (List.length v_)))
                  (cond (inR t (List.length k))
                    (cond (inR t (List.length w))
                      (cond (decide ((Int.toNat t) < (List.length w)))
                        (cond (decide (0 < (List.length v_)))
                          (cond (decide (0 < (List.length v_)))
                            (cond (decide (0 < (List.length v_)))
                              (cond (decide (0 < (List.length v_)))
                                (cond (decide (1 < (List.length v_)))
                                  (cond (decide (0 < (List.length v_)))
                                    (cond (decide (2 < (List.length v_)))
                                      (cond (decide (1 < (List.length v_)))
                                        (cond (decide (2 < (List.length v_)))
                                          (cond (decide (0 < (List.length v_)))
                                            (cond (decide (1 < (List.length v_)))
                                              (cond (decide (2 < (List.length v_)))
                                                (cond (decide (3 < (List.length v_)))
                                                  (cond (decide (4 < (List.length v_)))
                                                    (cond (decide (5 < (List.length v_)))
                                                      (cond (decide (6 < (List.length v_)))
                                                        (rec ([(IntKind.wrap IntKind.u32 ((IntKind.wrap IntKind.u32 ((IntKind.wrap IntKind.u32 ((IntKind.wrap IntKind.u32 ((IntKind.wrap IntKind.u32 ((IntKind.wrap IntKind.u32 ((List.getD v_ 7 (0 : Int)) + (bitsOp Go.BinOp.xor IntKind.u32 (bitsOp Go.BinOp.xor IntKind.u32 (bitsOp Go.BinOp.or IntKind.u32 (shrI IntKind.u32 (List.getD v_ 4 (0 : Int)) (IntKind.wrap IntKind.u64 (6 : Int))) (shlI IntKind.u32 (List.getD v_ 4 (0 : Int)) (IntKind.wrap IntKind.u64 (IntKind.wrap IntKind.i64 ((32 : Int) - (6 : Int)))))) (bitsOp Go.BinOp.or IntKind.u32 (shrI IntKind.u32 (List.getD v_ 4 (0 : Int)) (IntKind.wrap IntKind.u64 (11 : Int))) (shlI IntKind.u32 (List.getD v_ 4 (0 : Int)) (IntKind.wrap IntKind.u64 (IntKind.wrap IntKind.i64 ((32 : Int) - (11 : Int))))))) (bitsOp Go.BinOp.or IntKind.u32 (shrI IntKind.u32 (List.getD v_ 4 (0 : Int)) (IntKind.wrap IntKind.u64 (25 : Int))) (shlI IntKind.u32 (List.getD v_ 4 (0 : Int)) (IntKind.wrap IntKind.u64 (IntKind.wrap IntKind.i64 ((32 : Int) - (25 : Int))))))))) + (bitsOp Go.BinOp.xor IntKind.u32 (bitsOp Go.BinOp.and IntKind.u32 (List.getD v_ 4 (0 : Int)) (List.getD v_ 5 (0 : Int))) (bitsOp Go.BinOp.and IntKind.u32 (bitsOp Go.BinOp.xor IntKind.u32 (if ((IntKind.signed IntKind.u32) = true) then (-(1 : Int)) else (IntKind.max IntKind.u32)) (List.getD v_ 4 (0 : Int))) (List.getD v_ 6 (0 : Int)))))) + (List.getD k (Int.toNat t) (0 : Int)))) + (List.getD w (Int.toNat t) (0 : Int)))) + (bitsOp Go.BinOp.xor IntKind.u32 (bitsOp Go.BinOp.xor IntKind.u32 (bitsOp Go.BinOp.or IntKind.u32 (shrI IntKind.u32 (List.getD v_ 0 (0 : Int)) (IntKind.wrap IntKind.u64 (2 : Int))) (shlI IntKind.u32 (List.getD v_ 0 (0 : Int)) (IntKind.wrap IntKind.u64 (IntKind.wrap IntKind.i64 ((32 : Int) - (2 : Int)))))) (bitsOp Go.BinOp.or IntKind.u32 (shrI IntKind.u32 (List.getD v_ 0 (0 : Int)) (IntKind.wrap IntKind.u64 (13 : Int))) (shlI IntKind.u32 (List.getD v_ 0 (0 : Int)) (IntKind.wrap IntKind.u64 (IntKind.wrap IntKind.i64 ((32 : Int) - (13 : Int))))))) (bitsOp Go.BinOp.or IntKind.u32 (shrI IntKind.u32 (List.getD v_ 0 (0 : Int)) (IntKind.wrap IntKind.u64 (22 : Int))) (shlI IntKind.u32 (List.getD v_ 0 (0 : Int)) (IntKind.wrap IntKind.u64 (IntKind.wrap IntKind.i64 ((32 : Int) - (22 : Int))))))))) + (bitsOp Go.BinOp.xor IntKind.u32 (bitsOp Go.BinOp.xor IntKind.u32 (bitsOp Go.BinOp.and IntKind.u32 (List.getD v_ 0 (0 : Int)) (List.getD v_ 1 (0 : Int))) (bitsOp Go.BinOp.and IntKind.u32 (List.getD v_ 0 (0 : Int)) (List.getD v_ 2 (0 : Int)))) (bitsOp Go.BinOp.and IntKind.u32 (List.getD v_ 1 (0 : Int)) (List.getD v_ 2 (0 : Int)))))), (List.getD v_ 0 (0 : Int)), (List.getD v_ 1 (0 : Int)), (List.getD v_ 2 (0 : Int)), (IntKind.wrap IntKind.u32 ((List.getD v_ 3 (0 : Int)) + (IntKind.wrap IntKind.u32 ((IntKind.wrap IntKind.u32 ((IntKind.wrap IntKind.u32 ((IntKind.wrap IntKind.u32 ((List.getD v_ 7 (0 : Int)) + (bitsOp Go.BinOp.xor IntKind.u32 (bitsOp Go.BinOp.xor IntKind.u32 (bitsOp Go.BinOp.or IntKind.u32 (shrI IntKind.u32 (List.getD v_ 4 (0 : Int)) (IntKind.wrap IntKind.u64 (6 : Int))) (shlI IntKind.u32 (List.getD v_ 4 (0 : Int)) (IntKind.wrap IntKind.u64 (IntKind.wrap IntKind.i64 ((32 : Int) - (6 : Int)))))) (bitsOp Go.BinOp.or IntKind.u32 (shrI IntKind.u32 (List.getD v_ 4 (0 : Int)) (IntKind.wrap IntKind.u64 (11 : Int))) (shlI IntKind.u32 (List.getD v_ 4 (0 : Int)) (IntKind.wrap IntKind.u64 (IntKind.wrap IntKind.i64 ((32 : Int) - (11 : Int))))))) (bitsOp Go.BinOp.or IntKind.u32 (shrI IntKind.u32 (List.getD v_ 4 (0 : Int)) (IntKind.wrap IntKind.u64 (25 : Int))) (shlI IntKind.u32 (List.getD v_ 4 (0 : Int)) (IntKind.wrap IntKind.u64 (IntKind.wrap IntKind.i64 ((32 : Int) - (25 : Int))))))))) + (bitsOp Go.BinOp.xor IntKind.u32 (bitsOp Go.BinOp.and IntKind.u32 (List.getD v_ 4 (0 : Int)) (List.getD v_ 5 (0 : Int))) (bitsOp Go.BinOp.and IntKind.u32 (bitsOp Go.BinOp.xor IntKind.u32 (if ((IntKind.signed IntKind.u32) = true) then (-(1 : Int)) else (IntKind.max IntKind.u32)) (List.getD v_ 4 (0 : Int))) (List.getD v_ 6 (0 : Int)))))) + (List.getD k (Int.toNat t) (0 : Int)))) + (List.getD w (Int.toNat t) (0 : Int)))))), (List.getD v_ 4 (0 : Int)), (List.getD v_ 5 (0 : Int)), (List.getD v_ 6 (0 : Int))] : List Int) (IntKind.wrap IntKind.i64 (t + (1 : Int))))
                                                        (none))
                                                      (none))
                                                    (none))
                                                  (none))
                                                (none))
                                              (none))
                                            (none))
                                          (none))
                                        (none))
                                      (none))
                                    (none))
                                  (none))
                                (none))
                              (none))
                            (none))
                          (none))
                        (none))
                      (none))
                    (none))
                  (none))
                (none))
              (none))
            (none))
          (none))
        (none))
      (none))
    (none))
  (k0 v_)

noncomputable def porterref03_step_p3 (N : Nat) (k : (List Int)) (h : (List Int)) (x8 : (List Int)) (w : (List Int)) (v_ : (List Int)) (t : Int) (k0 : (List Int) → Option (List Int)) : Option (List Int) :=
  iter (fun (v : ((List Int) × Int)) r => porterref03_step_s3 N k h x8 w v.1 v.2 (fun v_ t => (r (v_, t))) k0) N (v_, t)

noncomputable def g3_53 (N : Nat) (i : ((List Int) × (List Int) × (List Int) × (List Int))) (v : ((List Int) × Int)) (r : ((List Int) × Int) → Option (List Int)) (K : Ex → List A → Option (List Int)) : Option (List Int) :=
  porterref03_step_s3 N i.1 i.2.1 i.2.2.1 i.2.2.2 v.1 v.2 (fun v_ t => (r (v_, t))) (fun a2 => (K (.exit 4) (mkS [(4, .box (.arr 8 (.int .u32))), (3, .box (.arr 8 (.int .u32))), (8, .box (.arr 8 (.int .u32)))] 199 (i.2.1, i.2.2.1, a2, ()))))

noncomputable def h3_53 (N : Nat) : Hd (List Int) := fun st K => (unS [(3, .v (.sl (.int .u32))), (0, .box (.arr 8 (.int .u32))), (3, .box (.arr 8 (.int .u32))), (0, .row (.int .u32)), (7, .box (.arr 8 (.int .u32))), (0, .v (.int .i64))] 198 (restr [18, 17, 3, 9, 4, 8] 0 st)).bind fun x => iter (fun v r => g3_53 N ((fun x => (x.1, x.2.1, x.2.2.1, x.2.2.2.1)) x) v r K) N ((fun x => (x.2.2.2.2.1, x.2.2.2.2.2.1)) x)

noncomputable def t3_53 (N : Nat) : Tab (List Int) := []

theorem ok3_53 {N : Nat} {c : Ctx} (hb : Base Tryd.prog (E_53 N) c) : CodeOk Tryd.prog c (nodeAt body_53 [0, 1, 0, 1, 1, 1, 1, 1]) (h3_53 N) :=
  loop_ok (s := [(3, .v (.sl (.int .u32))), (0, .box (.arr 8 (.int .u32))), (3, .box (.arr 8 (.int .u32))), (0, .row (.int .u32)), (7, .box (.arr 8 (.int .u32))), (0, .v (.int .i64))]) (m := 198) (g3_53 N) [18, 17, 3, 9, 4, 8] N (fun x => (x.1, x.2.1, x.2.2.1, x.2.2.2.1)) (fun x => (x.2.2.2.2.1, x.2.2.2.2.2.1)) (fun i v => (i.1, i.2.1, i.2.2.1, i.2.2.2, v.1, v.2, ())) (fun _ => rfl) (evN_sound hb N (t3_53 N) L_53 body_53 TabOk.nil [0, 0, 1, 0, 1, 1, 1, 1, 1] _ rfl) (fun i v r K => by kernel_rfl)

noncomputable def porterref03_step_s4 (N : Nat) (h : (List Int)) (x8 : (List Int)) (v_ : (List Int)) (i : Int) (rec : (List Int) → Int → Option (List Int)) (k0 : (List Int) → Option (List Int)) : Option (List Int) :=
  cond (decide (i < (8 : Int)))
  (cond (inR i 8)
    (cond (decide ((Int.toNat i) < (List.length v_)))
      (cond (inR i 8)
        (cond (decide ((Int.toNat i) < (List.length h)))
          (cond (inR i 8)
            (cond (decide ((Int.toNat i) < (List.length v_)))
              (rec (List.set v_ (Int.toNat i) (IntKind.wrap IntKind.u32 ((List.getD v_ (Int.toNat i) (0 : Int)) + (List.getD h (Int.toNat i) (0 : Int))))) (IntKind.wrap IntKind.i64 (i + (1 : Int))))
              (none))
            (none))
          (none))
        (none))
      (none))
    (none))
  (k0 v_)

noncomputable def porterref03_step_p4 (N : Nat) (h : (List Int)) (x8 : (List Int)) (v_ : (List Int)) (i : Int) (k0 : (List Int) → Option (List Int)) : Option (List Int) :=
  iter (fun (v : ((List Int) × Int)) r => porterref03_step_s4 N h x8 v.1 v.2 (fun v_ i => (r (v_, i))) k0) N (v_, i)

noncomputable def g4_53 (N : Nat) (i : ((List Int) × (List Int))) (v : ((List Int) × Int)) (r : ((List Int) × Int) → Option (List Int)) (K : Ex → List A → Option (List Int)) : Option (List Int) :=
  porterref03_step_s4 N i.1 i.2 v.1 v.2 (fun v_ i => (r (v_, i))) (fun a1 => (K (.exit 6) (mkS [(8, .box (.arr 8 (.int .u32))), (8, .box (.arr 8 (.int .u32)))] 199 (i.2, a1, ()))))

noncomputable def h4_53 (N : Nat) : Hd (List Int) := fun st K => (unS [(4, .box (.arr 8 (.int .u32))), (3, .box (.arr 8 (.int .u32))), (8, .box (.arr 8 (.int .u32))), (6, .v (.int .i64))] 192 (restr [24, 17, 4, 8] 0 st)).bind fun x => iter (fun v r => g4_53 N ((fun x => (x.1, x.2.1)) x) v r K) N ((fun x => (x.2.2.1, x.2.2.2.1)) x)

noncomputable def t4_53 (N : Nat) : Tab (List Int) := []

theorem ok4_53 {N : Nat} {c : Ctx} (hb : Base Tryd.prog (E_53 N) c) : CodeOk Tryd.prog c (nodeAt body_53 [0, 1, 0, 1, 1, 1, 1, 1, 1]) (h4_53 N) :=
  loop_ok (s := [(4, .box (.arr 8 (.int .u32))), (3, .box (.arr 8 (.int .u32))), (8, .box (.arr 8 (.int .u32))), (6, .v (.int .i64))]) (m := 192) (g4_53 N) [24, 17, 4, 8] N (fun x => (x.1, x.2.1)) (fun x => (x.2.2.1, x.2.2.2.1)) (fun i v => (i.1, i.2, v.1, v.2, ())) (fun _ => rfl) (evN_sound hb N (t4_53 N) L_53 body_53 TabOk.nil [0, 0, 1, 0, 1, 1, 1, 1, 1, 1] _ rfl) (fun i v r K => by kernel_rfl)

noncomputable def porterref03_step (N : Nat) (h : (List Int)) (s : (List UInt8)) (at_ : Int) (k : (List Int)) : Option (List Int) :=
  porterref03_step_p1 N s at_ k h ([(0 : Int), (0 : Int), (0 : Int), (0 : Int), (0 : Int), (0 : Int), (0 : Int), (0 : Int)] : List Int) ([] : List Int) (0 : Int)
  (fun w => porterref03_step_p2 N k h ([(0 : Int), (0 : Int), (0 : Int), (0 : Int), (0 : Int), (0 : Int), (0 : Int), (0 : Int)] : List Int) w (16 : Int)
    (fun w1 => porterref03_step_p3 N k h ([(0 : Int), (0 : Int), (0 : Int), (0 : Int), (0 : Int), (0 : Int), (0 : Int), (0 : Int)] : List Int) w1 h (0 : Int)
      (fun v_ => porterref03_step_p4 N h ([(0 : Int), (0 : Int), (0 : Int), (0 : Int), (0 : Int), (0 : Int), (0 : Int), (0 : Int)] : List Int) v_ (0 : Int)
        (fun v_1 => some v_1))))

noncomputable def t_53 (N : Nat) : Tab (List Int) := [([0, 1, 0, 1, 1], h1_53 N), ([0, 1, 0, 1, 1, 1], h2_53 N), ([0, 1, 0, 1, 1, 1, 1, 1], h3_53 N), ([0, 1, 0, 1, 1, 1, 1, 1, 1], h4_53 N)]

theorem link_53 (N : Nat) (x : denS [(0, .v (.arr 8 (.int .u32))), (0, .v .str), (0, .v (.int .i64)), (0, .v (.sl (.int .u32)))]) : evFX (E_53 N) N (t_53 N) L_53 Tryd.f77 (mkS [(0, .v (.arr 8 (.int .u32))), (0, .v .str), (0, .v (.int .i64)), (0, .v (.sl (.int .u32)))] 0 x) (kRes (.v (.arr 8 (.int .u32))) 4) = porterref03_step N x.1 x.2.1 x.2.2.1 x.2.2.2.1 := by kernel_rfl

noncomputable def porterref03_step_res (N : Nat) : List A → Res := resOf [(0, .v (.arr 8 (.int .u32))), (0, .v .str), (0, .v (.int .i64)), (0, .v (.sl (.int .u32)))] (fun x => porterref03_step N x.1 x.2.1 x.2.2.1 x.2.2.2.1) (oRes (.v (.arr 8 (.int .u32))) 4)

theorem porterref03_step_ct (N : Nat) : Contract Tryd.prog glob 77 (porterref03_step_res N) :=
  Contract.of (E := E_53 N) (H := t_53 N) (L := L_53) (N := N) (body := body_53) (K := (kRes (.v (.arr 8 (.int .u32))) 4)) (Eok_53 N) Tryd.func77 (by kernel_rfl) (by decide) (fun _ hb => (TabOk.cons (ok1_53 hb) (TabOk.cons (ok2_53 hb) (TabOk.cons (ok3_53 hb) (TabOk.cons (ok4_53 hb) TabOk.nil))))) (fun x y h => by rw [link_53]; exact h) (kRes_ok (s := (.v (.arr 8 (.int .u32)))) (m := 4))

noncomputable def body_54 : Code := (Tryd.f78.body).getD .skip

noncomputable def L_54 : List (List Nat × List Nat) := [([0], [1]), ([0, 1], [3, 1]), ([0, 0, 1, 1], [4, 3, 1]), ([0, 1, 0, 1, 1], [4, 3, 1]), ([0, 0, 0, 0, 1, 0, 1, 1], [6, 3, 4, 1]), ([1, 0, 0, 0, 1, 0, 1, 1], [3, 4, 1]), ([1, 1, 0, 0, 0, 1, 0, 1, 1], [3]), ([0, 0, 1, 0, 0, 1, 0, 1, 1], [4, 3, 1]), ([0, 1, 0, 0, 1, 0, 1, 1], [4, 3, 1]), ([1, 1, 0, 0, 1, 0, 1, 1], [4, 3, 1]), ([1, 0, 1, 1], [3]), ([0, 1, 1, 1], [2]), ([1, 1, 1, 1], [2])]

noncomputable def E_54 (N : Nat) : Env := mkEnv tys glob [] [(3, (.int .u8))] [] [] false [] [(86, hmac_framed1_itr N)]

theorem Eok_54 (N : Nat) : EnvOk Tryd.prog (E_54 N) := mkEnv_ok mixed tys_ok (FnsOk.nil) (ItsOk.cons (hmac_framed1_it N) (ItsOk.nil))

noncomputable def porterref03_Tell_s1 (N : Nat) (h : (List Int)) (b : (List Int)) (i : Int) (rec : (List Int) → Int → Option (List UInt8)) (k0 : (List Int) → Option (List UInt8)) : Option (List UInt8) :=
  cond (decide (i < (8 : Int)))
  (cond (inR i 8)
    (cond (decide ((Int.toNat i) < (List.length h)))
      (cond (inR i 8)
        (cond (decide ((Int.toNat i) < (List.length h)))
          (cond (inR i 8)
            (cond (decide ((Int.toNat i) < (List.length h)))
              (cond (inR i 8)
                (cond (decide ((Int.toNat i) < (List.length h)))
                  (cond (decide ((((List.length b) + 4) * 1) ≤ 70368744177664))
                    (rec (b ++ ([(IntKind.wrap IntKind.u8 (shrI IntKind.u32 (List.getD h (Int.toNat i) (0 : Int)) (24 : Int))), (IntKind.wrap IntKind.u8 (shrI IntKind.u32 (List.getD h (Int.toNat i) (0 : Int)) (16 : Int))), (IntKind.wrap IntKind.u8 (shrI IntKind.u32 (List.getD h (Int.toNat i) (0 : Int)) (8 : Int))), (IntKind.wrap IntKind.u8 (List.getD h (Int.toNat i) (0 : Int)))] : List Int)) (IntKind.wrap IntKind.i64 (i + (1 : Int))))
                    (none))
                  (none))
                (none))
              (none))
            (none))
          (none))
        (none))
      (none))
    (none))
  (k0 b)

noncomputable def porterref03_Tell_p1 (N : Nat) (h : (List Int)) (b : (List Int)) (i : Int) (k0 : (List Int) → Option (List UInt8)) : Option (List UInt8) :=
  iter (fun (v : ((List Int) × Int)) r => porterref03_Tell_s1 N h v.1 v.2 (fun b i => (r (b, i))) k0) N (b, i)

noncomputable def g1_54 (N : Nat) (i : (List Int)) (v : ((List Int) × Int)) (r : ((List Int) × Int) → Option (List UInt8)) (K : Ex → List A → Option (List UInt8)) : Option (List UInt8) :=
  porterref03_Tell_s1 N i v.1 v.2 (fun b i => (r (b, i))) (fun a0 => (K (.exit 0) (mkS [(3, .row (.int .u8))] 29 (a0, ()))))

noncomputable def h1_54 (N : Nat) : Hd (List UInt8) := fun st K => (unS [(1, .box (.arr 8 (.int .u32))), (1, .row (.int .u8)), (0, .v (.int .i64))] 28 (restr [4, 3, 1] 0 st)).bind fun x => iter (fun v r => g1_54 N ((fun x => x.1) x) v r K) N ((fun x => (x.2.1, x.2.2.1)) x)

noncomputable def t1_54 (N : Nat) : Tab (List UInt8) := []

theorem ok1_54 {N : Nat} {c : Ctx} (hb : Base Tryd.prog (E_54 N) c) : CodeOk Tryd.prog c (nodeAt body_54 [0, 1, 0, 1, 1]) (h1_54 N) :=
  loop_ok (s := [(1, .box (.arr 8 (.int .u32))), (1, .row (.int .u8)), (0, .v (.int .i64))]) (m := 28) (g1_54 N) [4, 3, 1] N (fun x => x.1) (fun x => (x.2.1, x.2.2.1)) (fun i v => (i, v.1, v.2, ())) (fun _ => rfl) (evN_sound hb N (t1_54 N) L_54 body_54 TabOk.nil [0, 0, 1, 0, 1, 1] _ rfl) (fun i v r K => by kernel_rfl)

noncomputable def porterref03_Tell (N : Nat) (h : (List Int)) : Option (List UInt8) :=
  porterref03_Tell_p1 N h ([] : List Int) (0 : Int)
  (fun b => some (toStr b))

noncomputable def t_54 (N : Nat) : Tab (List UInt8) := [([0, 1, 0, 1, 1], h1_54 N)]

theorem link_54 (N : Nat) (x : denS [(0, .v (.arr 8 (.int .u32)))]) : evFX (E_54 N) N (t_54 N) L_54 Tryd.f78 (mkS [(0, .v (.arr 8 (.int .u32)))] 0 x) (kRes (.v .str) 1) = porterref03_Tell N x.1 := by kernel_rfl

noncomputable def porterref03_Tell_res (N : Nat) : List A → Res := resOf [(0, .v (.arr 8 (.int .u32)))] (fun x => porterref03_Tell N x.1) (oRes (.v .str) 1)

theorem porterref03_Tell_ct (N : Nat) : Contract Tryd.prog glob 78 (porterref03_Tell_res N) :=
  Contract.of (E := E_54 N) (H := t_54 N) (L := L_54) (N := N) (body := body_54) (K := (kRes (.v .str) 1)) (Eok_54 N) Tryd.func78 (by kernel_rfl) (by decide) (fun _ hb => (TabOk.cons (ok1_54 hb) TabOk.nil)) (fun x y h => by rw [link_54]; exact h) (kRes_ok (s := (.v .str)) (m := 1))

noncomputable def body_55 : Code := (Tryd.f60.body).getD .skip

noncomputable def L_55 : List (List Nat × List Nat) := [([0], [0]), ([0, 1], [3]), ([0, 1, 1], [3, 4]), ([0, 1, 1, 1], [3, 5, 4]), ([0, 0, 1, 1, 1, 1], [6, 3, 5, 4]), ([0, 1, 0, 1, 1, 1, 1], [6, 3, 5, 4]), ([0, 0, 0, 0, 1, 0, 1, 1, 1, 1], [14, 5, 3, 6, 4]), ([1, 0, 0, 0, 1, 0, 1, 1, 1, 1], [5, 3, 6, 4]), ([1, 1, 0, 0, 0, 1, 0, 1, 1, 1, 1], [5]), ([0, 0, 1, 0, 0, 1, 0, 1, 1, 1, 1], [6, 3, 5, 4]), ([0, 1, 0, 0, 1, 0, 1, 1, 1, 1], [6, 3, 5, 4]), ([1, 1, 0, 0, 1, 0, 1, 1, 1, 1], [6, 3, 5, 4]), ([1, 0, 1, 1, 1, 1], [5]), ([0, 1, 1, 1, 1, 1], [2]), ([1, 1, 1, 1, 1, 1], [2])]

noncomputable def E_55 (N : Nat) : Env := mkEnv tys glob [(78, porterref03_Tell_res N), (77, porterref03_step_res N), (76, porterref03_First_res N), (75, porterref03_table_res N), (74, porterref03_Pad_res N)] [(4, (.int .u32))] [] [] false [] [(86, hmac_framed1_itr N)]

theorem Eok_55 (N : Nat) : EnvOk Tryd.prog (E_55 N) := mkEnv_ok mixed tys_ok (FnsOk.cons (porterref03_Tell_ct N) (FnsOk.cons (porterref03_step_ct N) (FnsOk.cons (porterref03_First_ct N) (FnsOk.cons (porterref03_table_ct N) (FnsOk.cons (porterref03_Pad_ct N) (FnsOk.nil)))))) (ItsOk.cons (hmac_framed1_it N) (ItsOk.nil))

noncomputable def porterref03_Sum_s1 (N : Nat) (p : (List UInt8)) (k : (List Int)) (h : (List Int)) (at_ : Int) (rec : (List Int) → Int → Option (List UInt8)) (k0 : (List Int) → Option (List UInt8)) : Option (List UInt8) :=
  cond (decide (at_ < (((List.length p) : Nat) : Int)))
  ((porterref03_step N h p at_ k).bind fun y =>
    rec y (IntKind.wrap IntKind.i64 (at_ + (64 : Int))))
  (k0 h)

noncomputable def porterref03_Sum_p1 (N : Nat) (p : (List UInt8)) (k : (List Int)) (h : (List Int)) (at_ : Int) (k0 : (List Int) → Option (List UInt8)) : Option (List UInt8) :=
  iter (fun (v : ((List Int) × Int)) r => porterref03_Sum_s1 N p k v.1 v.2 (fun h at_ => (r (h, at_))) k0) N (h, at_)

noncomputable def g1_55 (N : Nat) (i : ((List UInt8) × (List Int))) (v : ((List Int) × Int)) (r : ((List Int) × Int) → Option (List UInt8)) (K : Ex → List A → Option (List UInt8)) : Option (List UInt8) :=
  porterref03_Sum_s1 N i.1 i.2 v.1 v.2 (fun h at_ => (r (h, at_))) (fun a0 => (K (.exit 0) (mkS [(5, .box (.arr 8 (.int .u32)))] 18 (a0, ()))))

noncomputable def h1_55 (N : Nat) : Hd (List UInt8) := fun st K => (unS [(3, .v .str), (0, .v (.sl (.int .u32))), (0, .box (.arr 8 (.int .u32))), (0, .v (.int .i64))] 17 (restr [6, 3, 5, 4] 0 st)).bind fun x => iter (fun v r => g1_55 N ((fun x => (x.1, x.2.1)) x) v r K) N ((fun x => (x.2.2.1, x.2.2.2.1)) x)

noncomputable def t1_55 (N : Nat) : Tab (List UInt8) := []

theorem ok1_55 {N : Nat} {c : Ctx} (hb : Base Tryd.prog (E_55 N) c) : CodeOk Tryd.prog c (nodeAt body_55 [0, 1, 0, 1, 1, 1, 1]) (h1_55 N) :=
  loop_ok (s := [(3, .v .str), (0, .v (.sl (.int .u32))), (0, .box (.arr 8 (.int .u32))), (0, .v (.int .i64))]) (m := 17) (g1_55 N) [6, 3, 5, 4] N (fun x => (x.1, x.2.1)) (fun x => (x.2.2.1, x.2.2.2.1)) (fun i v => (i.1, i.2, v.1, v.2, ())) (fun _ => rfl) (evN_sound hb N (t1_55 N) L_55 body_55 TabOk.nil [0, 0, 1, 0, 1, 1, 1, 1] _ rfl) (fun i v r K => by kernel_rfl)

noncomputable def porterref03_Sum (N : Nat) (s : (List UInt8)) : Option (List UInt8) :=
  (porterref03_Pad N s).bind fun y =>
  porterref03_Sum_p1 N y (List.set (List.set (List.set (List.set (List.set (List.set (List.set (List.set (List.set (List.set (List.set (List.set (List.set (List.set (List.set (List.set (List.set (List.set (List.set (List.set (List.set (List.set (List.set (List.set (List.set (List.set (List.set (List.set (List.set (List.set (List.set (List.set (List.set (List.set (List.set (List.set (List.set (List.set (List.set (List.set (List.set (List.set (List.set (List.set (List.set (List.set (List.set (List.set (List.set (List.set (List.set (List.set (List.set (List.set (List.set (List.set (List.set (List.set (List.set (List.set (List.set (List.set (List.set (List.set (List.replicate 64 (0 : Int)) 0 (1116352408 : Int)) 1 (1899447441 : Int)) 2 (3049323471 : Int)) 3 (3921009573 : Int)) 4 (961987163 : Int)) 5 (1508970993 : Int)) 6 (2453635748 : Int)) 7 (2870763221 : Int)) 8 (3624381080 : Int)) 9 (310598401 : Int)) 10 (607225278 : Int)) 11 (1426881987 : Int)) 12 (1925078388 : Int)) 13 (2162078206 : Int)) 14 (2614888103 : Int)) 15 (3248222580 : Int)) 16 (3835390401 : Int)) 17 (4022224774 : Int)) 18 (264347078 : Int)) 19 (604807628 : Int)) 20 (770255983 : Int)) 21 (1249150122 : Int)) 22 (1555081692 : Int)) 23 (1996064986 : Int)) 24 (2554220882 : Int)) 25 (2821834349 : Int)) 26 (2952996808 : Int)) 27 (3210313671 : Int)) 28 (3336571891 : Int)) 29 (3584528711 : Int)) 30 (113926993 : Int)) 31 (338241895 : Int)) 32 (666307205 : Int)) 33 (773529912 : Int)) 34 (1294757372 : Int)) 35 (1396182291 : Int)) 36 (1695183700 : Int)) 37 (1986661051 : Int)) 38 (2177026350 : Int)) 39 (2456956037 : Int)) 40 (2730485921 : Int)) 41 (2820302411 : Int)) 42 (3259730800 : Int)) 43 (3345764771 : Int)) 44 (3516065817 : Int)) 45 (3600352804 : Int)) 46 (4094571909 : Int)) 47 (275423344 : Int)) 48 (430227734 : Int)) 49 (506948616 : Int)) 50 (659060556 : Int)) 51 (883997877 : Int)) 52 (958139571 : Int)) 53 (1322822218 : Int)) 54 (1537002063 : Int)) 55 (1747873779 : Int)) 56 (1955562222 : Int)) 57 (2024104815 : Int)) 58 (2227730452 : Int)) 59 (2361852424 : Int)) 60 (2428436474 : Int)) 61 (2756734187 : Int)) 62 (3204031479 : Int)) 63 (3329325298 : Int)) ([(1779033703 : Int), (3144134277 : Int), (1013904242 : Int), (2773480762 : Int), (1359893119 : Int), (2600822924 : Int), (528734635 : Int), (1541459225 : Int)] : List Int) (0 : Int)
  (fun h => (porterref03_Tell N h).bind fun y1 =>
    some y1)

noncomputable def t_55 (N : Nat) : Tab (List UInt8) := [([0, 1, 0, 1, 1, 1, 1], h1_55 N)]

theorem link_55 (N : Nat) (x : denS [(0, .v .str)]) : evFX (E_55 N) N (t_55 N) L_55 Tryd.f60 (mkS [(0, .v .str)] 0 x) (kRes (.v .str) 1) = porterref03_Sum N x.1 := by kernel_rfl

noncomputable def porterref03_Sum_res (N : Nat) : List A → Res := resOf [(0, .v .str)] (fun x => porterref03_Sum N x.1) (oRes (.v .str) 1)

theorem porterref03_Sum_ct (N : Nat) : Contract Tryd.prog glob 60 (porterref03_Sum_res N) :=
  Contract.of (E := E_55 N) (H := t_55 N) (L := L_55) (N := N) (body := body_55) (K := (kRes (.v .str) 1)) (Eok_55 N) Tryd.func60 (by kernel_rfl) (by decide) (fun _ hb => (TabOk.cons (ok1_55 hb) TabOk.nil)) (fun x y h => by rw [link_55]; exact h) (kRes_ok (s := (.v .str)) (m := 1))

noncomputable def body_56 : Code := (Tryd.f89.body).getD .skip

noncomputable def L_56 : List (List Nat × List Nat) := [([0], [1, 0]), ([0, 0, 1], [7, 0, 1]), ([1, 0, 1], [0, 1]), ([0, 1, 0, 1], [0, 1]), ([0, 0, 1, 1], [11, 0, 1]), ([1, 0, 1, 1], [1, 0]), ([0, 0, 1, 0, 1, 1], [4]), ([1, 0, 1, 0, 1, 1], [4]), ([0, 1, 1, 1], [0, 5]), ([0, 1, 1, 1, 1], [4]), ([1, 1, 1, 1, 1], [4])]

noncomputable def E_56 (N : Nat) : Env := mkEnv tys glob [] [] [] [] false [] [(86, hmac_framed1_itr N)]

theorem Eok_56 (N : Nat) : EnvOk Tryd.prog (E_56 N) := mkEnv_ok mixed tys_ok (FnsOk.nil) (ItsOk.cons (hmac_framed1_it N) (ItsOk.nil))

noncomputable def porterref02_Pad_p1 (N : Nat) (s : (List UInt8)) (n : Int) (k0 : Int → Option (List UInt8)) : Option (List UInt8) :=
  cond (decide ((65536 : Int) < n))
  (k0 (65536 : Int))
  (k0 n)

noncomputable def g1_56 (N : Nat) (x : denS [(0, .v .str), (0, .v (.int .i64))]) (K : Ex → List A → Option (List UInt8)) : Option (List UInt8) :=
  porterref02_Pad_p1 N x.1 x.2.1 (fun a1 => (K .normal (mkS [(0, .v .str), (0, .v (.int .i64))] 20 (x.1, a1, ()))))

noncomputable def h1_56 (N : Nat) : Hd (List UInt8) := fun st K => (unS [(0, .v .str), (0, .v (.int .i64))] 20 (restr [1, 0] 0 st)).bind fun x => g1_56 N x K

noncomputable def t1_56 (N : Nat) : Tab (List UInt8) := []

theorem ok1_56 {N : Nat} {c : Ctx} (hb : Base Tryd.prog (E_56 N) c) : CodeOk Tryd.prog c (nodeAt body_56 [0, 1]) (h1_56 N) :=
  piece_ok (s := [(0, .v .str), (0, .v (.int .i64))]) (m := 20) (g := g1_56 N) [1, 0] (evN_sound hb N (t1_56 N) L_56 body_56 TabOk.nil [0, 1] _ rfl) (fun x K => by kernel_rfl)

noncomputable def porterref02_Pad (N : Nat) (s : (List UInt8)) (n : Int) : Option (List UInt8) :=
  porterref02_Pad_p1 N s n
  (fun n1 => cond (decide (n1 ≤ (((List.length s) : Nat) : Int)))
    (some s)
    (cond (decide (((0 : Int) ≤ (IntKind.wrap IntKind.i64 (n1 - (((List.length s) : Nat) : Int)))) ∧ (((IntKind.wrap IntKind.i64 (n1 - (((List.length s) : Nat) : Int))) ≤ (IntKind.wrap IntKind.i64 (n1 - (((List.length s) : Nat) : Int)))) ∧ ((((IntKind.wrap IntKind.i64 (n1 - (((List.length s) : Nat) : Int))) * (1 : Int)) ≤ (281474976710656 : Int)) ∧ ((IntKind.wrap IntKind.i64 (n1 - (((List.length s) : Nat) : Int))) ≤ (9223372036854775807 : Int))))))
      (cond (decide (((List.length s) + (List.length (toStr (List.replicate (Int.toNat (IntKind.wrap IntKind.i64 (n1 - (((List.length s) : Nat) : Int)))) (0 : Int))))) ≤ 9223372036854775807))
        (some (s ++ (toStr (List.replicate (Int.toNat (IntKind.wrap IntKind.i64 (n1 - (((List.length s) : Nat) : Int)))) (0 : Int)))))
        (none))
      (none)))

noncomputable def t_56 (N : Nat) : Tab (List UInt8) := [([0, 1], h1_56 N)]

theorem link_56 (N : Nat) (x : denS [(0, .v .str), (0, .v (.int .i64))]) : evFX (E_56 N) N (t_56 N) L_56 Tryd.f89 (mkS [(0, .v .str), (0, .v (.int .i64))] 0 x) (kRes (.v .str) 2) = porterref02_Pad N x.1 x.2.1 := by kernel_rfl

noncomputable def porterref02_Pad_res (N : Nat) : List A → Res := resOf [(0, .v .str), (0, .v (.int .i64))] (fun x => porterref02_Pad N x.1 x.2.1) (oRes (.v .str) 2)

theorem porterref02_Pad_ct (N : Nat) : Contract Tryd.prog glob 89 (porterref02_Pad_res N) :=
  Contract.of (E := E_56 N) (H := t_56 N) (L := L_56) (N := N) (body := body_56) (K := (kRes (.v .str) 2)) (Eok_56 N) Tryd.func89 (by kernel_rfl) (by decide) (fun _ hb => (TabOk.cons (ok1_56 hb) TabOk.nil)) (fun x y h => by rw [link_56]; exact h) (kRes_ok (s := (.v .str)) (m := 2))

noncomputable def body_57 : Code := (Tryd.f73.body).getD .skip

noncomputable def L_57 : List (List Nat × List Nat) := [([0], [0]), ([0, 0, 1], [5, 0]), ([1, 0, 1], [0]), ([0, 1, 0, 1], [0]), ([0, 1, 1], [2]), ([1, 1, 1], [2])]

noncomputable def E_57 (N : Nat) : Env := mkEnv tys glob [(89, porterref02_Pad_res N), (60, porterref03_Sum_res N)] [] [] [] false [] [(86, hmac_framed1_itr N)]

theorem Eok_57 (N : Nat) : EnvOk Tryd.prog (E_57 N) := mkEnv_ok mixed tys_ok (FnsOk.cons (porterref02_Pad_ct N) (FnsOk.cons (porterref03_Sum_ct N) (FnsOk.nil))) (ItsOk.cons (hmac_framed1_it N) (ItsOk.nil))

noncomputable def porterref04_key_p1 (N : Nat) (k : (List UInt8)) (k0 : (List UInt8) → Option (List UInt8)) : Option (List UInt8) :=
  cond (decide ((64 : Int) < (((List.length k) : Nat) : Int)))
  ((porterref03_Sum N k).bind fun y =>
    k0 y)
  (k0 k)

noncomputable def g1_57 (N : Nat) (x : denS [(0, .v .str)]) (K : Ex → List A → Option (List UInt8)) : Option (List UInt8) :=
  porterref04_key_p1 N x.1 (fun a0 => (K .normal (mkS [(0, .v .str)] 9 (a0, ()))))

noncomputable def h1_57 (N : Nat) : Hd (List UInt8) := fun st K => (unS [(0, .v .str)] 9 (restr [0] 0 st)).bind fun x => g1_57 N x K

noncomputable def t1_57 (N : Nat) : Tab (List UInt8) := []

theorem ok1_57 {N : Nat} {c : Ctx} (hb : Base Tryd.prog (E_57 N) c) : CodeOk Tryd.prog c (nodeAt body_57 [0, 1]) (h1_57 N) :=
  piece_ok (s := [(0, .v .str)]) (m := 9) (g := g1_57 N) [0] (evN_sound hb N (t1_57 N) L_57 body_57 TabOk.nil [0, 1] _ rfl) (fun x K => by kernel_rfl)

noncomputable def porterref04_key (N : Nat) (k : (List UInt8)) : Option (List UInt8) :=
  porterref04_key_p1 N k
  (fun k1 => (porterref02_Pad N k1 (64 : Int)).bind fun y =>
    some y)

noncomputable def t_57 (N : Nat) : Tab (List UInt8) := [([0, 1], h1_57 N)]

theorem link_57 (N : Nat) (x : denS [(0, .v .str)]) : evFX (E_57 N) N (t_57 N) L_57 Tryd.f73 (mkS [(0, .v .str)] 0 x) (kRes (.v .str) 1) = porterref04_key N x.1 := by kernel_rfl

noncomputable def porterref04_key_res (N : Nat) : List A → Res := resOf [(0, .v .str)] (fun x => porterref04_key N x.1) (oRes (.v .str) 1)

theorem porterref04_key_ct (N : Nat) : Contract Tryd.prog glob 73 (porterref04_key_res N) :=
  Contract.of (E := E_57 N) (H := t_57 N) (L := L_57) (N := N) (body := body_57) (K := (kRes (.v .str) 1)) (Eok_57 N) Tryd.func73 (by kernel_rfl) (by decide) (fun _ hb => (TabOk.cons (ok1_57 hb) TabOk.nil)) (fun x y h => by rw [link_57]; exact h) (kRes_ok (s := (.v .str)) (m := 1))

noncomputable def body_58 : Code := (Tryd.f57.body).getD .skip

noncomputable def L_58 : List (List Nat × List Nat) := [([0], [0, 1]), ([0, 1], [0, 1, 5]), ([0, 0, 1, 1], [6, 0, 1, 5]), ([0, 1, 0, 1, 1], [6, 0, 1, 5]), ([0, 0, 0, 0, 1, 0, 1, 1], [21, 0, 6, 1, 5]), ([1, 0, 0, 0, 1, 0, 1, 1], [0, 6, 1, 5]), ([1, 1, 0, 0, 0, 1, 0, 1, 1], [5]), ([0, 0, 0, 1, 0, 0, 1, 0, 1, 1], [7, 8, 9, 10, 5, 6, 0, 1]), ([0, 0, 1, 0, 0, 1, 0, 0, 1, 0, 1, 1], [11, 7, 8, 9, 10, 5, 6, 0, 1]), ([0, 1, 0, 1, 0, 0, 1, 0, 0, 1, 0, 1, 1], [11, 7, 8, 9, 10, 5, 6, 0, 1]), ([0, 0, 0, 0, 1, 0, 1, 0, 0, 1, 0, 0, 1, 0, 1, 1], [33, 7, 8, 9, 10, 11, 5, 6, 0, 1]), ([1, 0, 0, 0, 1, 0, 1, 0, 0, 1, 0, 0, 1, 0, 1, 1], [7, 8, 9, 10, 11, 5, 6, 0, 1]), ([1, 1, 0, 0, 0, 1, 0, 1, 0, 0, 1, 0, 0, 1, 0, 1, 1], [5, 9, 6, 0, 1]), ([0, 0, 0, 0, 1, 0, 0, 1, 0, 1, 0, 0, 1, 0, 0, 1, 0, 1, 1], [40, 9, 10, 7, 8, 11, 5, 6, 0, 1]), ([1, 0, 0, 0, 1, 0, 0, 1, 0, 1, 0, 0, 1, 0, 0, 1, 0, 1, 1], [7, 8, 10, 11, 9, 5, 6, 0, 1]), ([0, 1, 0, 0, 0, 1, 0, 0, 1, 0, 1, 0, 0, 1, 0, 0, 1, 0, 1, 1], [7, 8, 10, 11, 9, 5, 6, 0, 1]), ([0, 1, 0, 0, 1, 0, 0, 1, 0, 1, 0, 0, 1, 0, 0, 1, 0, 1, 1], [8, 10, 11, 7, 9, 5, 6, 0, 1]), ([0, 1, 1, 0, 0, 1, 0, 0, 1, 0, 1, 0, 0, 1, 0, 0, 1, 0, 1, 1], [10, 11, 7, 8, 9, 5, 6, 0, 1]), ([1, 1, 1, 0, 0, 1, 0, 0, 1, 0, 1, 0, 0, 1, 0, 0, 1, 0, 1, 1], [11, 7, 8, 9, 10, 5, 6, 0, 1]), ([0, 1, 0, 0, 1, 0, 1, 0, 0, 1, 0, 0, 1, 0, 1, 1], [11, 7, 8, 9, 10, 5, 6, 0, 1]), ([1, 1, 0, 0, 1, 0, 1, 0, 0, 1, 0, 0, 1, 0, 1, 1], [11, 7, 8, 9, 10, 5, 6, 0, 1]), ([1, 0, 1, 0, 0, 1, 0, 0, 1, 0, 1, 1], [5, 9, 6, 0, 1]), ([1, 1, 0, 0, 1, 0, 0, 1, 0, 1, 1], [6, 0, 1, 5]), ([0, 1, 0, 0, 1, 0, 1, 1], [6, 0, 1, 5]), ([1, 1, 0, 0, 1, 0, 1, 1], [6, 0, 1, 5]), ([1, 0, 1, 1], [5]), ([0, 1, 1, 1], [4]), ([1, 1, 1, 1], [4])]

noncomputable def E_58 (N : Nat) : Env := mkEnv tys glob [(70, porterref02_Byte_res N)] [] [] [] false [] [(86, hmac_framed1_itr N)]

theorem Eok_58 (N : Nat) : EnvOk Tryd.prog (E_58 N) := mkEnv_ok mixed tys_ok (FnsOk.cons (porterref02_Byte_ct N) (FnsOk.nil)) (ItsOk.cons (hmac_framed1_it N) (ItsOk.nil))

noncomputable def porterref02_Xor_p2 (N : Nat) (a : (List UInt8)) (b : (List UInt8)) (out : (List UInt8)) (i : Int) (k0 : Option (List UInt8)) (k1 : Option (List UInt8)) : Option (List UInt8) :=
  cond (decide (i < (((List.length a) : Nat) : Int)))
  (cond (decide (i < (((List.length b) : Nat) : Int)))
    (k0)
    (k1))
  (k1)

noncomputable def g2_58 (N : Nat) (x : denS [(0, .v .str), (0, .v .str), (3, .v .str), (0, .v (.int .i64))]) (K : Ex → List A → Option (List UInt8)) : Option (List UInt8) :=
  porterref02_Xor_p2 N x.1 x.2.1 x.2.2.1 x.2.2.2.1 (K .normal (mkS [(0, .v .str), (0, .v .str), (3, .v .str), (0, .v (.int .i64))] 48 (x.1, x.2.1, x.2.2.1, x.2.2.2.1, ()))) (K (.exit 0) (mkS [(5, .v .str)] 49 (x.2.2.1, ())))

noncomputable def h2_58 (N : Nat) : Hd (List UInt8) := fun st K => (unS [(0, .v .str), (0, .v .str), (3, .v .str), (0, .v (.int .i64))] 48 (restr [6, 0, 1, 5] 0 st)).bind fun x => g2_58 N x K

noncomputable def t2_58 (N : Nat) : Tab (List UInt8) := []

theorem ok2_58 {N : Nat} {c : Ctx} (hb : Base Tryd.prog (E_58 N) c) : CodeOk Tryd.prog c (nodeAt body_58 [0, 0, 0, 1, 0, 1, 1]) (h2_58 N) :=
  piece_ok (s := [(0, .v .str), (0, .v .str), (3, .v .str), (0, .v (.int .i64))]) (m := 48) (g := g2_58 N) [6, 0, 1, 5] (evN_sound hb N (t2_58 N) L_58 body_58 TabOk.nil [0, 0, 0, 1, 0, 1, 1] _ rfl) (fun x K => by kernel_rfl)

noncomputable def porterref02_Xor_p5 (N : Nat) (a : (List UInt8)) (b : (List UInt8)) (out : (List UInt8)) (i : Int) (x7 : Int) (y : Int) (n : Int) (bit : Int) (k : Int) (k0 : Int → Option (List UInt8)) : Option (List UInt8) :=
  cond ((Int.tmod x7 (2 : Int)) != (Int.tmod y (2 : Int)))
  (k0 (IntKind.wrap IntKind.i64 (n + bit)))
  (k0 n)

noncomputable def g5_58 (N : Nat) (x : denS [(0, .v .str), (0, .v .str), (3, .v .str), (0, .v (.int .i64)), (0, .v (.int .i64)), (0, .v (.int .i64)), (0, .v (.int .i64)), (0, .v (.int .i64)), (0, .v (.int .i64))]) (K : Ex → List A → Option (List UInt8)) : Option (List UInt8) :=
  porterref02_Xor_p5 N x.1 x.2.1 x.2.2.1 x.2.2.2.1 x.2.2.2.2.1 x.2.2.2.2.2.1 x.2.2.2.2.2.2.1 x.2.2.2.2.2.2.2.1 x.2.2.2.2.2.2.2.2.1 (fun a6 => (K .normal (mkS [(0, .v .str), (0, .v .str), (3, .v .str), (0, .v (.int .i64)), (0, .v (.int .i64)), (0, .v (.int .i64)), (0, .v (.int .i64)), (0, .v (.int .i64)), (0, .v (.int .i64))] 43 (x.1, x.2.1, x.2.2.1, x.2.2.2.1, x.2.2.2.2.1, x.2.2.2.2.2.1, a6, x.2.2.2.2.2.2.2.1, x.2.2.2.2.2.2.2.2.1, ()))))

noncomputable def h5_58 (N : Nat) : Hd (List UInt8) := fun st K => (unS [(0, .v .str), (0, .v .str), (3, .v .str), (0, .v (.int .i64)), (0, .v (.int .i64)), (0, .v (.int .i64)), (0, .v (.int .i64)), (0, .v (.int .i64)), (0, .v (.int .i64))] 43 (restr [7, 8, 9, 10, 11, 5, 6, 0, 1] 0 st)).bind fun x => g5_58 N x K

noncomputable def t5_58 (N : Nat) : Tab (List UInt8) := []

theorem ok5_58 {N : Nat} {c : Ctx} (hb : Base Tryd.prog (E_58 N) c) : CodeOk Tryd.prog c (nodeAt body_58 [0, 0, 0, 1, 0, 0, 1, 0, 1, 0, 0, 1, 0, 0, 1, 0, 1, 1]) (h5_58 N) :=
  piece_ok (s := [(0, .v .str), (0, .v .str), (3, .v .str), (0, .v (.int .i64)), (0, .v (.int .i64)), (0, .v (.int .i64)), (0, .v (.int .i64)), (0, .v (.int .i64)), (0, .v (.int .i64))]) (m := 43) (g := g5_58 N) [7, 8, 9, 10, 11, 5, 6, 0, 1] (evN_sound hb N (t5_58 N) L_58 body_58 TabOk.nil [0, 0, 0, 1, 0, 0, 1, 0, 1, 0, 0, 1, 0, 0, 1, 0, 1, 1] _ rfl) (fun x K => by kernel_rfl)

noncomputable def porterref02_Xor_p4 (N : Nat) (a : (List UInt8)) (b : (List UInt8)) (out : (List UInt8)) (i : Int) (x7 : Int) (y : Int) (n : Int) (bit : Int) (k : Int) (k0 : Int → Int → Int → Int → Option (List UInt8)) : Option (List UInt8) :=
  porterref02_Xor_p5 N a b out i x7 y n bit k
  (fun n1 => k0 (IntKind.wrap IntKind.i64 (Int.tdiv x7 (2 : Int))) (IntKind.wrap IntKind.i64 (Int.tdiv y (2 : Int))) n1 (IntKind.wrap IntKind.i64 (bit * (2 : Int))))

noncomputable def g4_58 (N : Nat) (x : denS [(0, .v .str), (0, .v .str), (3, .v .str), (0, .v (.int .i64)), (0, .v (.int .i64)), (0, .v (.int .i64)), (0, .v (.int .i64)), (0, .v (.int .i64)), (0, .v (.int .i64))]) (K : Ex → List A → Option (List UInt8)) : Option (List UInt8) :=
  porterref02_Xor_p4 N x.1 x.2.1 x.2.2.1 x.2.2.2.1 x.2.2.2.2.1 x.2.2.2.2.2.1 x.2.2.2.2.2.2.1 x.2.2.2.2.2.2.2.1 x.2.2.2.2.2.2.2.2.1 (fun a4 a5 a6 a7 => (K .normal (mkS [(0, .v .str), (0, .v .str), (3, .v .str), (0, .v (.int .i64)), (0, .v (.int .i64)), (0, .v (.int .i64)), (0, .v (.int .i64)), (0, .v (.int .i64)), (0, .v (.int .i64))] 43 (x.1, x.2.1, x.2.2.1, x.2.2.2.1, a4, a5, a6, a7, x.2.2.2.2.2.2.2.2.1, ()))))

noncomputable def h4_58 (N : Nat) : Hd (List UInt8) := fun st K => (unS [(0, .v .str), (0, .v .str), (3, .v .str), (0, .v (.int .i64)), (0, .v (.int .i64)), (0, .v (.int .i64)), (0, .v (.int .i64)), (0, .v (.int .i64)), (0, .v (.int .i64))] 43 (restr [7, 8, 9, 10, 11, 5, 6, 0, 1] 0 st)).bind fun x => g4_58 N x K

noncomputable def t4_58 (N : Nat) : Tab (List UInt8) := [([0, 0, 0, 1, 0, 0, 1, 0, 1, 0, 0, 1, 0, 0, 1, 0, 1, 1], h5_58 N)]

theorem ok4_58 {N : Nat} {c : Ctx} (hb : Base Tryd.prog (E_58 N) c) : CodeOk Tryd.prog c (nodeAt body_58 [0, 1, 0, 0, 1, 0, 1, 0, 0, 1, 0, 0, 1, 0, 1, 1]) (h4_58 N) :=
  piece_ok (s := [(0, .v .str), (0, .v .str), (3, .v .str), (0, .v (.int .i64)), (0, .v (.int .i64)), (0, .v (.int .i64)), (0, .v (.int .i64)), (0, .v (.int .i64)), (0, .v (.int .i64))]) (m := 43) (g := g4_58 N) [7, 8, 9, 10, 11, 5, 6, 0, 1] (evN_sound hb N (t4_58 N) L_58 body_58 (TabOk.cons (ok5_58 hb) TabOk.nil) [0, 1, 0, 0, 1, 0, 1, 0, 0, 1, 0, 0, 1, 0, 1, 1] _ rfl) (fun x K => by kernel_rfl)

noncomputable def porterref02_Xor_s3 (N : Nat) (a : (List UInt8)) (b : (List UInt8)) (out : (List UInt8)) (i : Int) (x7 : Int) (y : Int) (n : Int) (bit : Int) (k : Int) (rec : Int → Int → Int → Int → Int → Option (List UInt8)) (k0 : Int → Option (List UInt8)) : Option (List UInt8) :=
  cond (decide (k < (8 : Int)))
  (porterref02_Xor_p4 N a b out i x7 y n bit k
    (fun x71 y1 n1 bit1 => rec x71 y1 n1 bit1 (IntKind.wrap IntKind.i64 (k + (1 : Int)))))
  (k0 n)

end Go.Proofs.YtnfmbjljpolnnaaDoorLg

