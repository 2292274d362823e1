import Derived.Test.YtobbmaplbpdniaaLgW
import Derived.Test.YtobbmaplbpdniaaLgPrRp1
import Derived.WalkKit
import Derived.Tactics
import Derived.Tactics2
import Derived.Lib.Hide
import Derived.Below
import Derived.WalkSmall
import Derived.LoopN
import Derived.Deep.RegionHeld3
import Derived.Laws.IdiomStrings
import Derived.Test.YtobbmaplbpdniaaChecked
import Derived.KernelRfl
set_option linter.all false
set_option maxRecDepth 100000
namespace Go.Proofs.YtobbmaplbpdniaaLg
noncomputable section
open Go Go.Lift

def ty3 : TyI := ⟨(Go.TypeDesc.int Go.IntKind.i64), 1, 8, (.int .i64), (0 : Int), false⟩

theorem z174 : TyOk Go.Proofs.Try.prog 3 ty3 := TyOk.of (by kernel_rfl) (by kernel_rfl) (by kernel_rfl) (by kernel_rfl)

def ty4 : TyI := ⟨Go.TypeDesc.bool, 1, 1, .bool, false, false⟩

theorem z173 : TyOk Go.Proofs.Try.prog 4 ty4 := TyOk.of (by kernel_rfl) (by kernel_rfl) (by kernel_rfl) (by kernel_rfl)

def ty5 : TyI := ⟨(Go.TypeDesc.int Go.IntKind.u8), 1, 1, (.int .u8), (0 : Int), false⟩

theorem z172 : TyOk Go.Proofs.Try.prog 5 ty5 := TyOk.of (by kernel_rfl) (by kernel_rfl) (by kernel_rfl) (by kernel_rfl)

def ty9 : TyI := ⟨Go.TypeDesc.string, 1, 16, .str, ([] : List UInt8), false⟩

theorem z171 : TyOk Go.Proofs.Try.prog 9 ty9 := TyOk.of (by kernel_rfl) (by kernel_rfl) (by kernel_rfl) (by kernel_rfl)

def ty21 : TyI := ⟨(Go.TypeDesc.int Go.IntKind.i32), 1, 4, (.int .i32), (0 : Int), false⟩

theorem z168 : TyOk Go.Proofs.Try.prog 21 ty21 := TyOk.of (by kernel_rfl) (by kernel_rfl) (by kernel_rfl) (by kernel_rfl)

def ty22 : TyI := ⟨(Go.TypeDesc.slice 47), 1, 24, (.sl (.pair .str (.pair (.int .i64) (.pair (.int .i64) (.pair (.sl (.pair (.int .i64) (.pair .str .unit))) .unit))))), ([] : List ((List UInt8) × (Int × (Int × ((List (Int × ((List UInt8) × Unit))) × Unit))))), false⟩

theorem z167 : TyOk Go.Proofs.Try.prog 22 ty22 := TyOk.of (by kernel_rfl) (by kernel_rfl) (by kernel_rfl) (by kernel_rfl)

def ty24 : TyI := ⟨(Go.TypeDesc.struct (List.toArray ([(Go.Field.mk "Tenants" 22 0 false "" "" 0), (Go.Field.mk "Serial" 3 1 false "" "" 24)] : List Go.Field))), 2, 32, (.pair (.sl (.pair .str (.pair (.int .i64) (.pair (.int .i64) (.pair (.sl (.pair (.int .i64) (.pair .str .unit))) .unit))))) (.pair (.int .i64) .unit)), (([] : List ((List UInt8) × (Int × (Int × ((List (Int × ((List UInt8) × Unit))) × Unit))))), (0 : Int), ()), true⟩

theorem z166 : TyOk Go.Proofs.Try.prog 24 ty24 := TyOk.of (by kernel_rfl) (by kernel_rfl) (by kernel_rfl) (by kernel_rfl)

def ty26 : TyI := ⟨(Go.TypeDesc.struct (List.toArray ([(Go.Field.mk "Kind" 3 0 false "" "" 0), (Go.Field.mk "Tenant" 9 1 false "" "" 8), (Go.Field.mk "Num" 3 2 false "" "" 24), (Go.Field.mk "Epoch" 3 3 false "" "" 32), (Go.Field.mk "Text" 9 4 false "" "" 40)] : List Go.Field))), 5, 56, (.pair (.int .i64) (.pair .str (.pair (.int .i64) (.pair (.int .i64) (.pair .str .unit))))), ((0 : Int), ([] : List UInt8), (0 : Int), (0 : Int), ([] : List UInt8), ()), true⟩

theorem z165 : TyOk Go.Proofs.Try.prog 26 ty26 := TyOk.of (by kernel_rfl) (by kernel_rfl) (by kernel_rfl) (by kernel_rfl)

def ty29 : TyI := ⟨(Go.TypeDesc.int Go.IntKind.i64), 1, 8, (.int .i64), (0 : Int), false⟩

theorem z164 : TyOk Go.Proofs.Try.prog 29 ty29 := TyOk.of (by kernel_rfl) (by kernel_rfl) (by kernel_rfl) (by kernel_rfl)

def ty35 : TyI := ⟨(Go.TypeDesc.slice 26), 1, 24, (.sl (.pair (.int .i64) (.pair .str (.pair (.int .i64) (.pair (.int .i64) (.pair .str .unit)))))), ([] : List (Int × ((List UInt8) × (Int × (Int × ((List UInt8) × Unit)))))), false⟩

theorem z163 : TyOk Go.Proofs.Try.prog 35 ty35 := TyOk.of (by kernel_rfl) (by kernel_rfl) (by kernel_rfl) (by kernel_rfl)

def ty40 : TyI := ⟨(Go.TypeDesc.struct (List.toArray ([(Go.Field.mk "Num" 3 0 false "" "" 0), (Go.Field.mk "Text" 9 1 false "" "" 8)] : List Go.Field))), 2, 24, (.pair (.int .i64) (.pair .str .unit)), ((0 : Int), ([] : List UInt8), ()), true⟩

theorem ty40_ok : TyOk Go.Proofs.Try.prog 40 ty40 := TyOk.of (by kernel_rfl) (by kernel_rfl) (by kernel_rfl) (by kernel_rfl)

def ty45 : TyI := ⟨(Go.TypeDesc.slice 40), 1, 24, (.sl (.pair (.int .i64) (.pair .str .unit))), ([] : List (Int × ((List UInt8) × Unit))), false⟩

theorem z162 : TyOk Go.Proofs.Try.prog 45 ty45 := TyOk.of (by kernel_rfl) (by kernel_rfl) (by kernel_rfl) (by kernel_rfl)

def ty47 : TyI := ⟨(Go.TypeDesc.struct (List.toArray ([(Go.Field.mk "Name" 9 0 false "" "" 0), (Go.Field.mk "Epoch" 3 1 false "" "" 16), (Go.Field.mk "Next" 3 2 false "" "" 24), (Go.Field.mk "Keys" 45 3 false "" "" 32)] : List Go.Field))), 4, 56, (.pair .str (.pair (.int .i64) (.pair (.int .i64) (.pair (.sl (.pair (.int .i64) (.pair .str .unit))) .unit)))), (([] : List UInt8), (0 : Int), (0 : Int), ([] : List (Int × ((List UInt8) × Unit))), ()), true⟩

theorem ty47_ok : TyOk Go.Proofs.Try.prog 47 ty47 := TyOk.of (by kernel_rfl) (by kernel_rfl) (by kernel_rfl) (by kernel_rfl)

def ty55 : TyI := ⟨(Go.TypeDesc.func (List.toArray ([47] : List Nat)) (List.toArray ([4] : List Nat)) false), 1, 8, .opq, Go.Value.nilFunc, false⟩

theorem z161 : TyOk Go.Proofs.Try.prog 55 ty55 := TyOk.of (by kernel_rfl) (by kernel_rfl) (by kernel_rfl) (by kernel_rfl)

def ty64 : TyI := ⟨(Go.TypeDesc.func (List.toArray ([21, 4] : List Nat)) (List.toArray ([4] : List Nat)) false), 1, 8, .opq, Go.Value.nilFunc, false⟩

theorem z160 : TyOk Go.Proofs.Try.prog 64 ty64 := TyOk.of (by kernel_rfl) (by kernel_rfl) (by kernel_rfl) (by kernel_rfl)

def ty66 : TyI := ⟨(Go.TypeDesc.func (List.toArray ([40] : List Nat)) (List.toArray ([4] : List Nat)) false), 1, 8, .opq, Go.Value.nilFunc, false⟩

theorem z15z : TyOk Go.Proofs.Try.prog 66 ty66 := TyOk.of (by kernel_rfl) (by kernel_rfl) (by kernel_rfl) (by kernel_rfl)

def tys : List (Nat × TyI) := [(3, ty3), (4, ty4), (5, ty5), (9, ty9), (21, ty21), (22, ty22), (24, ty24), (26, ty26), (29, ty29), (35, ty35), (40, ty40), (45, ty45), (47, ty47), (55, ty55), (64, ty64), (66, ty66)]

theorem z2n : TysOk Go.Proofs.Try.prog tys := TysOk.cons z174 (TysOk.cons z173 (TysOk.cons z172 (TysOk.cons z171 (TysOk.cons z168 (TysOk.cons z167 (TysOk.cons z166 (TysOk.cons z165 (TysOk.cons z164 (TysOk.cons z163 (TysOk.cons ty40_ok (TysOk.cons z162 (TysOk.cons ty47_ok (TysOk.cons z161 (TysOk.cons z160 (TysOk.cons z15z (TysOk.nil))))))))))))))))

theorem mixed : Go.Proofs.Try.prog.follows .mixedOrders = true := by kernel_rfl

def zp6 : Code := (Go.Proofs.Try.f28.body).getD .skip

def zly : List (List Nat × List Nat) := [([0], [0, 1]), ([0, 1], [4]), ([1, 1], [4])]

def zep (N : Nat) : Env := z4w tys z10 [] [] [] [] false [] []

theorem zq2 (N : Nat) : EnvOk Go.Proofs.Try.prog (zep N) := z1e mixed z2n (FnsOk.nil) (ItsOk.nil)

def z35 (N : Nat) (n : Int) (low : Int) : Option Bool :=
 cond (decide (low <= n))
 (some (decide (n <= (1099511627776 : Int))))
 (some false)

def zlx (N : Nat) : Tab Bool := []

theorem zp5 (N : Nat) (x : z2b [(0, .v (.int .i64)), (0, .v (.int .i64))]) : zej (zep N) N (zlx N) zly Go.Proofs.Try.f28 (mkS [(0, .v (.int .i64)), (0, .v (.int .i64))] 0 x) (z5b (.v .bool) 2) = z35 N x.1 x.2.1 := by kernel_rfl

def z6x (N : Nat) : List A -> Res := z2r [(0, .v (.int .i64)), (0, .v (.int .i64))] (fun x => z35 N x.1 x.2.1) (zfe (.v .bool) 2)

theorem zd5 (N : Nat) : Contract Go.Proofs.Try.prog z10 28 (z6x N) :=
  Contract.of (E := zep N) (H := zlx N) (L := zly) (N := N) (body := zp6) (K := (z5b (.v .bool) 2)) (zq2 N) Go.Proofs.Try.func28 (by kernel_rfl) (by decide) (fun _ hb => TabOk.nil) (fun x y h => by rw [zp5]; exact h) (z1q (s := (.v .bool)) (m := 2))

def zr3 : Code := (Go.Proofs.Try.f48.body).getD .skip

def zos : List (List Nat × List Nat) := [([0], [0]), ([0, 1], [2]), ([1, 1], [2])]

def zhp (N : Nat) : Env := z4w tys z10 [] [] [] [] false [] []

theorem zsg (N : Nat) : EnvOk Go.Proofs.Try.prog (zhp N) := z1e mixed z2n (FnsOk.nil) (ItsOk.nil)

def zid (N : Nat) (c : Int) : Option Bool :=
 cond (decide ((48 : Int) <= c))
 (some (decide (c <= (57 : Int))))
 (some false)

def zor (N : Nat) : Tab Bool := []

theorem zr2 (N : Nat) (x : z2b [(0, .v (.int .i32))]) : zej (zhp N) N (zor N) zos Go.Proofs.Try.f48 (mkS [(0, .v (.int .i32))] 0 x) (z5b (.v .bool) 1) = zid N x.1 := by kernel_rfl

def zk5 (N : Nat) : List A -> Res := z2r [(0, .v (.int .i32))] (fun x => zid N x.1) (zfe (.v .bool) 1)

theorem zuq (N : Nat) : Contract Go.Proofs.Try.prog z10 48 (zk5 N) :=
  Contract.of (E := zhp N) (H := zor N) (L := zos) (N := N) (body := zr3) (K := (z5b (.v .bool) 1)) (zsg N) Go.Proofs.Try.func48 (by kernel_rfl) (by decide) (fun _ hb => TabOk.nil) (fun x y h => by rw [zr2]; exact h) (z1q (s := (.v .bool)) (m := 1))

def z7p : Code := (Go.Proofs.Try.f42.body).getD .skip

def zc1 : List (List Nat × List Nat) := [([0], [0, 1]), ([0, 1], [5, 0, 1]), ([0, 1, 1], [4]), ([1, 1, 1], [4])]

def z7q (N : Nat) : Env := z4w tys z10 [(48, zk5 N)] [] [] [] false [] []

theorem znr (N : Nat) : EnvOk Go.Proofs.Try.prog (z7q N) := z1e mixed z2n (FnsOk.cons (zuq N) (FnsOk.nil)) (ItsOk.nil)

def z94 (N : Nat) (c : Int) (first : Bool) (k0 : Bool -> Option Bool) : Option Bool :=
 cond (decide ((97 : Int) <= c))
 (k0 (decide (c <= (122 : Int))))
 (k0 false)

def zfy (N : Nat) (x : z2b [(0, .v (.int .i32)), (0, .v .bool)]) (K : Ex -> List A -> Option Bool) : Option Bool :=
 z94 N x.1 x.2.1 (fun a2 => (K .normal (mkS [(0, .v (.int .i32)), (0, .v .bool), (3, .v .bool)] 19 (x.1, x.2.1, a2, ()))))

def zfx (N : Nat) : Hd Bool := fun st K => (unS [(0, .v (.int .i32)), (0, .v .bool)] 23 (restr [0, 1] 0 st)).bind fun x => zfy N x K

def zpa (N : Nat) : Tab Bool := []

theorem znq {N : Nat} {c : Ctx} (hb : Base Go.Proofs.Try.prog (z7q N) c) : zu Go.Proofs.Try.prog c (zf z7p [0, 1]) (zfx N) :=
  zp (s := [(0, .v (.int .i32)), (0, .v .bool)]) (m := 23) (g := zfy N) [0, 1] (z7 hb N (zpa N) zc1 z7p TabOk.nil [0, 1] _ rfl) (fun x K => by kernel_rfl)

def z7r (N : Nat) (c : Int) (first : Bool) : Option Bool :=
 z94 N c first
 (fun letter => cond letter
 (some true)
 ((zid N c).bind fun y =>
 cond y
 (some (!first))
 (cond (c == (45 : Int))
 (some (!first))
 (some false))))

def zho (N : Nat) : Tab Bool := [([0, 1], zfx N)]

theorem zmt (N : Nat) (x : z2b [(0, .v (.int .i32)), (0, .v .bool)]) : zej (z7q N) N (zho N) zc1 Go.Proofs.Try.f42 (mkS [(0, .v (.int .i32)), (0, .v .bool)] 0 x) (z5b (.v .bool) 2) = z7r N x.1 x.2.1 := by kernel_rfl

def z8h (N : Nat) : List A -> Res := z2r [(0, .v (.int .i32)), (0, .v .bool)] (fun x => z7r N x.1 x.2.1) (zfe (.v .bool) 2)

theorem zfz (N : Nat) : Contract Go.Proofs.Try.prog z10 42 (z8h N) :=
  Contract.of (E := z7q N) (H := zho N) (L := zc1) (N := N) (body := z7p) (K := (z5b (.v .bool) 2)) (znr N) Go.Proofs.Try.func42 (by kernel_rfl) (by decide) (fun _ hb => (TabOk.cons (znq hb) TabOk.nil)) (fun x y h => by rw [zmt]; exact h) (z1q (s := (.v .bool)) (m := 2))

def z28 : Code := (Go.Proofs.Try.f41.body).getD .skip

def z4v : List (List Nat × List Nat) := [([0], [0, 1]), ([0, 0, 1], [13, 0, 1]), ([1, 0, 1], [0, 1]), ([0, 0, 1, 0, 1], [4]), ([1, 0, 1, 0, 1], [4]), ([0, 0, 1, 1], [15, 1]), ([0, 1, 0, 1, 1], [15, 1]), ([0, 0, 0, 1, 0, 1, 1], [17, 16, 1, 15]), ([0, 1, 0, 0, 1, 0, 1, 1], [16, 1, 15]), ([1, 0, 1, 0, 0, 1, 0, 1, 1], []), ([0, 0, 1, 1, 0, 0, 1, 0, 1, 1], [1, 6, 5, 15]), ([0, 1, 0, 1, 1, 0, 0, 1, 0, 1, 1], [25, 15, 1]), ([1, 1, 0, 1, 1, 0, 0, 1, 0, 1, 1], [15, 1]), ([0, 0, 1, 1, 0, 1, 1, 0, 0, 1, 0, 1, 1], [4]), ([1, 0, 1, 1, 0, 1, 1, 0, 0, 1, 0, 1, 1], [4]), ([1, 1, 0, 0, 1, 0, 1, 1], [15, 1]), ([1, 0, 1, 1], []), ([0, 1, 1, 1], [4]), ([1, 1, 1, 1], [4])]

def z3m (N : Nat) : Env := z4w tys z10 [(42, z8h N)] [] [] [] false [] []

theorem znv (N : Nat) : EnvOk Go.Proofs.Try.prog (z3m N) := z1e mixed z2n (FnsOk.cons (zfz N) (FnsOk.nil)) (ItsOk.nil)

def z96 (N : Nat) (s : (List UInt8)) (k0 : Bool -> Option Bool) : Option Bool :=
 cond (s == ([] : List UInt8))
 (k0 true)
 (k0 (decide ((32 : Int) < (((List.length s) : Nat) : Int))))

def zg5 (N : Nat) (x : z2b [(0, .v .str), (0, .fnc 42)]) (K : Ex -> List A -> Option Bool) : Option Bool :=
 z96 N x.1 (fun a1 => (K .normal (mkS [(0, .v .str), (0, .fnc 42), (11, .v .bool)] 12 (x.1, (), a1, ()))))

def zg2 (N : Nat) : Hd Bool := fun st K => (unS [(0, .v .str), (0, .fnc 42)] 24 (restr [0, 1] 0 st)).bind fun x => zg5 N x K

def zpc (N : Nat) : Tab Bool := []

theorem znt {N : Nat} {c : Ctx} (hb : Base Go.Proofs.Try.prog (z3m N) c) : zu Go.Proofs.Try.prog c (zf z28 [0, 0, 1]) (zg2 N) :=
  zp (s := [(0, .v .str), (0, .fnc 42)]) (m := 24) (g := zg5 N) [0, 1] (z7 hb N (zpc N) z4v z28 TabOk.nil [0, 0, 1] _ rfl) (fun x K => by kernel_rfl)

def z97 (N : Nat) (s : (List UInt8)) (k0 : Bool -> Option Bool) (k1 : Option Bool) : Option Bool :=
 z96 N s
 (fun x13 => cond x13
 (k0 false)
 (k1))

def zg6 (N : Nat) (x : z2b [(0, .v .str), (0, .fnc 42)]) (K : Ex -> List A -> Option Bool) : Option Bool :=
 z97 N x.1 (fun a0 => (K .ret (mkS [(4, .v .bool)] 21 (a0, ())))) (K .normal (mkS [(0, .v .str), (0, .fnc 42)] 24 (x.1, (), ())))

def zg3 (N : Nat) : Hd Bool := fun st K => (unS [(0, .v .str), (0, .fnc 42)] 24 (restr [0, 1] 0 st)).bind fun x => zg6 N x K

def zpd (N : Nat) : Tab Bool := [([0, 0, 1], zg2 N)]

theorem znu {N : Nat} {c : Ctx} (hb : Base Go.Proofs.Try.prog (z3m N) c) : zu Go.Proofs.Try.prog c (zf z28 [0, 1]) (zg3 N) :=
  zp (s := [(0, .v .str), (0, .fnc 42)]) (m := 24) (g := zg6 N) [0, 1] (z7 hb N (zpd N) z4v z28 (TabOk.cons (znt hb) TabOk.nil) [0, 1] _ rfl) (fun x K => by kernel_rfl)

def z95 (N : Nat) (x15 : (List UInt8 × Nat)) (rec : (List UInt8 × Nat) -> Option Bool) (k0 : Bool -> Option Bool) (k1 : Option Bool) : Option Bool :=
 cond (decide (x15.2 < (List.length x15.1)))
 ((z7r N (((Go.Lift.runeAt x15.1 x15.2).1 : Nat) : Int) (((x15.2 : Nat) : Int) == (0 : Int))).bind fun y =>
 cond (!y)
 (k0 false)
 (rec (x15.1, (x15.2 + (Go.Lift.runeAt x15.1 x15.2).2))))
 (k1)

def zg0 (N : Nat) (x15 : (List UInt8 × Nat)) (k0 : Bool -> Option Bool) (k1 : Option Bool) : Option Bool :=
 iter (fun (v : (List UInt8 × Nat)) r => z95 N v (fun x15 => (r x15)) k0 k1) N x15

def zg4 (N : Nat) (i : Unit) (v : (List UInt8 × Nat)) (r : (List UInt8 × Nat) -> Option Bool) (K : Ex -> List A -> Option Bool) : Option Bool :=
 z95 N v (fun x15 => (r x15)) (fun a0 => (K .ret (mkS [(4, .v .bool)] 21 (a0, ())))) (K (.exit 0) (mkS [] 26 ()))

def zg1 (N : Nat) : Hd Bool := fun st K => (unS [(1, .fnc 42), (13, .iter)] 10 (restr [15, 1] 0 st)).bind fun x => iter (fun v r => zg4 N ((fun x => ()) x) v r K) N ((fun x => x.2.1) x)

def zpb (N : Nat) : Tab Bool := []

theorem zns {N : Nat} {c : Ctx} (hb : Base Go.Proofs.Try.prog (z3m N) c) : zu Go.Proofs.Try.prog c (zf z28 [0, 1, 0, 1, 1]) (zg1 N) :=
  z4x (s := [(1, .fnc 42), (13, .iter)]) (m := 10) (zg4 N) [15, 1] N (fun x => ()) (fun x => x.2.1) (fun i v => ((), v, ())) (fun _ => rfl) (z7 hb N (zpb N) z4v z28 TabOk.nil [0, 0, 1, 0, 1, 1] _ rfl) (fun i v r K => by kernel_rfl)

def z7s (N : Nat) (s : (List UInt8)) : Option Bool :=
 z97 N s
 (fun x4 => some x4)
 (zg0 N (s, 0)
 (fun x41 => some x41)
 (some true))

def zhq (N : Nat) : Tab Bool := [([0, 1], zg3 N), ([0, 1, 0, 1, 1], zg1 N)]

theorem zmu (N : Nat) (x : z2b [(0, .v .str), (0, .fnc 42)]) : zej (z3m N) N (zhq N) z4v Go.Proofs.Try.f41 (mkS [(0, .v .str), (0, .fnc 42)] 0 x) (z5b (.v .bool) 2) = z7s N x.1 := by kernel_rfl

def zeb (N : Nat) : List A -> Res := z2r [(0, .v .str), (0, .fnc 42)] (fun x => z7s N x.1) (zfe (.v .bool) 2)

theorem zpe (N : Nat) : Contract Go.Proofs.Try.prog z10 41 (zeb N) :=
  Contract.of (E := z3m N) (H := zhq N) (L := z4v) (N := N) (body := z28) (K := (z5b (.v .bool) 2)) (znv N) Go.Proofs.Try.func41 (by kernel_rfl) (by decide) (fun _ hb => (TabOk.cons (znu hb) (TabOk.cons (zns hb) TabOk.nil))) (fun x y h => by rw [zmu]; exact h) (z1q (s := (.v .bool)) (m := 2))

def zsi : Code := (Go.Proofs.Try.f33.body).getD .skip

def zr5 : List (List Nat × List Nat) := [([0], [0]), ([0, 1], [2]), ([1, 1], [2])]

def zlg (N : Nat) : Env := z4w tys z10 [(41, zeb N), (42, z8h N)] [] [] [] false [] []

theorem zur (N : Nat) : EnvOk Go.Proofs.Try.prog (zlg N) := z1e mixed z2n (FnsOk.cons (zpe N) (FnsOk.cons (zfz N) (FnsOk.nil))) (ItsOk.nil)

def zec (N : Nat) (s : (List UInt8)) : Option Bool :=
 (z7s N s).bind fun y =>
 some y

def zr4 (N : Nat) : Tab Bool := []

theorem zsh (N : Nat) (x : z2b [(0, .v .str)]) : zej (zlg N) N (zr4 N) zr5 Go.Proofs.Try.f33 (mkS [(0, .v .str)] 0 x) (z5b (.v .bool) 1) = zec N x.1 := by kernel_rfl

def zfh (N : Nat) : List A -> Res := z2r [(0, .v .str)] (fun x => zec N x.1) (zfe (.v .bool) 1)

theorem zot (N : Nat) : Contract Go.Proofs.Try.prog z10 33 (zfh N) :=
  Contract.of (E := zlg N) (H := zr4 N) (L := zr5) (N := N) (body := zsi) (K := (z5b (.v .bool) 1)) (zur N) Go.Proofs.Try.func33 (by kernel_rfl) (by decide) (fun _ hb => TabOk.nil) (fun x y h => by rw [zsh]; exact h) (z1q (s := (.v .bool)) (m := 1))

def zq4 : Code := (Go.Proofs.Try.f40.body).getD .skip

def zoe : List (List Nat × List Nat) := [([0], [0, 1, 2]), ([0, 1], [0, 1, 5, 2]), ([0, 1, 1], [5, 0, 2, 1]), ([0, 1, 1, 1], [4, 1, 2]), ([1, 1, 1, 1], [4, 1, 2])]

def zgp (N : Nat) : Env := z4w tys z10 [] [] [] [1, 2] false [] []

theorem zs2 (N : Nat) : EnvOk Go.Proofs.Try.prog (zgp N) := z1e mixed z2n (FnsOk.nil) (ItsOk.nil)

def zi9 (N : Nat) (n : Int) (x1 : Int) (x2 : ((List UInt8) × (Int × (Int × ((List (Int × ((List UInt8) × Unit))) × Unit))))) : Option (Bool × (Int × ((List UInt8) × (Int × (Int × ((List (Int × ((List UInt8) × Unit))) × Unit)))) × Unit)) :=
 cond (decide (x1 < n))
 (some ((decide (n < x2.2.2.1)), (n, (x2, ()))))
 (some (false, (n, (x2, ()))))

def zod (N : Nat) : Tab (Bool × (Int × ((List UInt8) × (Int × (Int × ((List (Int × ((List UInt8) × Unit))) × Unit)))) × Unit)) := []

theorem zq3 (N : Nat) (x : z2b [(0, .v (.int .i64)), (0, .box (.int .i64)), (0, .box (.pair .str (.pair (.int .i64) (.pair (.int .i64) (.pair (.sl (.pair (.int .i64) (.pair .str .unit))) .unit)))))]) : zej (zgp N) N (zod N) zoe Go.Proofs.Try.f40 (mkS [(0, .v (.int .i64)), (0, .box (.int .i64)), (0, .box (.pair .str (.pair (.int .i64) (.pair (.int .i64) (.pair (.sl (.pair (.int .i64) (.pair .str .unit))) .unit)))))] 0 x) (z14s (.v .bool) [(1, .box (.int .i64)), (0, .box (.pair .str (.pair (.int .i64) (.pair (.int .i64) (.pair (.sl (.pair (.int .i64) (.pair .str .unit))) .unit)))))] 0) = zi9 N x.1 x.2.1 x.2.2.1 := by kernel_rfl

def zju (N : Nat) : List A -> Res := z2r [(0, .v (.int .i64)), (0, .box (.int .i64)), (0, .box (.pair .str (.pair (.int .i64) (.pair (.int .i64) (.pair (.sl (.pair (.int .i64) (.pair .str .unit))) .unit)))))] (fun x => zi9 N x.1 x.2.1 x.2.2.1) (z17b (.v .bool) [(1, .box (.int .i64)), (0, .box (.pair .str (.pair (.int .i64) (.pair (.int .i64) (.pair (.sl (.pair (.int .i64) (.pair .str .unit))) .unit)))))] 0)

theorem zu5 (N : Nat) : Contract Go.Proofs.Try.prog z10 40 (zju N) :=
  Contract.of (E := zgp N) (H := zod N) (L := zoe) (N := N) (body := zq4) (K := (z14s (.v .bool) [(1, .box (.int .i64)), (0, .box (.pair .str (.pair (.int .i64) (.pair (.int .i64) (.pair (.sl (.pair (.int .i64) (.pair .str .unit))) .unit)))))] 0)) (zs2 N) Go.Proofs.Try.func40 (by kernel_rfl) (by decide) (fun _ hb => TabOk.nil) (fun x y h => by rw [zq3]; exact h) (z14r (s := (.v .bool)) (os := [(1, .box (.int .i64)), (0, .box (.pair .str (.pair (.int .i64) (.pair (.int .i64) (.pair (.sl (.pair (.int .i64) (.pair .str .unit))) .unit)))))]) (m := 0))

def z1b : Code := (Go.Proofs.Try.f29.body).getD .skip

def z2p : List (List Nat × List Nat) := [([0], [1]), ([0, 0, 1], [28, 1]), ([1, 0, 1], [1]), ([0, 0, 1, 0, 1], [2]), ([1, 0, 1, 0, 1], [2]), ([0, 1, 1], [3, 1]), ([0, 1, 1, 1], [1, 4, 3]), ([0, 0, 1, 1, 1, 1], [33, 32, 31, 4, 3, 1]), ([0, 1, 0, 1, 1, 1, 1], [33, 32, 31, 4, 3, 1]), ([0, 0, 0, 1, 0, 1, 1, 1, 1], [34, 31, 33, 4, 32, 3, 1]), ([0, 1, 0, 0, 1, 0, 1, 1, 1, 1], [31, 33, 4, 32, 3, 1]), ([1, 0, 1, 0, 0, 1, 0, 1, 1, 1, 1], []), ([0, 0, 0, 1, 1, 0, 0, 1, 0, 1, 1, 1, 1], [4, 6, 33, 32, 31, 3, 1]), ([0, 1, 0, 0, 1, 1, 0, 0, 1, 0, 1, 1, 1, 1], [47, 33, 32, 31, 4, 3, 1]), ([1, 1, 0, 0, 1, 1, 0, 0, 1, 0, 1, 1, 1, 1], [33, 32, 31, 4, 3, 1]), ([0, 0, 1, 1, 0, 0, 1, 1, 0, 0, 1, 0, 1, 1, 1, 1], [2]), ([1, 0, 1, 1, 0, 0, 1, 1, 0, 0, 1, 0, 1, 1, 1, 1], [2]), ([0, 1, 1, 0, 0, 1, 0, 1, 1, 1, 1], [33, 32, 31, 4, 3, 1]), ([1, 1, 1, 0, 0, 1, 0, 1, 1, 1, 1], [33, 32, 31, 4, 3, 1]), ([1, 0, 1, 1, 1, 1], []), ([0, 1, 1, 1, 1, 1], [2]), ([1, 1, 1, 1, 1, 1], [2])]

def z23 (N : Nat) : Env := z4w tys z10 [(40, zju N), (33, zfh N), (28, z6x N)] [(4, .unit)] [] [] false [] []

theorem zim (N : Nat) : EnvOk Go.Proofs.Try.prog (z23 N) := z1e mixed z2n (FnsOk.cons (zu5 N) (FnsOk.cons (zot N) (FnsOk.cons (zd5 N) (FnsOk.nil)))) (ItsOk.nil)

def z60 (N : Nat) (t : ((List UInt8) × (Int × (Int × ((List (Int × ((List UInt8) × Unit))) × Unit))))) (k0 : Bool -> Option Bool) : Option Bool :=
 (zec N t.1).bind fun y =>
 cond (!y)
 (k0 true)
 ((z35 N t.2.1 (0 : Int)).bind fun y1 =>
 cond (!y1)
 (k0 true)
 ((z35 N t.2.2.1 (1 : Int)).bind fun y2 =>
 cond (!y2)
 (k0 true)
 (k0 (decide ((8 : Int) < (((List.length t.2.2.2.1) : Nat) : Int))))))

def zar (N : Nat) (x : z2b [(1, .box (.pair .str (.pair (.int .i64) (.pair (.int .i64) (.pair (.sl (.pair (.int .i64) (.pair .str .unit))) .unit)))))]) (K : Ex -> List A -> Option Bool) : Option Bool :=
 z60 N x.1 (fun a1 => (K .normal (mkS [(1, .box (.pair .str (.pair (.int .i64) (.pair (.int .i64) (.pair (.sl (.pair (.int .i64) (.pair .str .unit))) .unit))))), (26, .v .bool)] 20 (x.1, a1, ()))))

def zan (N : Nat) : Hd Bool := fun st K => (unS [(1, .box (.pair .str (.pair (.int .i64) (.pair (.int .i64) (.pair (.sl (.pair (.int .i64) (.pair .str .unit))) .unit)))))] 47 (restr [1] 0 st)).bind fun x => zar N x K

def zkh (N : Nat) : Tab Bool := []

theorem zik {N : Nat} {c : Ctx} (hb : Base Go.Proofs.Try.prog (z23 N) c) : zu Go.Proofs.Try.prog c (zf z1b [0, 0, 1]) (zan N) :=
  zp (s := [(1, .box (.pair .str (.pair (.int .i64) (.pair (.int .i64) (.pair (.sl (.pair (.int .i64) (.pair .str .unit))) .unit)))))]) (m := 47) (g := zar N) [1] (z7 hb N (zkh N) z2p z1b TabOk.nil [0, 0, 1] _ rfl) (fun x K => by kernel_rfl)

def z61 (N : Nat) (t : ((List UInt8) × (Int × (Int × ((List (Int × ((List UInt8) × Unit))) × Unit))))) (k0 : Bool -> Option Bool) (k1 : Option Bool) : Option Bool :=
 z60 N t
 (fun x28 => cond x28
 (k0 false)
 (k1))

def zas (N : Nat) (x : z2b [(1, .box (.pair .str (.pair (.int .i64) (.pair (.int .i64) (.pair (.sl (.pair (.int .i64) (.pair .str .unit))) .unit)))))]) (K : Ex -> List A -> Option Bool) : Option Bool :=
 z61 N x.1 (fun a0 => (K .ret (mkS [(2, .v .bool)] 46 (a0, ())))) (K .normal (mkS [(1, .box (.pair .str (.pair (.int .i64) (.pair (.int .i64) (.pair (.sl (.pair (.int .i64) (.pair .str .unit))) .unit)))))] 47 (x.1, ())))

def zao (N : Nat) : Hd Bool := fun st K => (unS [(1, .box (.pair .str (.pair (.int .i64) (.pair (.int .i64) (.pair (.sl (.pair (.int .i64) (.pair .str .unit))) .unit)))))] 47 (restr [1] 0 st)).bind fun x => zas N x K

def zki (N : Nat) : Tab Bool := [([0, 0, 1], zan N)]

theorem zil {N : Nat} {c : Ctx} (hb : Base Go.Proofs.Try.prog (z23 N) c) : zu Go.Proofs.Try.prog c (zf z1b [0, 1]) (zao N) :=
  zp (s := [(1, .box (.pair .str (.pair (.int .i64) (.pair (.int .i64) (.pair (.sl (.pair (.int .i64) (.pair .str .unit))) .unit)))))]) (m := 47) (g := zas N) [1] (z7 hb N (zki N) z2p z1b (TabOk.cons (zik hb) TabOk.nil) [0, 1] _ rfl) (fun x K => by kernel_rfl)

def z5y (N : Nat) (t : ((List UInt8) × (Int × (Int × ((List (Int × ((List UInt8) × Unit))) × Unit))))) (last : Int) (k : (Int × ((List UInt8) × Unit))) (x31 : (List (Int × ((List UInt8) × Unit)))) (x32 : Int) (x33 : Int) (k0 : ((List UInt8) × (Int × (Int × ((List (Int × ((List UInt8) × Unit))) × Unit)))) -> Int -> Bool -> Option Bool) : Option Bool :=
 (zi9 N k.1 last t).bind fun y =>
 cond (!y.1)
 (k0 y.2.2.1 y.2.1 true)
 (k0 y.2.2.1 y.2.1 ((((List.length k.2.1) : Nat) : Int) != (32 : Int)))

def zap (N : Nat) (x : z2b [(1, .box (.pair .str (.pair (.int .i64) (.pair (.int .i64) (.pair (.sl (.pair (.int .i64) (.pair .str .unit))) .unit))))), (1, .box (.int .i64)), (0, .clo 40 [3, 1]), (1, .box (.pair (.int .i64) (.pair .str .unit))), (24, .v (.sl (.pair (.int .i64) (.pair .str .unit)))), (0, .v (.int .i64)), (0, .v (.int .i64))]) (K : Ex -> List A -> Option Bool) : Option Bool :=
 z5y N x.1 x.2.1 x.2.2.2.1 x.2.2.2.2.1 x.2.2.2.2.2.1 x.2.2.2.2.2.2.1 (fun a0 a1 a5 => (K .normal (mkS [(1, .box (.pair .str (.pair (.int .i64) (.pair (.int .i64) (.pair (.sl (.pair (.int .i64) (.pair .str .unit))) .unit))))), (1, .box (.int .i64)), (0, .clo 40 [3, 1]), (26, .v (.sl (.pair (.int .i64) (.pair .str .unit)))), (0, .v (.int .i64)), (0, .v (.int .i64)), (13, .v .bool)] 1 (a0, a1, (), x.2.2.2.2.1, x.2.2.2.2.2.1, x.2.2.2.2.2.2.1, a5, ()))))

def zal (N : Nat) : Hd Bool := fun st K => (unS [(1, .box (.pair .str (.pair (.int .i64) (.pair (.int .i64) (.pair (.sl (.pair (.int .i64) (.pair .str .unit))) .unit))))), (1, .box (.int .i64)), (0, .clo 40 [3, 1]), (1, .box (.pair (.int .i64) (.pair .str .unit))), (24, .v (.sl (.pair (.int .i64) (.pair .str .unit)))), (0, .v (.int .i64)), (0, .v (.int .i64))] 15 (restr [4, 6, 33, 32, 31, 3, 1] 0 st)).bind fun x => zap N x K

def zkf (N : Nat) : Tab Bool := []

theorem zii {N : Nat} {c : Ctx} (hb : Base Go.Proofs.Try.prog (z23 N) c) : zu Go.Proofs.Try.prog c (zf z1b [0, 1, 0, 0, 1, 1, 0, 0, 1, 0, 1, 1, 1, 1]) (zal N) :=
  zp (s := [(1, .box (.pair .str (.pair (.int .i64) (.pair (.int .i64) (.pair (.sl (.pair (.int .i64) (.pair .str .unit))) .unit))))), (1, .box (.int .i64)), (0, .clo 40 [3, 1]), (1, .box (.pair (.int .i64) (.pair .str .unit))), (24, .v (.sl (.pair (.int .i64) (.pair .str .unit)))), (0, .v (.int .i64)), (0, .v (.int .i64))]) (m := 15) (g := zap N) [4, 6, 33, 32, 31, 3, 1] (z7 hb N (zkf N) z2p z1b TabOk.nil [0, 1, 0, 0, 1, 1, 0, 0, 1, 0, 1, 1, 1, 1] _ rfl) (fun x K => by kernel_rfl)

def z5x (N : Nat) (x31 : (List (Int × ((List UInt8) × Unit)))) (x32 : Int) (t : ((List UInt8) × (Int × (Int × ((List (Int × ((List UInt8) × Unit))) × Unit))))) (last : Int) (x33 : Int) (rec : ((List UInt8) × (Int × (Int × ((List (Int × ((List UInt8) × Unit))) × Unit)))) -> Int -> Int -> Option Bool) (k0 : Bool -> Option Bool) (k1 : Option Bool) : Option Bool :=
 cond (decide (x33 < x32))
 (cond (Go.Lift.inR x33 (List.length x31))
 (z5y N t last (List.getD x31 (Int.toNat x33) ((0 : Int), (([] : List UInt8), ()))) x31 x32 x33
 (fun t1 last1 x47 => cond x47
 (k0 false)
 (rec t1 last1 (Go.IntKind.wrap Go.IntKind.i64 (x33 + (1 : Int))))))
 (none))
 (k1)

def z5z (N : Nat) (t : ((List UInt8) × (Int × (Int × ((List (Int × ((List UInt8) × Unit))) × Unit))))) (last : Int) (x31 : (List (Int × ((List UInt8) × Unit)))) (x32 : Int) (x33 : Int) (k0 : Bool -> Option Bool) (k1 : Option Bool) : Option Bool :=
 iter (fun (v : (((List UInt8) × (Int × (Int × ((List (Int × ((List UInt8) × Unit))) × Unit)))) × Int × Int)) r => z5x N x31 x32 v.1 v.2.1 v.2.2 (fun t last x33 => (r (t, last, x33))) k0 k1) N (t, last, x33)

def zaq (N : Nat) (i : ((List (Int × ((List UInt8) × Unit))) × Int)) (v : (((List UInt8) × (Int × (Int × ((List (Int × ((List UInt8) × Unit))) × Unit)))) × Int × Int)) (r : (((List UInt8) × (Int × (Int × ((List (Int × ((List UInt8) × Unit))) × Unit)))) × Int × Int) -> Option Bool) (K : Ex -> List A -> Option Bool) : Option Bool :=
 z5x N i.1 i.2 v.1 v.2.1 v.2.2 (fun t last x33 => (r (t, last, x33))) (fun a0 => (K .ret (mkS [(2, .v .bool)] 46 (a0, ())))) (K (.exit 0) (mkS [] 49 ()))

def zam (N : Nat) : Hd Bool := fun st K => (unS [(1, .box (.pair .str (.pair (.int .i64) (.pair (.int .i64) (.pair (.sl (.pair (.int .i64) (.pair .str .unit))) .unit))))), (1, .box (.int .i64)), (0, .clo 40 [3, 1]), (26, .v (.sl (.pair (.int .i64) (.pair .str .unit)))), (0, .v (.int .i64)), (0, .v (.int .i64))] 15 (restr [33, 32, 31, 4, 3, 1] 0 st)).bind fun x => iter (fun v r => zaq N ((fun x => (x.2.2.2.1, x.2.2.2.2.1)) x) v r K) N ((fun x => (x.1, x.2.1, x.2.2.2.2.2.1)) x)

def zkg (N : Nat) : Tab Bool := [([0, 1, 0, 0, 1, 1, 0, 0, 1, 0, 1, 1, 1, 1], zal N)]

theorem zij {N : Nat} {c : Ctx} (hb : Base Go.Proofs.Try.prog (z23 N) c) : zu Go.Proofs.Try.prog c (zf z1b [0, 1, 0, 1, 1, 1, 1]) (zam N) :=
  z4x (s := [(1, .box (.pair .str (.pair (.int .i64) (.pair (.int .i64) (.pair (.sl (.pair (.int .i64) (.pair .str .unit))) .unit))))), (1, .box (.int .i64)), (0, .clo 40 [3, 1]), (26, .v (.sl (.pair (.int .i64) (.pair .str .unit)))), (0, .v (.int .i64)), (0, .v (.int .i64))]) (m := 15) (zaq N) [33, 32, 31, 4, 3, 1] N (fun x => (x.2.2.2.1, x.2.2.2.2.1)) (fun x => (x.1, x.2.1, x.2.2.2.2.2.1)) (fun i v => (v.1, v.2.1, (), i.1, i.2, v.2.2, ())) (fun _ => rfl) (z7 hb N (zkg N) z2p z1b (TabOk.cons (zii hb) TabOk.nil) [0, 0, 1, 0, 1, 1, 1, 1] _ rfl) (fun i v r K => by kernel_rfl)

def z31 (N : Nat) (t : ((List UInt8) × (Int × (Int × ((List (Int × ((List UInt8) × Unit))) × Unit))))) : Option Bool :=
 z61 N t
 (fun x2 => some x2)
 (z5z N t (0 : Int) t.2.2.2.1 (((List.length t.2.2.2.1) : Nat) : Int) (0 : Int)
 (fun x21 => some x21)
 (some true))

def zcd (N : Nat) : Tab Bool := [([0, 1], zao N), ([0, 1, 0, 1, 1, 1, 1], zam N)]

theorem zgq (N : Nat) (x : z2b [(0, .v (.pair .str (.pair (.int .i64) (.pair (.int .i64) (.pair (.sl (.pair (.int .i64) (.pair .str .unit))) .unit)))))]) : zej (z23 N) N (zcd N) z2p Go.Proofs.Try.f29 (mkS [(0, .v (.pair .str (.pair (.int .i64) (.pair (.int .i64) (.pair (.sl (.pair (.int .i64) (.pair .str .unit))) .unit)))))] 0 x) (z5b (.v .bool) 1) = z31 N x.1 := by kernel_rfl

def z9a (N : Nat) : List A -> Res := z2r [(0, .v (.pair .str (.pair (.int .i64) (.pair (.int .i64) (.pair (.sl (.pair (.int .i64) (.pair .str .unit))) .unit)))))] (fun x => z31 N x.1) (zfe (.v .bool) 1)

theorem zkj (N : Nat) : Contract Go.Proofs.Try.prog z10 29 (z9a N) :=
  Contract.of (E := z23 N) (H := zcd N) (L := z2p) (N := N) (body := z1b) (K := (z5b (.v .bool) 1)) (zim N) Go.Proofs.Try.func29 (by kernel_rfl) (by decide) (fun _ hb => (TabOk.cons (zil hb) (TabOk.cons (zij hb) TabOk.nil))) (fun x y h => by rw [zgq]; exact h) (z1q (s := (.v .bool)) (m := 1))

def z24 : Code := (Go.Proofs.Try.f10.body).getD .skip

def z6n : List (List Nat × List Nat) := [([0], [1]), ([0, 0, 1], [14, 1]), ([1, 0, 1], [1]), ([0, 0, 1, 0, 1], [2]), ([1, 0, 1, 0, 1], [2]), ([0, 0, 1, 1], [18, 17, 16, 1]), ([0, 1, 0, 1, 1], [18, 17, 16, 1]), ([0, 0, 0, 1, 0, 1, 1], [19, 18, 16, 1, 17]), ([0, 1, 0, 0, 1, 0, 1, 1], [18, 16, 1, 17]), ([1, 0, 1, 0, 0, 1, 0, 1, 1], []), ([0, 0, 0, 1, 1, 0, 0, 1, 0, 1, 1], [3, 4, 1, 18, 17, 16]), ([0, 1, 0, 0, 1, 1, 0, 0, 1, 0, 1, 1], [41, 18, 17, 16, 1]), ([1, 1, 0, 0, 1, 1, 0, 0, 1, 0, 1, 1], [18, 17, 16, 1]), ([0, 0, 1, 1, 0, 0, 1, 1, 0, 0, 1, 0, 1, 1], [2]), ([1, 0, 1, 1, 0, 0, 1, 1, 0, 0, 1, 0, 1, 1], [2]), ([0, 1, 1, 0, 0, 1, 0, 1, 1], [18, 17, 16, 1]), ([1, 1, 1, 0, 0, 1, 0, 1, 1], [18, 17, 16, 1]), ([1, 0, 1, 1], []), ([0, 1, 1, 1], [2]), ([1, 1, 1, 1], [2])]

def z4n (N : Nat) : Env := z4w tys z10 [(29, z9a N), (28, z6x N)] [] [] [] false [] []

theorem zs8 (N : Nat) : EnvOk Go.Proofs.Try.prog (z4n N) := z1e mixed z2n (FnsOk.cons (zkj N) (FnsOk.cons (zd5 N) (FnsOk.nil))) (ItsOk.nil)

def zev (N : Nat) (s : ((List ((List UInt8) × (Int × (Int × ((List (Int × ((List UInt8) × Unit))) × Unit))))) × (Int × Unit))) (k0 : Bool -> Option Bool) : Option Bool :=
 cond (decide ((16 : Int) < (((List.length s.1) : Nat) : Int)))
 (k0 true)
 ((z35 N s.2.1 (0 : Int)).bind fun y =>
 k0 (!y))

def zm8 (N : Nat) (x : z2b [(1, .box (.pair (.sl (.pair .str (.pair (.int .i64) (.pair (.int .i64) (.pair (.sl (.pair (.int .i64) (.pair .str .unit))) .unit))))) (.pair (.int .i64) .unit)))]) (K : Ex -> List A -> Option Bool) : Option Bool :=
 zev N x.1 (fun a1 => (K .normal (mkS [(1, .box (.pair (.sl (.pair .str (.pair (.int .i64) (.pair (.int .i64) (.pair (.sl (.pair (.int .i64) (.pair .str .unit))) .unit))))) (.pair (.int .i64) .unit))), (12, .v .bool)] 28 (x.1, a1, ()))))

def zm4 (N : Nat) : Hd Bool := fun st K => (unS [(1, .box (.pair (.sl (.pair .str (.pair (.int .i64) (.pair (.int .i64) (.pair (.sl (.pair (.int .i64) (.pair .str .unit))) .unit))))) (.pair (.int .i64) .unit)))] 41 (restr [1] 0 st)).bind fun x => zm8 N x K

def zu9 (N : Nat) : Tab Bool := []

theorem zs6 {N : Nat} {c : Ctx} (hb : Base Go.Proofs.Try.prog (z4n N) c) : zu Go.Proofs.Try.prog c (zf z24 [0, 0, 1]) (zm4 N) :=
  zp (s := [(1, .box (.pair (.sl (.pair .str (.pair (.int .i64) (.pair (.int .i64) (.pair (.sl (.pair (.int .i64) (.pair .str .unit))) .unit))))) (.pair (.int .i64) .unit)))]) (m := 41) (g := zm8 N) [1] (z7 hb N (zu9 N) z6n z24 TabOk.nil [0, 0, 1] _ rfl) (fun x K => by kernel_rfl)

def zew (N : Nat) (s : ((List ((List UInt8) × (Int × (Int × ((List (Int × ((List UInt8) × Unit))) × Unit))))) × (Int × Unit))) (k0 : Bool -> Option Bool) (k1 : Option Bool) : Option Bool :=
 zev N s
 (fun x14 => cond x14
 (k0 false)
 (k1))

def zm9 (N : Nat) (x : z2b [(1, .box (.pair (.sl (.pair .str (.pair (.int .i64) (.pair (.int .i64) (.pair (.sl (.pair (.int .i64) (.pair .str .unit))) .unit))))) (.pair (.int .i64) .unit)))]) (K : Ex -> List A -> Option Bool) : Option Bool :=
 zew N x.1 (fun a0 => (K .ret (mkS [(2, .v .bool)] 40 (a0, ())))) (K .normal (mkS [(1, .box (.pair (.sl (.pair .str (.pair (.int .i64) (.pair (.int .i64) (.pair (.sl (.pair (.int .i64) (.pair .str .unit))) .unit))))) (.pair (.int .i64) .unit)))] 41 (x.1, ())))

def zm5 (N : Nat) : Hd Bool := fun st K => (unS [(1, .box (.pair (.sl (.pair .str (.pair (.int .i64) (.pair (.int .i64) (.pair (.sl (.pair (.int .i64) (.pair .str .unit))) .unit))))) (.pair (.int .i64) .unit)))] 41 (restr [1] 0 st)).bind fun x => zm9 N x K

def zua (N : Nat) : Tab Bool := [([0, 0, 1], zm4 N)]

theorem zs7 {N : Nat} {c : Ctx} (hb : Base Go.Proofs.Try.prog (z4n N) c) : zu Go.Proofs.Try.prog c (zf z24 [0, 1]) (zm5 N) :=
  zp (s := [(1, .box (.pair (.sl (.pair .str (.pair (.int .i64) (.pair (.int .i64) (.pair (.sl (.pair (.int .i64) (.pair .str .unit))) .unit))))) (.pair (.int .i64) .unit)))]) (m := 41) (g := zm9 N) [1] (z7 hb N (zua N) z6n z24 (TabOk.cons (zs6 hb) TabOk.nil) [0, 1] _ rfl) (fun x K => by kernel_rfl)

def zet (N : Nat) (s : ((List ((List UInt8) × (Int × (Int × ((List (Int × ((List UInt8) × Unit))) × Unit))))) × (Int × Unit))) (i : Int) (t : ((List UInt8) × (Int × (Int × ((List (Int × ((List UInt8) × Unit))) × Unit))))) (x16 : (List ((List UInt8) × (Int × (Int × ((List (Int × ((List UInt8) × Unit))) × Unit)))))) (x17 : Int) (x18 : Int) (k0 : Bool -> Option Bool) : Option Bool :=
  cond (decide ((0 : Int) < i))
  (cond (Go.Lift.inR (Go.IntKind.wrap Go.IntKind.i64 (i - (1 : Int))) (List.length s.1))
    (cond ((Go.Op.bytesLess t.1 (List.getD s.1 (Int.toNat (Go.IntKind.wrap Go.IntKind.i64 (i - (1 : Int)))) (([] : List UInt8), ((0 : Int), ((0 : Int), (([] : List (Int × ((List UInt8) × Unit))), ()))))).1) || (t.1 == (List.getD s.1 (Int.toNat (Go.IntKind.wrap Go.IntKind.i64 (i - (1 : Int)))) (([] : List UInt8), ((0 : Int), ((0 : Int), (([] : List (Int × ((List UInt8) × Unit))), ()))))).1))
      (k0 true)
      ((z31 N t).bind fun y =>
        k0 (!y)))
    (none))
  ((z31 N t).bind fun y1 =>
    k0 (!y1))

def zm6 (N : Nat) (x : z2b [(1, .box (.pair (.sl (.pair .str (.pair (.int .i64) (.pair (.int .i64) (.pair (.sl (.pair (.int .i64) (.pair .str .unit))) .unit))))) (.pair (.int .i64) .unit))), (1, .v (.int .i64)), (0, .box (.pair .str (.pair (.int .i64) (.pair (.int .i64) (.pair (.sl (.pair (.int .i64) (.pair .str .unit))) .unit))))), (11, .v (.sl (.pair .str (.pair (.int .i64) (.pair (.int .i64) (.pair (.sl (.pair (.int .i64) (.pair .str .unit))) .unit)))))), (0, .v (.int .i64)), (0, .v (.int .i64))]) (K : Ex -> List A -> Option Bool) : Option Bool :=
 zet N x.1 x.2.1 x.2.2.1 x.2.2.2.1 x.2.2.2.2.1 x.2.2.2.2.2.1 (fun a4 => (K .normal (mkS [(1, .box (.pair (.sl (.pair .str (.pair (.int .i64) (.pair (.int .i64) (.pair (.sl (.pair (.int .i64) (.pair .str .unit))) .unit))))) (.pair (.int .i64) .unit))), (14, .v (.sl (.pair .str (.pair (.int .i64) (.pair (.int .i64) (.pair (.sl (.pair (.int .i64) (.pair .str .unit))) .unit)))))), (0, .v (.int .i64)), (0, .v (.int .i64)), (22, .v .bool)] 1 (x.1, x.2.2.2.1, x.2.2.2.2.1, x.2.2.2.2.2.1, a4, ()))))

def zm2 (N : Nat) : Hd Bool := fun st K => (unS [(1, .box (.pair (.sl (.pair .str (.pair (.int .i64) (.pair (.int .i64) (.pair (.sl (.pair (.int .i64) (.pair .str .unit))) .unit))))) (.pair (.int .i64) .unit))), (1, .v (.int .i64)), (0, .box (.pair .str (.pair (.int .i64) (.pair (.int .i64) (.pair (.sl (.pair (.int .i64) (.pair .str .unit))) .unit))))), (11, .v (.sl (.pair .str (.pair (.int .i64) (.pair (.int .i64) (.pair (.sl (.pair (.int .i64) (.pair .str .unit))) .unit)))))), (0, .v (.int .i64)), (0, .v (.int .i64))] 24 (restr [3, 4, 1, 18, 17, 16] 0 st)).bind fun x => zm6 N x K

def zu7 (N : Nat) : Tab Bool := []

theorem zs4 {N : Nat} {c : Ctx} (hb : Base Go.Proofs.Try.prog (z4n N) c) : zu Go.Proofs.Try.prog c (zf z24 [0, 1, 0, 0, 1, 1, 0, 0, 1, 0, 1, 1]) (zm2 N) :=
  zp (s := [(1, .box (.pair (.sl (.pair .str (.pair (.int .i64) (.pair (.int .i64) (.pair (.sl (.pair (.int .i64) (.pair .str .unit))) .unit))))) (.pair (.int .i64) .unit))), (1, .v (.int .i64)), (0, .box (.pair .str (.pair (.int .i64) (.pair (.int .i64) (.pair (.sl (.pair (.int .i64) (.pair .str .unit))) .unit))))), (11, .v (.sl (.pair .str (.pair (.int .i64) (.pair (.int .i64) (.pair (.sl (.pair (.int .i64) (.pair .str .unit))) .unit)))))), (0, .v (.int .i64)), (0, .v (.int .i64))]) (m := 24) (g := zm6 N) [3, 4, 1, 18, 17, 16] (z7 hb N (zu7 N) z6n z24 TabOk.nil [0, 1, 0, 0, 1, 1, 0, 0, 1, 0, 1, 1] _ rfl) (fun x K => by kernel_rfl)

def zes (N : Nat) (s : ((List ((List UInt8) × (Int × (Int × ((List (Int × ((List UInt8) × Unit))) × Unit))))) × (Int × Unit))) (x16 : (List ((List UInt8) × (Int × (Int × ((List (Int × ((List UInt8) × Unit))) × Unit)))))) (x17 : Int) (x18 : Int) (rec : Int -> Option Bool) (k0 : Bool -> Option Bool) (k1 : Option Bool) : Option Bool :=
 cond (decide (x18 < x17))
 (cond (Go.Lift.inR x18 (List.length x16))
 (zet N s x18 (List.getD x16 (Int.toNat x18) (([] : List UInt8), ((0 : Int), ((0 : Int), (([] : List (Int × ((List UInt8) × Unit))), ()))))) x16 x17 x18
 (fun x41 => cond x41
 (k0 false)
 (rec (Go.IntKind.wrap Go.IntKind.i64 (x18 + (1 : Int))))))
 (none))
 (k1)

def zeu (N : Nat) (s : ((List ((List UInt8) × (Int × (Int × ((List (Int × ((List UInt8) × Unit))) × Unit))))) × (Int × Unit))) (x16 : (List ((List UInt8) × (Int × (Int × ((List (Int × ((List UInt8) × Unit))) × Unit)))))) (x17 : Int) (x18 : Int) (k0 : Bool -> Option Bool) (k1 : Option Bool) : Option Bool :=
 iter (fun (v : Int) r => zes N s x16 x17 v (fun x18 => (r x18)) k0 k1) N x18

def zm7 (N : Nat) (i : (((List ((List UInt8) × (Int × (Int × ((List (Int × ((List UInt8) × Unit))) × Unit))))) × (Int × Unit)) × (List ((List UInt8) × (Int × (Int × ((List (Int × ((List UInt8) × Unit))) × Unit))))) × Int)) (v : Int) (r : Int -> Option Bool) (K : Ex -> List A -> Option Bool) : Option Bool :=
 zes N i.1 i.2.1 i.2.2 v (fun x18 => (r x18)) (fun a0 => (K .ret (mkS [(2, .v .bool)] 40 (a0, ())))) (K (.exit 0) (mkS [] 43 ()))

def zm3 (N : Nat) : Hd Bool := fun st K => (unS [(1, .box (.pair (.sl (.pair .str (.pair (.int .i64) (.pair (.int .i64) (.pair (.sl (.pair (.int .i64) (.pair .str .unit))) .unit))))) (.pair (.int .i64) .unit))), (14, .v (.sl (.pair .str (.pair (.int .i64) (.pair (.int .i64) (.pair (.sl (.pair (.int .i64) (.pair .str .unit))) .unit)))))), (0, .v (.int .i64)), (0, .v (.int .i64))] 24 (restr [18, 17, 16, 1] 0 st)).bind fun x => iter (fun v r => zm7 N ((fun x => (x.1, x.2.1, x.2.2.1)) x) v r K) N ((fun x => x.2.2.2.1) x)

def zu8 (N : Nat) : Tab Bool := [([0, 1, 0, 0, 1, 1, 0, 0, 1, 0, 1, 1], zm2 N)]

theorem zs5 {N : Nat} {c : Ctx} (hb : Base Go.Proofs.Try.prog (z4n N) c) : zu Go.Proofs.Try.prog c (zf z24 [0, 1, 0, 1, 1]) (zm3 N) :=
  z4x (s := [(1, .box (.pair (.sl (.pair .str (.pair (.int .i64) (.pair (.int .i64) (.pair (.sl (.pair (.int .i64) (.pair .str .unit))) .unit))))) (.pair (.int .i64) .unit))), (14, .v (.sl (.pair .str (.pair (.int .i64) (.pair (.int .i64) (.pair (.sl (.pair (.int .i64) (.pair .str .unit))) .unit)))))), (0, .v (.int .i64)), (0, .v (.int .i64))]) (m := 24) (zm7 N) [18, 17, 16, 1] N (fun x => (x.1, x.2.1, x.2.2.1)) (fun x => x.2.2.2.1) (fun i v => (i.1, i.2.1, i.2.2, v, ())) (fun _ => rfl) (z7 hb N (zu8 N) z6n z24 (TabOk.cons (zs4 hb) TabOk.nil) [0, 0, 1, 0, 1, 1] _ rfl) (fun i v r K => by kernel_rfl)

def z6o (N : Nat) (s : ((List ((List UInt8) × (Int × (Int × ((List (Int × ((List UInt8) × Unit))) × Unit))))) × (Int × Unit))) : Option Bool :=
 zew N s
 (fun x2 => some x2)
 (zeu N s s.1 (((List.length s.1) : Nat) : Int) (0 : Int)
 (fun x21 => some x21)
 (some true))

def zoh (N : Nat) : Tab Bool := [([0, 1], zm5 N), ([0, 1, 0, 1, 1], zm3 N)]

theorem zq9 (N : Nat) (x : z2b [(0, .v (.pair (.sl (.pair .str (.pair (.int .i64) (.pair (.int .i64) (.pair (.sl (.pair (.int .i64) (.pair .str .unit))) .unit))))) (.pair (.int .i64) .unit)))]) : zej (z4n N) N (zoh N) z6n Go.Proofs.Try.f10 (mkS [(0, .v (.pair (.sl (.pair .str (.pair (.int .i64) (.pair (.int .i64) (.pair (.sl (.pair (.int .i64) (.pair .str .unit))) .unit))))) (.pair (.int .i64) .unit)))] 0 x) (z5b (.v .bool) 1) = z6o N x.1 := by kernel_rfl

def zd6 (N : Nat) : List A -> Res := z2r [(0, .v (.pair (.sl (.pair .str (.pair (.int .i64) (.pair (.int .i64) (.pair (.sl (.pair (.int .i64) (.pair .str .unit))) .unit))))) (.pair (.int .i64) .unit)))] (fun x => z6o N x.1) (zfe (.v .bool) 1)

theorem zex (N : Nat) : Contract Go.Proofs.Try.prog z10 10 (zd6 N) :=
  Contract.of (E := z4n N) (H := zoh N) (L := z6n) (N := N) (body := z24) (K := (z5b (.v .bool) 1)) (zs8 N) Go.Proofs.Try.func10 (by kernel_rfl) (by decide) (fun _ hb => (TabOk.cons (zs7 hb) (TabOk.cons (zs5 hb) TabOk.nil))) (fun x y h => by rw [zq9]; exact h) (z1q (s := (.v .bool)) (m := 1))

def zd9 : Code := (Go.Proofs.Try.f12.body).getD .skip

def zkk : List (List Nat × List Nat) := [([0], [1]), ([0, 1], [1, 3]), ([0, 0, 1, 1], [13, 3, 1]), ([0, 0, 1, 0, 1, 1], [14, 3, 1, 13]), ([1, 0, 1, 0, 1, 1], []), ([0, 1, 1, 0, 1, 0, 1, 1], [27, 3, 1, 13]), ([1, 1, 1, 0, 1, 0, 1, 1], []), ([0, 1, 1, 1, 1, 0, 1, 0, 1, 1], [41, 3, 1, 13]), ([1, 1, 1, 1, 1, 0, 1, 0, 1, 1], []), ([0, 1, 1, 1, 1, 1, 1, 0, 1, 0, 1, 1], [54, 1]), ([1, 1, 1, 1, 1, 1, 1, 0, 1, 0, 1, 1], []), ([0, 0, 1, 1, 1, 1, 1, 1, 1, 0, 1, 0, 1, 1], [2]), ([1, 0, 1, 1, 1, 1, 1, 1, 1, 0, 1, 0, 1, 1], [2]), ([0, 0, 1, 1, 1, 1, 1, 0, 1, 0, 1, 1], [2]), ([1, 0, 1, 1, 1, 1, 1, 0, 1, 0, 1, 1], [2]), ([0, 0, 1, 1, 1, 0, 1, 0, 1, 1], [2]), ([1, 0, 1, 1, 1, 0, 1, 0, 1, 1], [2]), ([0, 0, 1, 0, 1, 0, 1, 1], [2]), ([1, 0, 1, 0, 1, 0, 1, 1], [2]), ([1, 0, 1, 1], []), ([0, 1, 1, 1], [2]), ([1, 1, 1, 1], [2])]

def zey (N : Nat) : Env := z4w tys z10 [(33, zfh N), (28, z6x N)] [] [] [] false [] []

theorem zuf (N : Nat) : EnvOk Go.Proofs.Try.prog (zey N) := z1e mixed z2n (FnsOk.cons (zot N) (FnsOk.cons (zd5 N) (FnsOk.nil))) (ItsOk.nil)

def zgs (N : Nat) (e : (Int × ((List UInt8) × (Int × (Int × ((List UInt8) × Unit)))))) (k0 : Bool -> Option Bool) : Option Bool :=
 (zec N e.2.1).bind fun y =>
 cond y
 ((z35 N e.2.2.1 (1 : Int)).bind fun y1 =>
 k0 y1)
 (k0 false)

def zol (N : Nat) (x : z2b [(1, .box (.pair (.int .i64) (.pair .str (.pair (.int .i64) (.pair (.int .i64) (.pair .str .unit))))))]) (K : Ex -> List A -> Option Bool) : Option Bool :=
 zgs N x.1 (fun a1 => (K .normal (mkS [(1, .box (.pair (.int .i64) (.pair .str (.pair (.int .i64) (.pair (.int .i64) (.pair .str .unit)))))), (1, .v .bool)] 70 (x.1, a1, ()))))

def zoj (N : Nat) : Hd Bool := fun st K => (unS [(1, .box (.pair (.int .i64) (.pair .str (.pair (.int .i64) (.pair (.int .i64) (.pair .str .unit))))))] 72 (restr [1] 0 st)).bind fun x => zol N x K

def zvq (N : Nat) : Tab Bool := []

theorem zue {N : Nat} {c : Ctx} (hb : Base Go.Proofs.Try.prog (zey N) c) : zu Go.Proofs.Try.prog c (zf zd9 [0, 1]) (zoj N) :=
  zp (s := [(1, .box (.pair (.int .i64) (.pair .str (.pair (.int .i64) (.pair (.int .i64) (.pair .str .unit))))))]) (m := 72) (g := zol N) [1] (z7 hb N (zvq N) zkk zd9 TabOk.nil [0, 1] _ rfl) (fun x K => by kernel_rfl)

def zdp (N : Nat) (e : (Int × ((List UInt8) × (Int × (Int × ((List UInt8) × Unit)))))) : Option Bool :=
 zgs N e
 (fun ofTenant => cond (e.1 == (1 : Int))
 (cond ofTenant
 ((z35 N e.2.2.2.1 (0 : Int)).bind fun y =>
 cond y
 (some (e.2.2.2.2.1 == ([] : List UInt8)))
 (some false))
 (some false))
 (cond (e.1 == (2 : Int))
 (cond ofTenant
 (cond (e.2.2.2.1 == (0 : Int))
 (some ((((List.length e.2.2.2.2.1) : Nat) : Int) == (32 : Int)))
 (some false))
 (some false))
 (cond (e.1 == (3 : Int))
 (cond ofTenant
 (cond (e.2.2.2.1 == (0 : Int))
 (some (e.2.2.2.2.1 == ([] : List UInt8)))
 (some false))
 (some false))
 (cond (e.1 == (4 : Int))
 ((z35 N e.2.2.1 (0 : Int)).bind fun y1 =>
 cond y1
 (cond (e.2.1 == ([] : List UInt8))
 (cond (e.2.2.2.1 == (0 : Int))
 (some (e.2.2.2.2.1 == ([] : List UInt8)))
 (some false))
 (some false))
 (some false))
 (some false)))))

def zqd (N : Nat) : Tab Bool := [([0, 1], zoj N)]

theorem zsb (N : Nat) (x : z2b [(0, .v (.pair (.int .i64) (.pair .str (.pair (.int .i64) (.pair (.int .i64) (.pair .str .unit))))))]) : zej (zey N) N (zqd N) zkk Go.Proofs.Try.f12 (mkS [(0, .v (.pair (.int .i64) (.pair .str (.pair (.int .i64) (.pair (.int .i64) (.pair .str .unit))))))] 0 x) (z5b (.v .bool) 1) = zdp N x.1 := by kernel_rfl

def zud (N : Nat) : List A -> Res := z2r [(0, .v (.pair (.int .i64) (.pair .str (.pair (.int .i64) (.pair (.int .i64) (.pair .str .unit))))))] (fun x => zdp N x.1) (zfe (.v .bool) 1)

theorem zvr (N : Nat) : Contract Go.Proofs.Try.prog z10 12 (zud N) :=
  Contract.of (E := zey N) (H := zqd N) (L := zkk) (N := N) (body := zd9) (K := (z5b (.v .bool) 1)) (zuf N) Go.Proofs.Try.func12 (by kernel_rfl) (by decide) (fun _ hb => (TabOk.cons (zue hb) TabOk.nil)) (fun x y h => by rw [zsb]; exact h) (z1q (s := (.v .bool)) (m := 1))

def zqh : Code := (Go.Proofs.Try.f36.body).getD .skip

def zon : List (List Nat × List Nat) := [([0], [2, 1]), ([0, 1], [3]), ([1, 1], [3])]

def zgt (N : Nat) : Env := z4w tys z10 [] [] [] [] false [] []

theorem zse (N : Nat) : EnvOk Go.Proofs.Try.prog (zgt N) := z1e mixed z2n (FnsOk.nil) (ItsOk.nil)

def zt5 (N : Nat) (t : ((List UInt8) × (Int × (Int × ((List (Int × ((List UInt8) × Unit))) × Unit))))) (x1 : (List UInt8)) : Option Bool :=
 some (t.1 == x1)

def zom (N : Nat) : Tab Bool := []

theorem zqg (N : Nat) (x : z2b [(0, .v (.pair .str (.pair (.int .i64) (.pair (.int .i64) (.pair (.sl (.pair (.int .i64) (.pair .str .unit))) .unit))))), (0, .v (.ptr .str))]) : zej (zgt N) N (zom N) zon Go.Proofs.Try.f36 (mkS [(0, .v (.pair .str (.pair (.int .i64) (.pair (.int .i64) (.pair (.sl (.pair (.int .i64) (.pair .str .unit))) .unit))))), (0, .v (.ptr .str))] 0 x) (z5b (.v .bool) 2) = zt5 N x.1 x.2.1 := by kernel_rfl

def zda (N : Nat) : List A -> Res := z2r [(0, .v (.pair .str (.pair (.int .i64) (.pair (.int .i64) (.pair (.sl (.pair (.int .i64) (.pair .str .unit))) .unit))))), (0, .v (.ptr .str))] (fun x => zt5 N x.1 x.2.1) (zfe (.v .bool) 2)

theorem zmc (N : Nat) : Contract Go.Proofs.Try.prog z10 36 (zda N) :=
  Contract.of (E := zgt N) (H := zom N) (L := zon) (N := N) (body := zqh) (K := (z5b (.v .bool) 2)) (zse N) Go.Proofs.Try.func36 (by kernel_rfl) (by decide) (fun _ hb => TabOk.nil) (fun x y h => by rw [zqg]; exact h) (z1q (s := (.v .bool)) (m := 2))

def z98 : Code := (Go.Proofs.Try.f35.body).getD .skip

def zfo : List (List Nat × List Nat) := [([0], [0, 1]), ([0, 0, 1], [8, 7, 1, 0]), ([0, 1, 0, 1], [8, 7, 1, 0]), ([0, 0, 0, 1, 0, 1], [9, 8, 1, 0, 7]), ([0, 1, 0, 0, 1, 0, 1], [8, 1, 0, 7]), ([1, 0, 1, 0, 0, 1, 0, 1], []), ([0, 0, 0, 1, 1, 0, 0, 1, 0, 1], [1, 0, 5, 8, 7]), ([0, 1, 0, 0, 1, 1, 0, 0, 1, 0, 1], [16, 5, 8, 7, 1, 0]), ([1, 1, 0, 0, 1, 1, 0, 0, 1, 0, 1], [8, 7, 1, 0]), ([0, 0, 1, 1, 0, 0, 1, 1, 0, 0, 1, 0, 1], [4]), ([1, 0, 1, 1, 0, 0, 1, 1, 0, 0, 1, 0, 1], [4]), ([0, 1, 1, 0, 0, 1, 0, 1], [8, 7, 1, 0]), ([1, 1, 1, 0, 0, 1, 0, 1], [8, 7, 1, 0]), ([1, 0, 1], []), ([0, 1, 1], [4]), ([1, 1, 1], [4])]

def zad (N : Nat) : Env := z4w tys z10 [(36, zda N)] [] [] [] false [] []

theorem zrf (N : Nat) : EnvOk Go.Proofs.Try.prog (zad N) := z1e mixed z2n (FnsOk.cons (zmc N) (FnsOk.nil)) (ItsOk.nil)

def zdg (N : Nat) (s : (List ((List UInt8) × (Int × (Int × ((List (Int × ((List UInt8) × Unit))) × Unit)))))) (f : ((List UInt8) × Unit)) (x7 : Int) (x8 : Int) (rec : Int -> Option Int) (k0 : Int -> Option Int) (k1 : Option Int) : Option Int :=
 cond (decide (x8 < x7))
 (cond (Go.Lift.inR x8 (List.length s))
 (cond ((List.getD s (Int.toNat x8) (([] : List UInt8), ((0 : Int), ((0 : Int), (([] : List (Int × ((List UInt8) × Unit))), ()))))).1 == f.1)
 (k0 x8)
 (rec (Go.IntKind.wrap Go.IntKind.i64 (x8 + (1 : Int)))))
 (none))
 (k1)

def zk7 (N : Nat) (s : (List ((List UInt8) × (Int × (Int × ((List (Int × ((List UInt8) × Unit))) × Unit)))))) (f : ((List UInt8) × Unit)) (x7 : Int) (x8 : Int) (k0 : Int -> Option Int) (k1 : Option Int) : Option Int :=
 iter (fun (v : Int) r => zdg N s f x7 v (fun x8 => (r x8)) k0 k1) N x8

def zk9 (N : Nat) (i : ((List ((List UInt8) × (Int × (Int × ((List (Int × ((List UInt8) × Unit))) × Unit))))) × ((List UInt8) × Unit) × Int)) (v : Int) (r : Int -> Option Int) (K : Ex -> List A -> Option Int) : Option Int :=
 zdg N i.1 i.2.1 i.2.2 v (fun x8 => (r x8)) (fun a0 => (K .ret (mkS [(4, .v (.int .i64))] 14 (a0, ())))) (K (.exit 0) (mkS [] 19 ()))

def zk8 (N : Nat) : Hd Int := fun st K => (unS [(0, .v (.sl (.pair .str (.pair (.int .i64) (.pair (.int .i64) (.pair (.sl (.pair (.int .i64) (.pair .str .unit))) .unit)))))), (0, .v (.fn 36 (.pair (.ptr .str) .unit))), (5, .v (.int .i64)), (0, .v (.int .i64))] 10 (restr [8, 7, 1, 0] 0 st)).bind fun x => iter (fun v r => zk9 N ((fun x => (x.1, x.2.1, x.2.2.1)) x) v r K) N ((fun x => x.2.2.2.1) x)

def zsn (N : Nat) : Tab Int := []

theorem zre {N : Nat} {c : Ctx} (hb : Base Go.Proofs.Try.prog (zad N) c) : zu Go.Proofs.Try.prog c (zf z98 [0, 1, 0, 1]) (zk8 N) :=
  z4x (s := [(0, .v (.sl (.pair .str (.pair (.int .i64) (.pair (.int .i64) (.pair (.sl (.pair (.int .i64) (.pair .str .unit))) .unit)))))), (0, .v (.fn 36 (.pair (.ptr .str) .unit))), (5, .v (.int .i64)), (0, .v (.int .i64))]) (m := 10) (zk9 N) [8, 7, 1, 0] N (fun x => (x.1, x.2.1, x.2.2.1)) (fun x => x.2.2.2.1) (fun i v => (i.1, i.2.1, i.2.2, v, ())) (fun _ => rfl) (z7 hb N (zsn N) zfo z98 TabOk.nil [0, 0, 1, 0, 1] _ rfl) (fun i v r K => by kernel_rfl)

def zc5 (N : Nat) (s : (List ((List UInt8) × (Int × (Int × ((List (Int × ((List UInt8) × Unit))) × Unit)))))) (f : ((List UInt8) × Unit)) : Option Int :=
 zk7 N s f (((List.length s) : Nat) : Int) (0 : Int)
 (fun x4 => some x4)
 (some (-(1 : Int)))

def zmy (N : Nat) : Tab Int := [([0, 1, 0, 1], zk8 N)]

theorem zpf (N : Nat) (x : z2b [(0, .v (.sl (.pair .str (.pair (.int .i64) (.pair (.int .i64) (.pair (.sl (.pair (.int .i64) (.pair .str .unit))) .unit)))))), (0, .v (.fn 36 (.pair (.ptr .str) .unit)))]) : zej (zad N) N (zmy N) zfo Go.Proofs.Try.f35 (mkS [(0, .v (.sl (.pair .str (.pair (.int .i64) (.pair (.int .i64) (.pair (.sl (.pair (.int .i64) (.pair .str .unit))) .unit)))))), (0, .v (.fn 36 (.pair (.ptr .str) .unit)))] 0 x) (z5b (.v (.int .i64)) 2) = zc5 N x.1 x.2.1 := by kernel_rfl

def zhu (N : Nat) : List A -> Res := z2r [(0, .v (.sl (.pair .str (.pair (.int .i64) (.pair (.int .i64) (.pair (.sl (.pair (.int .i64) (.pair .str .unit))) .unit)))))), (0, .v (.fn 36 (.pair (.ptr .str) .unit)))] (fun x => zc5 N x.1 x.2.1) (zfe (.v (.int .i64)) 2)

theorem zsp (N : Nat) : Contract Go.Proofs.Try.prog z10 35 (zhu N) :=
  Contract.of (E := zad N) (H := zmy N) (L := zfo) (N := N) (body := z98) (K := (z5b (.v (.int .i64)) 2)) (zrf N) Go.Proofs.Try.func35 (by kernel_rfl) (by decide) (fun _ hb => (TabOk.cons (zre hb) TabOk.nil)) (fun x y h => by rw [zpf]; exact h) (z1q (s := (.v (.int .i64))) (m := 2))

def zsd : Code := (Go.Proofs.Try.f21.body).getD .skip

def zqf : List (List Nat × List Nat) := [([0], [2, 3]), ([0, 1], [4]), ([1, 1], [4])]

def zkl (N : Nat) : Env := z4w tys z10 [(35, zhu N), (36, zda N)] [] [] [] false [] []

theorem zug (N : Nat) : EnvOk Go.Proofs.Try.prog (zkl N) := z1e mixed z2n (FnsOk.cons (zsp N) (FnsOk.cons (zmc N) (FnsOk.nil))) (ItsOk.nil)

def z6z (N : Nat) (s : ((List ((List UInt8) × (Int × (Int × ((List (Int × ((List UInt8) × Unit))) × Unit))))) × (Int × Unit))) (tenant : (List UInt8)) : Option Int :=
 (zc5 N s.1 (tenant, ())).bind fun y =>
 some y

def zqe (N : Nat) : Tab Int := []

theorem zsc (N : Nat) (x : z2b [(0, .v (.pair (.sl (.pair .str (.pair (.int .i64) (.pair (.int .i64) (.pair (.sl (.pair (.int .i64) (.pair .str .unit))) .unit))))) (.pair (.int .i64) .unit))), (0, .v .str)]) : zej (zkl N) N (zqe N) zqf Go.Proofs.Try.f21 (mkS [(0, .v (.pair (.sl (.pair .str (.pair (.int .i64) (.pair (.int .i64) (.pair (.sl (.pair (.int .i64) (.pair .str .unit))) .unit))))) (.pair (.int .i64) .unit))), (0, .v .str)] 0 x) (z5b (.v (.int .i64)) 2) = z6z N x.1 x.2.1 := by kernel_rfl

def zac (N : Nat) : List A -> Res := z2r [(0, .v (.pair (.sl (.pair .str (.pair (.int .i64) (.pair (.int .i64) (.pair (.sl (.pair (.int .i64) (.pair .str .unit))) .unit))))) (.pair (.int .i64) .unit))), (0, .v .str)] (fun x => z6z N x.1 x.2.1) (zfe (.v (.int .i64)) 2)

theorem zce (N : Nat) : Contract Go.Proofs.Try.prog z10 21 (zac N) :=
  Contract.of (E := zkl N) (H := zqe N) (L := zqf) (N := N) (body := zsd) (K := (z5b (.v (.int .i64)) 2)) (zug N) Go.Proofs.Try.func21 (by kernel_rfl) (by decide) (fun _ hb => TabOk.nil) (fun x y h => by rw [zsc]; exact h) (z1q (s := (.v (.int .i64))) (m := 2))

def zp8 : Code := (Go.Proofs.Try.f44.body).getD .skip

def zm1 : List (List Nat × List Nat) := [([0], [2, 1]), ([0, 1], [3]), ([1, 1], [3])]

def zer (N : Nat) : Env := z4w tys z10 [] [] [] [] false [] []

theorem zq7 (N : Nat) : EnvOk Go.Proofs.Try.prog (zer N) := z1e mixed z2n (FnsOk.nil) (ItsOk.nil)

def zq8 (N : Nat) (k : (Int × ((List UInt8) × Unit))) (x1 : Int) : Option Bool :=
 some (k.1 == x1)

def zm0 (N : Nat) : Tab Bool := []

theorem zp7 (N : Nat) (x : z2b [(0, .v (.pair (.int .i64) (.pair .str .unit))), (0, .v (.ptr (.int .i64)))]) : zej (zer N) N (zm0 N) zm1 Go.Proofs.Try.f44 (mkS [(0, .v (.pair (.int .i64) (.pair .str .unit))), (0, .v (.ptr (.int .i64)))] 0 x) (z5b (.v .bool) 2) = zq8 N x.1 x.2.1 := by kernel_rfl

def zat (N : Nat) : List A -> Res := z2r [(0, .v (.pair (.int .i64) (.pair .str .unit))), (0, .v (.ptr (.int .i64)))] (fun x => zq8 N x.1 x.2.1) (zfe (.v .bool) 2)

theorem zjw (N : Nat) : Contract Go.Proofs.Try.prog z10 44 (zat N) :=
  Contract.of (E := zer N) (H := zm0 N) (L := zm1) (N := N) (body := zp8) (K := (z5b (.v .bool) 2)) (zq7 N) Go.Proofs.Try.func44 (by kernel_rfl) (by decide) (fun _ hb => TabOk.nil) (fun x y h => by rw [zp7]; exact h) (z1q (s := (.v .bool)) (m := 2))

def zfp : Code := (Go.Proofs.Try.f43.body).getD .skip

def zo2 : List (List Nat × List Nat) := [([0], [0, 1]), ([0, 0, 1], [8, 7, 1, 0]), ([0, 1, 0, 1], [8, 7, 1, 0]), ([0, 0, 0, 1, 0, 1], [9, 8, 1, 0, 7]), ([0, 1, 0, 0, 1, 0, 1], [8, 1, 0, 7]), ([1, 0, 1, 0, 0, 1, 0, 1], []), ([0, 0, 0, 1, 1, 0, 0, 1, 0, 1], [1, 0, 5, 8, 7]), ([0, 1, 0, 0, 1, 1, 0, 0, 1, 0, 1], [16, 5, 8, 7, 1, 0]), ([1, 1, 0, 0, 1, 1, 0, 0, 1, 0, 1], [8, 7, 1, 0]), ([0, 0, 1, 1, 0, 0, 1, 1, 0, 0, 1, 0, 1], [4]), ([1, 0, 1, 1, 0, 0, 1, 1, 0, 0, 1, 0, 1], [4]), ([0, 1, 1, 0, 0, 1, 0, 1], [8, 7, 1, 0]), ([1, 1, 1, 0, 0, 1, 0, 1], [8, 7, 1, 0]), ([1, 0, 1], []), ([0, 1, 1], [4]), ([1, 1, 1], [4])]

def zie (N : Nat) : Env := z4w tys z10 [(44, zat N)] [] [] [] false [] []

theorem zwe (N : Nat) : EnvOk Go.Proofs.Try.prog (zie N) := z1e mixed z2n (FnsOk.cons (zjw N) (FnsOk.nil)) (ItsOk.nil)

def zlk (N : Nat) (s : (List (Int × ((List UInt8) × Unit)))) (f : (Int × Unit)) (x7 : Int) (x8 : Int) (rec : Int -> Option Int) (k0 : Int -> Option Int) (k1 : Option Int) : Option Int :=
 cond (decide (x8 < x7))
 (cond (Go.Lift.inR x8 (List.length s))
 (cond ((List.getD s (Int.toNat x8) ((0 : Int), (([] : List UInt8), ()))).1 == f.1)
 (k0 x8)
 (rec (Go.IntKind.wrap Go.IntKind.i64 (x8 + (1 : Int)))))
 (none))
 (k1)

def zrg (N : Nat) (s : (List (Int × ((List UInt8) × Unit)))) (f : (Int × Unit)) (x7 : Int) (x8 : Int) (k0 : Int -> Option Int) (k1 : Option Int) : Option Int :=
 iter (fun (v : Int) r => zlk N s f x7 v (fun x8 => (r x8)) k0 k1) N x8

def zri (N : Nat) (i : ((List (Int × ((List UInt8) × Unit))) × (Int × Unit) × Int)) (v : Int) (r : Int -> Option Int) (K : Ex -> List A -> Option Int) : Option Int :=
 zlk N i.1 i.2.1 i.2.2 v (fun x8 => (r x8)) (fun a0 => (K .ret (mkS [(4, .v (.int .i64))] 14 (a0, ())))) (K (.exit 0) (mkS [] 19 ()))

def zrh (N : Nat) : Hd Int := fun st K => (unS [(0, .v (.sl (.pair (.int .i64) (.pair .str .unit)))), (0, .v (.fn 44 (.pair (.ptr (.int .i64)) .unit))), (5, .v (.int .i64)), (0, .v (.int .i64))] 10 (restr [8, 7, 1, 0] 0 st)).bind fun x => iter (fun v r => zri N ((fun x => (x.1, x.2.1, x.2.2.1)) x) v r K) N ((fun x => x.2.2.2.1) x)

def zxu (N : Nat) : Tab Int := []

theorem zwd {N : Nat} {c : Ctx} (hb : Base Go.Proofs.Try.prog (zie N) c) : zu Go.Proofs.Try.prog c (zf zfp [0, 1, 0, 1]) (zrh N) :=
  z4x (s := [(0, .v (.sl (.pair (.int .i64) (.pair .str .unit)))), (0, .v (.fn 44 (.pair (.ptr (.int .i64)) .unit))), (5, .v (.int .i64)), (0, .v (.int .i64))]) (m := 10) (zri N) [8, 7, 1, 0] N (fun x => (x.1, x.2.1, x.2.2.1)) (fun x => x.2.2.2.1) (fun i v => (i.1, i.2.1, i.2.2, v, ())) (fun _ => rfl) (z7 hb N (zxu N) zo2 zfp TabOk.nil [0, 0, 1, 0, 1] _ rfl) (fun i v r K => by kernel_rfl)

def zmz (N : Nat) (s : (List (Int × ((List UInt8) × Unit)))) (f : (Int × Unit)) : Option Int :=
 zrg N s f (((List.length s) : Nat) : Int) (0 : Int)
 (fun x4 => some x4)
 (some (-(1 : Int)))

def ztk (N : Nat) : Tab Int := [([0, 1, 0, 1], zrh N)]

theorem zuw (N : Nat) (x : z2b [(0, .v (.sl (.pair (.int .i64) (.pair .str .unit)))), (0, .v (.fn 44 (.pair (.ptr (.int .i64)) .unit)))]) : zej (zie N) N (ztk N) zo2 Go.Proofs.Try.f43 (mkS [(0, .v (.sl (.pair (.int .i64) (.pair .str .unit)))), (0, .v (.fn 44 (.pair (.ptr (.int .i64)) .unit)))] 0 x) (z5b (.v (.int .i64)) 2) = zmz N x.1 x.2.1 := by kernel_rfl

def zoy (N : Nat) : List A -> Res := z2r [(0, .v (.sl (.pair (.int .i64) (.pair .str .unit)))), (0, .v (.fn 44 (.pair (.ptr (.int .i64)) .unit)))] (fun x => zmz N x.1 x.2.1) (zfe (.v (.int .i64)) 2)

theorem zxw (N : Nat) : Contract Go.Proofs.Try.prog z10 43 (zoy N) :=
  Contract.of (E := zie N) (H := ztk N) (L := zo2) (N := N) (body := zfp) (K := (z5b (.v (.int .i64)) 2)) (zwe N) Go.Proofs.Try.func43 (by kernel_rfl) (by decide) (fun _ hb => (TabOk.cons (zwd hb) TabOk.nil)) (fun x y h => by rw [zuw]; exact h) (z1q (s := (.v (.int .i64))) (m := 2))

def zq6 : Code := (Go.Proofs.Try.f34.body).getD .skip

def zog : List (List Nat × List Nat) := [([0], [0, 3]), ([0, 1], [4]), ([1, 1], [4])]

def zgr (N : Nat) : Env := z4w tys z10 [(43, zoy N), (44, zat N)] [] [] [] false [] []

theorem zs3 (N : Nat) : EnvOk Go.Proofs.Try.prog (zgr N) := z1e mixed z2n (FnsOk.cons (zxw N) (FnsOk.cons (zjw N) (FnsOk.nil))) (ItsOk.nil)

def z6m (N : Nat) (l : (List (Int × ((List UInt8) × Unit)))) (num : Int) : Option Int :=
 (zmz N l (num, ())).bind fun y =>
 some y

def zof (N : Nat) : Tab Int := []

theorem zq5 (N : Nat) (x : z2b [(0, .v (.sl (.pair (.int .i64) (.pair .str .unit)))), (0, .v (.int .i64))]) : zej (zgr N) N (zof N) zog Go.Proofs.Try.f34 (mkS [(0, .v (.sl (.pair (.int .i64) (.pair .str .unit)))), (0, .v (.int .i64))] 0 x) (z5b (.v (.int .i64)) 2) = z6m N x.1 x.2.1 := by kernel_rfl

def zjv (N : Nat) : List A -> Res := z2r [(0, .v (.sl (.pair (.int .i64) (.pair .str .unit)))), (0, .v (.int .i64))] (fun x => z6m N x.1 x.2.1) (zfe (.v (.int .i64)) 2)

theorem zlz (N : Nat) : Contract Go.Proofs.Try.prog z10 34 (zjv N) :=
  Contract.of (E := zgr N) (H := zof N) (L := zog) (N := N) (body := zq6) (K := (z5b (.v (.int .i64)) 2)) (zs3 N) Go.Proofs.Try.func34 (by kernel_rfl) (by decide) (fun _ hb => TabOk.nil) (fun x y h => by rw [zq5]; exact h) (z1q (s := (.v (.int .i64))) (m := 2))

def zuc : Code := (Go.Proofs.Try.f17.body).getD .skip

def zt4 : List (List Nat × List Nat) := [([0], [3, 1, 2]), ([0, 1], [8, 3, 2]), ([0, 0, 1, 1], [15, 3, 8, 2]), ([1, 0, 1, 1], [3, 8, 2]), ([0, 0, 1, 0, 1, 1], [6, 7]), ([1, 0, 1, 0, 1, 1], [6, 7]), ([0, 1, 1, 1], [9, 2]), ([0, 1, 1, 1, 1], [10, 9]), ([0, 0, 1, 1, 1, 1, 1], [26, 9, 10]), ([1, 0, 1, 1, 1, 1, 1], [9, 10]), ([0, 0, 1, 0, 1, 1, 1, 1, 1], [6, 7]), ([1, 0, 1, 0, 1, 1, 1, 1, 1], [6, 7]), ([0, 1, 1, 1, 1, 1, 1], [6, 7]), ([1, 1, 1, 1, 1, 1, 1], [6, 7])]

def znj (N : Nat) : Env := z4w tys z10 [(34, zjv N), (21, zac N)] [] [] [] false [] []

theorem zvp (N : Nat) : EnvOk Go.Proofs.Try.prog (znj N) := z1e mixed z2n (FnsOk.cons (zlz N) (FnsOk.cons (zce N) (FnsOk.nil))) (ItsOk.nil)

def zmb (N : Nat) (s : ((List ((List UInt8) × (Int × (Int × ((List (Int × ((List UInt8) × Unit))) × Unit))))) × (Int × Unit))) (tenant : (List UInt8)) (num : Int) : Option ((List UInt8) × Bool × Unit) :=
 (z6z N s tenant).bind fun y =>
 cond (decide (y < (0 : Int)))
 (some (([] : List UInt8), (false, ())))
 (cond (Go.Lift.inR y (List.length s.1))
 ((z6m N (List.getD s.1 (Int.toNat y) (([] : List UInt8), ((0 : Int), ((0 : Int), (([] : List (Int × ((List UInt8) × Unit))), ()))))).2.2.2.1 num).bind fun y1 =>
 cond (decide (y1 < (0 : Int)))
 (some (([] : List UInt8), (false, ())))
 (cond (Go.Lift.inR y1 (List.length (List.getD s.1 (Int.toNat y) (([] : List UInt8), ((0 : Int), ((0 : Int), (([] : List (Int × ((List UInt8) × Unit))), ()))))).2.2.2.1))
 (some ((List.getD (List.getD s.1 (Int.toNat y) (([] : List UInt8), ((0 : Int), ((0 : Int), (([] : List (Int × ((List UInt8) × Unit))), ()))))).2.2.2.1 (Int.toNat y1) ((0 : Int), (([] : List UInt8), ()))).2.1, (true, ())))
 (none)))
 (none))

def zt3 (N : Nat) : Tab ((List UInt8) × Bool × Unit) := []

theorem zub (N : Nat) (x : z2b [(0, .v (.pair (.sl (.pair .str (.pair (.int .i64) (.pair (.int .i64) (.pair (.sl (.pair (.int .i64) (.pair .str .unit))) .unit))))) (.pair (.int .i64) .unit))), (0, .v .str), (0, .v (.int .i64))]) : zej (znj N) N (zt3 N) zt4 Go.Proofs.Try.f17 (mkS [(0, .v (.pair (.sl (.pair .str (.pair (.int .i64) (.pair (.int .i64) (.pair (.sl (.pair (.int .i64) (.pair .str .unit))) .unit))))) (.pair (.int .i64) .unit))), (0, .v .str), (0, .v (.int .i64))] 0 x) (z5b (.tup [.str, .bool]) 3) = zmb N x.1 x.2.1 x.2.2.1 := by kernel_rfl

def zoi (N : Nat) : List A -> Res := z2r [(0, .v (.pair (.sl (.pair .str (.pair (.int .i64) (.pair (.int .i64) (.pair (.sl (.pair (.int .i64) (.pair .str .unit))) .unit))))) (.pair (.int .i64) .unit))), (0, .v .str), (0, .v (.int .i64))] (fun x => zmb N x.1 x.2.1 x.2.2.1) (zfe (.tup [.str, .bool]) 3)

theorem zxd (N : Nat) : Contract Go.Proofs.Try.prog z10 17 (zoi N) :=
  Contract.of (E := znj N) (H := zt3 N) (L := zt4) (N := N) (body := zuc) (K := (z5b (.tup [.str, .bool]) 3)) (zvp N) Go.Proofs.Try.func17 (by kernel_rfl) (by decide) (fun _ hb => TabOk.nil) (fun x y h => by rw [zub]; exact h) (z1q (s := (.tup [.str, .bool])) (m := 3))

def z47 : Code := (Go.Proofs.Try.f19.body).getD .skip

def zab : List (List Nat × List Nat) := [([0], [2, 1, 4]), ([0, 1], [6, 2, 4]), ([0, 0, 1, 1], [22, 4, 2, 6]), ([1, 0, 1, 1], [2, 6, 4]), ([0, 0, 1, 0, 1, 1], [4, 5]), ([1, 0, 1, 0, 1, 1], [4, 5]), ([0, 1, 1, 1], [7, 4]), ([0, 1, 1, 1, 1], [4, 5]), ([1, 1, 1, 1, 1], [4, 5])]

def z6y (N : Nat) : Env := z4w tys z10 [(21, zac N)] [(7, (.pair (.int .i64) (.pair .str .unit)))] [] [] false [] []

theorem zqc (N : Nat) : EnvOk Go.Proofs.Try.prog (z6y N) := z1e mixed z2n (FnsOk.cons (zce N) (FnsOk.nil)) (ItsOk.nil)

def zd7 (N : Nat) (s : ((List ((List UInt8) × (Int × (Int × ((List (Int × ((List UInt8) × Unit))) × Unit))))) × (Int × Unit))) (x4 : (Int × ((List UInt8) × Unit))) (at_ : Int) (k0 : Bool -> Option ((Int × ((List UInt8) × Unit)) × Bool × Unit)) : Option ((Int × ((List UInt8) × Unit)) × Bool × Unit) :=
 cond (decide (at_ < (0 : Int)))
 (k0 true)
 (cond (Go.Lift.inR at_ (List.length s.1))
 (k0 ((((List.length (List.getD s.1 (Int.toNat at_) (([] : List UInt8), ((0 : Int), ((0 : Int), (([] : List (Int × ((List UInt8) × Unit))), ()))))).2.2.2.1) : Nat) : Int) == (0 : Int)))
 (none))

def zk0 (N : Nat) (x : z2b [(2, .box (.pair (.sl (.pair .str (.pair (.int .i64) (.pair (.int .i64) (.pair (.sl (.pair (.int .i64) (.pair .str .unit))) .unit))))) (.pair (.int .i64) .unit))), (1, .box (.pair (.int .i64) (.pair .str .unit))), (1, .v (.int .i64))]) (K : Ex -> List A -> Option ((Int × ((List UInt8) × Unit)) × Bool × Unit)) : Option ((Int × ((List UInt8) × Unit)) × Bool × Unit) :=
 zd7 N x.1 x.2.1 x.2.2.1 (fun a3 => (K .normal (mkS [(2, .box (.pair (.sl (.pair .str (.pair (.int .i64) (.pair (.int .i64) (.pair (.sl (.pair (.int .i64) (.pair .str .unit))) .unit))))) (.pair (.int .i64) .unit))), (1, .box (.pair (.int .i64) (.pair .str .unit))), (1, .v (.int .i64)), (15, .v .bool)] 13 (x.1, x.2.1, x.2.2.1, a3, ()))))

def zjy (N : Nat) : Hd ((Int × ((List UInt8) × Unit)) × Bool × Unit) := fun st K => (unS [(2, .box (.pair (.sl (.pair .str (.pair (.int .i64) (.pair (.int .i64) (.pair (.sl (.pair (.int .i64) (.pair .str .unit))) .unit))))) (.pair (.int .i64) .unit))), (1, .box (.pair (.int .i64) (.pair .str .unit))), (1, .v (.int .i64))] 29 (restr [6, 2, 4] 0 st)).bind fun x => zk0 N x K

def zs9 (N : Nat) : Tab ((Int × ((List UInt8) × Unit)) × Bool × Unit) := []

theorem zqa {N : Nat} {c : Ctx} (hb : Base Go.Proofs.Try.prog (z6y N) c) : zu Go.Proofs.Try.prog c (zf z47 [0, 0, 1, 1]) (zjy N) :=
  zp (s := [(2, .box (.pair (.sl (.pair .str (.pair (.int .i64) (.pair (.int .i64) (.pair (.sl (.pair (.int .i64) (.pair .str .unit))) .unit))))) (.pair (.int .i64) .unit))), (1, .box (.pair (.int .i64) (.pair .str .unit))), (1, .v (.int .i64))]) (m := 29) (g := zk0 N) [6, 2, 4] (z7 hb N (zs9 N) zab z47 TabOk.nil [0, 0, 1, 1] _ rfl) (fun x K => by kernel_rfl)

def zd8 (N : Nat) (s : ((List ((List UInt8) × (Int × (Int × ((List (Int × ((List UInt8) × Unit))) × Unit))))) × (Int × Unit))) (x4 : (Int × ((List UInt8) × Unit))) (at_ : Int) (k0 : (Int × ((List UInt8) × Unit)) -> Bool -> Option ((Int × ((List UInt8) × Unit)) × Bool × Unit)) (k1 : Option ((Int × ((List UInt8) × Unit)) × Bool × Unit)) : Option ((Int × ((List UInt8) × Unit)) × Bool × Unit) :=
 zd7 N s x4 at_
 (fun x22 => cond x22
 (k0 ((0 : Int), (([] : List UInt8), ())) false)
 (k1))

def zk1 (N : Nat) (x : z2b [(2, .box (.pair (.sl (.pair .str (.pair (.int .i64) (.pair (.int .i64) (.pair (.sl (.pair (.int .i64) (.pair .str .unit))) .unit))))) (.pair (.int .i64) .unit))), (1, .box (.pair (.int .i64) (.pair .str .unit))), (1, .v (.int .i64))]) (K : Ex -> List A -> Option ((Int × ((List UInt8) × Unit)) × Bool × Unit)) : Option ((Int × ((List UInt8) × Unit)) × Bool × Unit) :=
 zd8 N x.1 x.2.1 x.2.2.1 (fun a0 a1 => (K .ret (mkS [(4, .box (.pair (.int .i64) (.pair .str .unit))), (0, .v .bool)] 30 (a0, a1, ())))) (K .normal (mkS [(2, .box (.pair (.sl (.pair .str (.pair (.int .i64) (.pair (.int .i64) (.pair (.sl (.pair (.int .i64) (.pair .str .unit))) .unit))))) (.pair (.int .i64) .unit))), (1, .box (.pair (.int .i64) (.pair .str .unit))), (1, .v (.int .i64))] 29 (x.1, x.2.1, x.2.2.1, ())))

def zjz (N : Nat) : Hd ((Int × ((List UInt8) × Unit)) × Bool × Unit) := fun st K => (unS [(2, .box (.pair (.sl (.pair .str (.pair (.int .i64) (.pair (.int .i64) (.pair (.sl (.pair (.int .i64) (.pair .str .unit))) .unit))))) (.pair (.int .i64) .unit))), (1, .box (.pair (.int .i64) (.pair .str .unit))), (1, .v (.int .i64))] 29 (restr [6, 2, 4] 0 st)).bind fun x => zk1 N x K

def zsa (N : Nat) : Tab ((Int × ((List UInt8) × Unit)) × Bool × Unit) := [([0, 0, 1, 1], zjy N)]

theorem zqb {N : Nat} {c : Ctx} (hb : Base Go.Proofs.Try.prog (z6y N) c) : zu Go.Proofs.Try.prog c (zf z47 [0, 1, 1]) (zjz N) :=
  zp (s := [(2, .box (.pair (.sl (.pair .str (.pair (.int .i64) (.pair (.int .i64) (.pair (.sl (.pair (.int .i64) (.pair .str .unit))) .unit))))) (.pair (.int .i64) .unit))), (1, .box (.pair (.int .i64) (.pair .str .unit))), (1, .v (.int .i64))]) (m := 29) (g := zk1 N) [6, 2, 4] (z7 hb N (zsa N) zab z47 (TabOk.cons (zqa hb) TabOk.nil) [0, 1, 1] _ rfl) (fun x K => by kernel_rfl)

def z8c (N : Nat) (s : ((List ((List UInt8) × (Int × (Int × ((List (Int × ((List UInt8) × Unit))) × Unit))))) × (Int × Unit))) (tenant : (List UInt8)) : Option ((Int × ((List UInt8) × Unit)) × Bool × Unit) :=
 (z6z N s tenant).bind fun y =>
 zd8 N s ((0 : Int), (([] : List UInt8), ())) y
 (fun x4 x5 => some (x4, (x5, ())))
 (cond (Go.Lift.inR y (List.length s.1))
 (cond (Go.Lift.inR (Go.IntKind.wrap Go.IntKind.i64 ((((List.length (List.getD s.1 (Int.toNat y) (([] : List UInt8), ((0 : Int), ((0 : Int), (([] : List (Int × ((List UInt8) × Unit))), ()))))).2.2.2.1) : Nat) : Int) - (1 : Int))) (List.length (List.getD s.1 (Int.toNat y) (([] : List UInt8), ((0 : Int), ((0 : Int), (([] : List (Int × ((List UInt8) × Unit))), ()))))).2.2.2.1))
 (some ((List.getD (List.getD s.1 (Int.toNat y) (([] : List UInt8), ((0 : Int), ((0 : Int), (([] : List (Int × ((List UInt8) × Unit))), ()))))).2.2.2.1 (Int.toNat (Go.IntKind.wrap Go.IntKind.i64 ((((List.length (List.getD s.1 (Int.toNat y) (([] : List UInt8), ((0 : Int), ((0 : Int), (([] : List (Int × ((List UInt8) × Unit))), ()))))).2.2.2.1) : Nat) : Int) - (1 : Int)))) ((0 : Int), (([] : List UInt8), ()))), (true, ())))
 (none))
 (none))

def zma (N : Nat) : Tab ((Int × ((List UInt8) × Unit)) × Bool × Unit) := [([0, 1, 1], zjz N)]

theorem zp9 (N : Nat) (x : z2b [(0, .v (.pair (.sl (.pair .str (.pair (.int .i64) (.pair (.int .i64) (.pair (.sl (.pair (.int .i64) (.pair .str .unit))) .unit))))) (.pair (.int .i64) .unit))), (0, .v .str)]) : zej (z6y N) N (zma N) zab Go.Proofs.Try.f19 (mkS [(0, .v (.pair (.sl (.pair .str (.pair (.int .i64) (.pair (.int .i64) (.pair (.sl (.pair (.int .i64) (.pair .str .unit))) .unit))))) (.pair (.int .i64) .unit))), (0, .v .str)] 0 x) (z5b (.tup [(.pair (.int .i64) (.pair .str .unit)), .bool]) 2) = z8c N x.1 x.2.1 := by kernel_rfl

def zau (N : Nat) : List A -> Res := z2r [(0, .v (.pair (.sl (.pair .str (.pair (.int .i64) (.pair (.int .i64) (.pair (.sl (.pair (.int .i64) (.pair .str .unit))) .unit))))) (.pair (.int .i64) .unit))), (0, .v .str)] (fun x => z8c N x.1 x.2.1) (zfe (.tup [(.pair (.int .i64) (.pair .str .unit)), .bool]) 2)

theorem zk2 (N : Nat) : Contract Go.Proofs.Try.prog z10 19 (zau N) :=
  Contract.of (E := z6y N) (H := zma N) (L := zab) (N := N) (body := z47) (K := (z5b (.tup [(.pair (.int .i64) (.pair .str .unit)), .bool]) 2)) (zqc N) Go.Proofs.Try.func19 (by kernel_rfl) (by decide) (fun _ hb => (TabOk.cons (zqb hb) TabOk.nil)) (fun x y h => by rw [zp9]; exact h) (z1q (s := (.tup [(.pair (.int .i64) (.pair .str .unit)), .bool])) (m := 2))

def zl1 : Code := (Go.Proofs.Try.f30.body).getD .skip

def zfw : List (List Nat × List Nat) := [([0], [0, 1]), ([0, 1], [4]), ([1, 1], [4])]

def z93 (N : Nat) : Env := z4w tys z10 [] [] [] [] false [] []

theorem zml (N : Nat) : EnvOk Go.Proofs.Try.prog (z93 N) := z1e mixed z2n (FnsOk.nil) (ItsOk.nil)

def z22 (N : Nat) (n : Int) (first : Int) : Option Bool :=
 cond (decide (first <= n))
 (some (decide (n <= (1099511627776 : Int))))
 (some false)

def zfv (N : Nat) : Tab Bool := []

theorem zl0 (N : Nat) (x : z2b [(0, .v (.int .i64)), (0, .v (.int .i64))]) : zej (z93 N) N (zfv N) zfw Go.Proofs.Try.f30 (mkS [(0, .v (.int .i64)), (0, .v (.int .i64))] 0 x) (z5b (.v .bool) 2) = z22 N x.1 x.2.1 := by kernel_rfl

def z75 (N : Nat) : List A -> Res := z2r [(0, .v (.int .i64)), (0, .v (.int .i64))] (fun x => z22 N x.1 x.2.1) (zfe (.v .bool) 2)

theorem zdv (N : Nat) : Contract Go.Proofs.Try.prog z10 30 (z75 N) :=
  Contract.of (E := z93 N) (H := zfv N) (L := zfw) (N := N) (body := zl1) (K := (z5b (.v .bool) 2)) (zml N) Go.Proofs.Try.func30 (by kernel_rfl) (by decide) (fun _ hb => TabOk.nil) (fun x y h => by rw [zl0]; exact h) (z1q (s := (.v .bool)) (m := 2))

def zi : Code := (Go.Proofs.Try.f31.body).getD .skip

def z1m : List (List Nat × List Nat) := [([0], [0]), ([0, 0, 1], [13, 0]), ([1, 0, 1], [0]), ([0, 0, 1, 0, 1], [2]), ([1, 0, 1, 0, 1], [2]), ([0, 0, 1, 1], [3, 0]), ([0, 1, 0, 1, 1], [3, 0]), ([0, 0, 0, 0, 1, 0, 1, 1], [17, 0, 3]), ([1, 0, 0, 0, 1, 0, 1, 1], [0, 3]), ([1, 1, 0, 0, 0, 1, 0, 1, 1], []), ([0, 0, 0, 1, 0, 0, 1, 0, 1, 1], [0, 3, 4]), ([0, 1, 0, 0, 1, 0, 0, 1, 0, 1, 1], [4, 3, 5, 0]), ([0, 1, 1, 0, 0, 1, 0, 0, 1, 0, 1, 1], [55, 3, 0]), ([1, 1, 1, 0, 0, 1, 0, 0, 1, 0, 1, 1], [3, 0]), ([0, 0, 1, 1, 1, 0, 0, 1, 0, 0, 1, 0, 1, 1], [2]), ([1, 0, 1, 1, 1, 0, 0, 1, 0, 0, 1, 0, 1, 1], [2]), ([0, 1, 0, 0, 1, 0, 1, 1], [3, 0]), ([1, 1, 0, 0, 1, 0, 1, 1], [3, 0]), ([1, 0, 1, 1], []), ([0, 1, 1, 1], [2]), ([1, 1, 1, 1], [2])]

def z1i (N : Nat) : Env := z4w tys z10 [] [] [] [] false [] []

theorem zjp (N : Nat) : EnvOk Go.Proofs.Try.prog (z1i N) := z1e mixed z2n (FnsOk.nil) (ItsOk.nil)

def z6d (N : Nat) (s : (List UInt8)) (k0 : Bool -> Option Bool) : Option Bool :=
 cond (decide ((((List.length s) : Nat) : Int) < (1 : Int)))
 (k0 true)
 (k0 (decide ((32 : Int) < (((List.length s) : Nat) : Int))))

def zbu (N : Nat) (x : z2b [(0, .v .str)]) (K : Ex -> List A -> Option Bool) : Option Bool :=
 z6d N x.1 (fun a1 => (K .normal (mkS [(0, .v .str), (12, .v .bool)] 42 (x.1, a1, ()))))

def zbn (N : Nat) : Hd Bool := fun st K => (unS [(0, .v .str)] 55 (restr [0] 0 st)).bind fun x => zbu N x K

def zle (N : Nat) : Tab Bool := []

theorem zjn {N : Nat} {c : Ctx} (hb : Base Go.Proofs.Try.prog (z1i N) c) : zu Go.Proofs.Try.prog c (zf zi [0, 0, 1]) (zbn N) :=
  zp (s := [(0, .v .str)]) (m := 55) (g := zbu N) [0] (z7 hb N (zle N) z1m zi TabOk.nil [0, 0, 1] _ rfl) (fun x K => by kernel_rfl)

def z6e (N : Nat) (s : (List UInt8)) (k0 : Bool -> Option Bool) (k1 : Option Bool) : Option Bool :=
 z6d N s
 (fun x13 => cond x13
 (k0 false)
 (k1))

def zbv (N : Nat) (x : z2b [(0, .v .str)]) (K : Ex -> List A -> Option Bool) : Option Bool :=
 z6e N x.1 (fun a0 => (K .ret (mkS [(2, .v .bool)] 53 (a0, ())))) (K .normal (mkS [(0, .v .str)] 55 (x.1, ())))

def zbo (N : Nat) : Hd Bool := fun st K => (unS [(0, .v .str)] 55 (restr [0] 0 st)).bind fun x => zbv N x K

def zlf (N : Nat) : Tab Bool := [([0, 0, 1], zbn N)]

theorem zjo {N : Nat} {c : Ctx} (hb : Base Go.Proofs.Try.prog (z1i N) c) : zu Go.Proofs.Try.prog c (zf zi [0, 1]) (zbo N) :=
  zp (s := [(0, .v .str)]) (m := 55) (g := zbv N) [0] (z7 hb N (zlf N) z1m zi (TabOk.cons (zjn hb) TabOk.nil) [0, 1] _ rfl) (fun x K => by kernel_rfl)

def z3w (N : Nat) (s : (List UInt8)) (i : Int) (k0 : Bool -> Option Bool) : Option Bool :=
 cond (Go.Lift.inR i (List.length s))
 (cond (decide ((97 : Int) <= (((UInt8.toNat (List.getD s (Int.toNat i) (0 : UInt8))) : Nat) : Int)))
 (cond (Go.Lift.inR i (List.length s))
 (k0 (decide ((((UInt8.toNat (List.getD s (Int.toNat i) (0 : UInt8))) : Nat) : Int) <= (122 : Int))))
 (none))
 (k0 false))
 (none)

def zbr (N : Nat) (x : z2b [(0, .v .str), (2, .v (.int .i64))]) (K : Ex -> List A -> Option Bool) : Option Bool :=
 z3w N x.1 x.2.1 (fun a2 => (K .normal (mkS [(0, .v .str), (2, .v (.int .i64)), (0, .v .bool)] 51 (x.1, x.2.1, a2, ()))))

def zbk (N : Nat) : Hd Bool := fun st K => (unS [(0, .v .str), (2, .v (.int .i64))] 52 (restr [0, 3] 0 st)).bind fun x => zbr N x K

def zlb (N : Nat) : Tab Bool := []

theorem zjk {N : Nat} {c : Ctx} (hb : Base Go.Proofs.Try.prog (z1i N) c) : zu Go.Proofs.Try.prog c (zf zi [0, 0, 0, 1, 0, 0, 1, 0, 1, 1]) (zbk N) :=
  zp (s := [(0, .v .str), (2, .v (.int .i64))]) (m := 52) (g := zbr N) [0, 3] (z7 hb N (zlb N) z1m zi TabOk.nil [0, 0, 0, 1, 0, 0, 1, 0, 1, 1] _ rfl) (fun x K => by kernel_rfl)

def z3v (N : Nat) (s : (List UInt8)) (i : Int) (small : Bool) (k0 : Bool -> Option Bool) : Option Bool :=
 cond (Go.Lift.inR i (List.length s))
 (cond ((((UInt8.toNat (List.getD s (Int.toNat i) (0 : UInt8))) : Nat) : Int) == (45 : Int))
 (k0 true)
 (cond (Go.Lift.inR i (List.length s))
 (cond (decide ((48 : Int) <= (((UInt8.toNat (List.getD s (Int.toNat i) (0 : UInt8))) : Nat) : Int)))
 (cond (Go.Lift.inR i (List.length s))
 (k0 (decide ((((UInt8.toNat (List.getD s (Int.toNat i) (0 : UInt8))) : Nat) : Int) <= (57 : Int))))
 (none))
 (k0 false))
 (none)))
 (none)

def zbq (N : Nat) (x : z2b [(0, .v .str), (2, .v (.int .i64)), (0, .v .bool)]) (K : Ex -> List A -> Option Bool) : Option Bool :=
 z3v N x.1 x.2.1 x.2.2.1 (fun a3 => (K .normal (mkS [(0, .v .str), (2, .v (.int .i64)), (0, .v .bool), (0, .v .bool)] 50 (x.1, x.2.1, x.2.2.1, a3, ()))))

def zbj (N : Nat) : Hd Bool := fun st K => (unS [(0, .v .str), (2, .v (.int .i64)), (0, .v .bool)] 51 (restr [0, 3, 4] 0 st)).bind fun x => zbq N x K

def zla (N : Nat) : Tab Bool := []

theorem zjj {N : Nat} {c : Ctx} (hb : Base Go.Proofs.Try.prog (z1i N) c) : zu Go.Proofs.Try.prog c (zf zi [0, 1, 0, 0, 1, 0, 0, 1, 0, 1, 1]) (zbj N) :=
  zp (s := [(0, .v .str), (2, .v (.int .i64)), (0, .v .bool)]) (m := 51) (g := zbq N) [0, 3, 4] (z7 hb N (zla N) z1m zi TabOk.nil [0, 1, 0, 0, 1, 0, 0, 1, 0, 1, 1] _ rfl) (fun x K => by kernel_rfl)

def z6b (N : Nat) (s : (List UInt8)) (i : Int) (small : Bool) (other : Bool) (k0 : Bool -> Option Bool) : Option Bool :=
 cond (!small)
 (cond (i == (0 : Int))
 (k0 true)
 (k0 (!other)))
 (k0 false)

def zbp (N : Nat) (x : z2b [(0, .v .str), (2, .v (.int .i64)), (0, .v .bool), (0, .v .bool)]) (K : Ex -> List A -> Option Bool) : Option Bool :=
 z6b N x.1 x.2.1 x.2.2.1 x.2.2.2.1 (fun a2 => (K .normal (mkS [(0, .v .str), (2, .v (.int .i64)), (51, .v .bool)] 0 (x.1, x.2.1, a2, ()))))

def zbi (N : Nat) : Hd Bool := fun st K => (unS [(0, .v .str), (2, .v (.int .i64)), (0, .v .bool), (0, .v .bool)] 50 (restr [4, 3, 5, 0] 0 st)).bind fun x => zbp N x K

def zl9 (N : Nat) : Tab Bool := []

theorem zji {N : Nat} {c : Ctx} (hb : Base Go.Proofs.Try.prog (z1i N) c) : zu Go.Proofs.Try.prog c (zf zi [0, 1, 1, 0, 0, 1, 0, 0, 1, 0, 1, 1]) (zbi N) :=
  zp (s := [(0, .v .str), (2, .v (.int .i64)), (0, .v .bool), (0, .v .bool)]) (m := 50) (g := zbp N) [4, 3, 5, 0] (z7 hb N (zl9 N) z1m zi TabOk.nil [0, 1, 1, 0, 0, 1, 0, 0, 1, 0, 1, 1] _ rfl) (fun x K => by kernel_rfl)

def z6c (N : Nat) (s : (List UInt8)) (i : Int) (k0 : Bool -> Option Bool) (k1 : Option Bool) : Option Bool :=
 z3w N s i
 (fun small => z3v N s i small
 (fun other => z6b N s i small other
 (fun x55 => cond x55
 (k0 false)
 (k1))))

def zbs (N : Nat) (x : z2b [(0, .v .str), (2, .v (.int .i64))]) (K : Ex -> List A -> Option Bool) : Option Bool :=
 z6c N x.1 x.2.1 (fun a0 => (K .ret (mkS [(2, .v .bool)] 53 (a0, ())))) (K .normal (mkS [(0, .v .str), (2, .v (.int .i64))] 52 (x.1, x.2.1, ())))

def zbl (N : Nat) : Hd Bool := fun st K => (unS [(0, .v .str), (2, .v (.int .i64))] 52 (restr [0, 3] 0 st)).bind fun x => zbs N x K

def zlc (N : Nat) : Tab Bool := [([0, 0, 0, 1, 0, 0, 1, 0, 1, 1], zbk N), ([0, 1, 0, 0, 1, 0, 0, 1, 0, 1, 1], zbj N), ([0, 1, 1, 0, 0, 1, 0, 0, 1, 0, 1, 1], zbi N)]

theorem zjl {N : Nat} {c : Ctx} (hb : Base Go.Proofs.Try.prog (z1i N) c) : zu Go.Proofs.Try.prog c (zf zi [0, 1, 0, 0, 1, 0, 1, 1]) (zbl N) :=
  zp (s := [(0, .v .str), (2, .v (.int .i64))]) (m := 52) (g := zbs N) [0, 3] (z7 hb N (zlc N) z1m zi (TabOk.cons (zjk hb) (TabOk.cons (zjj hb) (TabOk.cons (zji hb) TabOk.nil))) [0, 1, 0, 0, 1, 0, 1, 1] _ rfl) (fun x K => by kernel_rfl)

def z6a (N : Nat) (s : (List UInt8)) (i : Int) (rec : Int -> Option Bool) (k0 : Bool -> Option Bool) (k1 : Option Bool) : Option Bool :=
 cond (decide (i < (((List.length s) : Nat) : Int)))
 (z6c N s i
 (fun x2 => k0 x2)
 (rec (Go.IntKind.wrap Go.IntKind.i64 (i + (1 : Int)))))
 (k1)

def zbh (N : Nat) (s : (List UInt8)) (i : Int) (k0 : Bool -> Option Bool) (k1 : Option Bool) : Option Bool :=
 iter (fun (v : Int) r => z6a N s v (fun i => (r i)) k0 k1) N i

def zbt (N : Nat) (i : (List UInt8)) (v : Int) (r : Int -> Option Bool) (K : Ex -> List A -> Option Bool) : Option Bool :=
 z6a N i v (fun i => (r i)) (fun a0 => (K .ret (mkS [(2, .v .bool)] 53 (a0, ())))) (K (.exit 0) (mkS [] 56 ()))

def zbm (N : Nat) : Hd Bool := fun st K => (unS [(0, .v .str), (2, .v (.int .i64))] 52 (restr [3, 0] 0 st)).bind fun x => iter (fun v r => zbt N ((fun x => x.1) x) v r K) N ((fun x => x.2.1) x)

def zld (N : Nat) : Tab Bool := [([0, 1, 0, 0, 1, 0, 1, 1], zbl N)]

theorem zjm {N : Nat} {c : Ctx} (hb : Base Go.Proofs.Try.prog (z1i N) c) : zu Go.Proofs.Try.prog c (zf zi [0, 1, 0, 1, 1]) (zbm N) :=
  z4x (s := [(0, .v .str), (2, .v (.int .i64))]) (m := 52) (zbt N) [3, 0] N (fun x => x.1) (fun x => x.2.1) (fun i v => (i, v, ())) (fun _ => rfl) (z7 hb N (zld N) z1m zi (TabOk.cons (zjl hb) TabOk.nil) [0, 0, 1, 0, 1, 1] _ rfl) (fun i v r K => by kernel_rfl)

def z32 (N : Nat) (s : (List UInt8)) : Option Bool :=
 z6e N s
 (fun x2 => some x2)
 (zbh N s (0 : Int)
 (fun x21 => some x21)
 (some true))

def zcz (N : Nat) : Tab Bool := [([0, 1], zbo N), ([0, 1, 0, 1, 1], zbm N)]

theorem zhl (N : Nat) (x : z2b [(0, .v .str)]) : zej (z1i N) N (zcz N) z1m Go.Proofs.Try.f31 (mkS [(0, .v .str)] 0 x) (z5b (.v .bool) 1) = z32 N x.1 := by kernel_rfl

def z5p (N : Nat) : List A -> Res := z2r [(0, .v .str)] (fun x => z32 N x.1) (zfe (.v .bool) 1)

theorem zbw (N : Nat) : Contract Go.Proofs.Try.prog z10 31 (z5p N) :=
  Contract.of (E := z1i N) (H := zcz N) (L := z1m) (N := N) (body := zi) (K := (z5b (.v .bool) 1)) (zjp N) Go.Proofs.Try.func31 (by kernel_rfl) (by decide) (fun _ hb => (TabOk.cons (zjo hb) (TabOk.cons (zjm hb) TabOk.nil))) (fun x y h => by rw [zhl]; exact h) (z1q (s := (.v .bool)) (m := 1))

def z1h : Code := (Go.Proofs.Try.f32.body).getD .skip

def z2m : List (List Nat × List Nat) := [([0], [0, 1]), ([0, 0, 1], [5, 0, 1]), ([0, 1, 0, 1], [5, 0, 1]), ([0, 0, 0, 0, 1, 0, 1], [15, 0, 5, 1]), ([1, 0, 0, 0, 1, 0, 1], [0, 5, 1]), ([1, 1, 0, 0, 0, 1, 0, 1], [0, 1]), ([0, 0, 0, 0, 1, 0, 0, 1, 0, 1], [24, 0, 5, 1]), ([1, 0, 0, 0, 1, 0, 0, 1, 0, 1], [0, 5, 1]), ([0, 0, 1, 0, 0, 0, 1, 0, 0, 1, 0, 1], [4]), ([1, 0, 1, 0, 0, 0, 1, 0, 0, 1, 0, 1], [4]), ([0, 1, 0, 0, 1, 0, 0, 1, 0, 1], [31, 5, 0, 1]), ([1, 1, 0, 0, 1, 0, 0, 1, 0, 1], [5, 0, 1]), ([0, 0, 1, 1, 0, 0, 1, 0, 0, 1, 0, 1], [4]), ([1, 0, 1, 1, 0, 0, 1, 0, 0, 1, 0, 1], [4]), ([0, 1, 0, 0, 1, 0, 1], [5, 0, 1]), ([1, 1, 0, 0, 1, 0, 1], [5, 0, 1]), ([1, 0, 1], [0, 1]), ([0, 0, 1, 1], [36, 0, 1]), ([1, 0, 1, 1], [0, 1]), ([0, 0, 1, 0, 1, 1], [4]), ([1, 0, 1, 0, 1, 1], [4]), ([0, 0, 1, 1, 1], [41]), ([1, 0, 1, 1, 1], []), ([0, 0, 1, 0, 1, 1, 1], [4]), ([1, 0, 1, 0, 1, 1, 1], [4]), ([0, 1, 1, 1, 1], [4]), ([1, 1, 1, 1, 1], [4])]

def z1z (N : Nat) : Env := z4w tys z10 [] [] [] [] false [] []

theorem zf4 (N : Nat) : EnvOk Go.Proofs.Try.prog (z1z N) := z1e mixed z2n (FnsOk.nil) (ItsOk.nil)

def z4f (N : Nat) (a : (List UInt8)) (b : (List UInt8)) (i : Int) (k0 : Option Int) (k1 : Option Int) : Option Int :=
 cond (decide (i < (((List.length a) : Nat) : Int)))
 (cond (decide (i < (((List.length b) : Nat) : Int)))
 (k0)
 (k1))
 (k1)

def z83 (N : Nat) (x : z2b [(0, .v .str), (0, .v .str), (3, .v (.int .i64))]) (K : Ex -> List A -> Option Int) : Option Int :=
 z4f N x.1 x.2.1 x.2.2.1 (K .normal (mkS [(0, .v .str), (0, .v .str), (3, .v (.int .i64))] 36 (x.1, x.2.1, x.2.2.1, ()))) (K (.exit 0) (mkS [(0, .v .str), (0, .v .str)] 40 (x.1, x.2.1, ())))

def z80 (N : Nat) : Hd Int := fun st K => (unS [(0, .v .str), (0, .v .str), (3, .v (.int .i64))] 36 (restr [5, 0, 1] 0 st)).bind fun x => z83 N x K

def zgc (N : Nat) : Tab Int := []

theorem zf1 {N : Nat} {c : Ctx} (hb : Base Go.Proofs.Try.prog (z1z N) c) : zu Go.Proofs.Try.prog c (zf z1h [0, 0, 0, 1, 0, 1]) (z80 N) :=
  zp (s := [(0, .v .str), (0, .v .str), (3, .v (.int .i64))]) (m := 36) (g := z83 N) [5, 0, 1] (z7 hb N (zgc N) z2m z1h TabOk.nil [0, 0, 0, 1, 0, 1] _ rfl) (fun x K => by kernel_rfl)

def z4e (N : Nat) (a : (List UInt8)) (b : (List UInt8)) (i : Int) (rec : Int -> Option Int) (k0 : Int -> Option Int) (k1 : Option Int) : Option Int :=
 z4f N a b i
 (cond (Go.Lift.inR i (List.length a))
 (cond (Go.Lift.inR i (List.length b))
 (cond (decide ((((UInt8.toNat (List.getD a (Int.toNat i) (0 : UInt8))) : Nat) : Int) < (((UInt8.toNat (List.getD b (Int.toNat i) (0 : UInt8))) : Nat) : Int)))
 (k0 (-(1 : Int)))
 (cond (Go.Lift.inR i (List.length a))
 (cond (Go.Lift.inR i (List.length b))
 (cond (decide ((((UInt8.toNat (List.getD b (Int.toNat i) (0 : UInt8))) : Nat) : Int) < (((UInt8.toNat (List.getD a (Int.toNat i) (0 : UInt8))) : Nat) : Int)))
 (k0 (1 : Int))
 (rec (Go.IntKind.wrap Go.IntKind.i64 (i + (1 : Int)))))
 (none))
 (none)))
 (none))
 (none))
 (k1)

def z7z (N : Nat) (a : (List UInt8)) (b : (List UInt8)) (i : Int) (k0 : Int -> Option Int) (k1 : Option Int) : Option Int :=
 iter (fun (v : Int) r => z4e N a b v (fun i => (r i)) k0 k1) N i

def z84 (N : Nat) (i : ((List UInt8) × (List UInt8))) (v : Int) (r : Int -> Option Int) (K : Ex -> List A -> Option Int) : Option Int :=
 z4e N i.1 i.2 v (fun i => (r i)) (fun a0 => (K .ret (mkS [(4, .v (.int .i64))] 37 (a0, ())))) (K (.exit 0) (mkS [(0, .v .str), (0, .v .str)] 40 (i.1, i.2, ())))

def z81 (N : Nat) : Hd Int := fun st K => (unS [(0, .v .str), (0, .v .str), (3, .v (.int .i64))] 36 (restr [5, 0, 1] 0 st)).bind fun x => iter (fun v r => z84 N ((fun x => (x.1, x.2.1)) x) v r K) N ((fun x => x.2.2.1) x)

def zgd (N : Nat) : Tab Int := [([0, 0, 0, 1, 0, 1], z80 N)]

theorem zf2 {N : Nat} {c : Ctx} (hb : Base Go.Proofs.Try.prog (z1z N) c) : zu Go.Proofs.Try.prog c (zf z1h [0, 1, 0, 1]) (z81 N) :=
  z4x (s := [(0, .v .str), (0, .v .str), (3, .v (.int .i64))]) (m := 36) (z84 N) [5, 0, 1] N (fun x => (x.1, x.2.1)) (fun x => x.2.2.1) (fun i v => (i.1, i.2, v, ())) (fun _ => rfl) (z7 hb N (zgd N) z2m z1h (TabOk.cons (zf1 hb) TabOk.nil) [0, 0, 1, 0, 1] _ rfl) (fun i v r K => by kernel_rfl)

def z4g (N : Nat) (a : (List UInt8)) (b : (List UInt8)) (k0 : Int -> Option Int) (k1 : Option Int) : Option Int :=
 z7z N a b (0 : Int)
 (fun x4 => k0 x4)
 (k1)

def z85 (N : Nat) (x : z2b [(0, .v .str), (0, .v .str)]) (K : Ex -> List A -> Option Int) : Option Int :=
 z4g N x.1 x.2.1 (fun a0 => (K .ret (mkS [(4, .v (.int .i64))] 37 (a0, ())))) (K .normal (mkS [(0, .v .str), (0, .v .str)] 40 (x.1, x.2.1, ())))

def z82 (N : Nat) : Hd Int := fun st K => (unS [(0, .v .str), (0, .v .str)] 40 (restr [0, 1] 0 st)).bind fun x => z85 N x K

def zge (N : Nat) : Tab Int := [([0, 1, 0, 1], z81 N)]

theorem zf3 {N : Nat} {c : Ctx} (hb : Base Go.Proofs.Try.prog (z1z N) c) : zu Go.Proofs.Try.prog c (zf z1h [0, 1]) (z82 N) :=
  zp (s := [(0, .v .str), (0, .v .str)]) (m := 40) (g := z85 N) [0, 1] (z7 hb N (zge N) z2m z1h (TabOk.cons (zf2 hb) TabOk.nil) [0, 1] _ rfl) (fun x K => by kernel_rfl)

def z2g (N : Nat) (a : (List UInt8)) (b : (List UInt8)) : Option Int :=
 z4g N a b
 (fun x4 => some x4)
 (cond (decide ((((List.length a) : Nat) : Int) < (((List.length b) : Nat) : Int)))
 (some (-(1 : Int)))
 (cond (decide ((((List.length b) : Nat) : Int) < (((List.length a) : Nat) : Int)))
 (some (1 : Int))
 (some (0 : Int))))

def z8t (N : Nat) : Tab Int := [([0, 1], z82 N)]

theorem zdz (N : Nat) (x : z2b [(0, .v .str), (0, .v .str)]) : zej (z1z N) N (z8t N) z2m Go.Proofs.Try.f32 (mkS [(0, .v .str), (0, .v .str)] 0 x) (z5b (.v (.int .i64)) 2) = z2g N x.1 x.2.1 := by kernel_rfl

def z3x (N : Nat) : List A -> Res := z2r [(0, .v .str), (0, .v .str)] (fun x => z2g N x.1 x.2.1) (zfe (.v (.int .i64)) 2)

theorem z86 (N : Nat) : Contract Go.Proofs.Try.prog z10 32 (z3x N) :=
  Contract.of (E := z1z N) (H := z8t N) (L := z2m) (N := N) (body := z1h) (K := (z5b (.v (.int .i64)) 2)) (zf4 N) Go.Proofs.Try.func32 (by kernel_rfl) (by decide) (fun _ hb => (TabOk.cons (zf3 hb) TabOk.nil)) (fun x y h => by rw [zdz]; exact h) (z1q (s := (.v (.int .i64))) (m := 2))

def z8 : Code := (Go.Proofs.Try.f11.body).getD .skip

def z15 : List (List Nat × List Nat) := [([0], [1]), ([0, 0, 1], [15, 1]), ([1, 0, 1], [1]), ([0, 0, 1, 0, 1], [2]), ([1, 0, 1, 0, 1], [2]), ([0, 0, 1, 1], [3, 1]), ([0, 1, 0, 1, 1], [3, 1]), ([0, 0, 0, 0, 1, 0, 1, 1], [20, 1, 3]), ([1, 0, 0, 0, 1, 0, 1, 1], [1, 3]), ([1, 1, 0, 0, 0, 1, 0, 1, 1], []), ([0, 0, 0, 1, 0, 0, 1, 0, 1, 1], [4, 3, 1]), ([0, 0, 1, 0, 0, 1, 0, 0, 1, 0, 1, 1], [66, 4, 3, 1]), ([1, 0, 1, 0, 0, 1, 0, 0, 1, 0, 1, 1], [4, 3, 1]), ([0, 0, 1, 0, 1, 0, 0, 1, 0, 0, 1, 0, 1, 1], [2]), ([1, 0, 1, 0, 1, 0, 0, 1, 0, 0, 1, 0, 1, 1], [2]), ([0, 1, 1, 0, 0, 1, 0, 0, 1, 0, 1, 1], [5, 4, 3, 1]), ([0, 1, 1, 1, 0, 0, 1, 0, 0, 1, 0, 1, 1], [5, 4, 3, 1]), ([0, 0, 0, 0, 1, 1, 1, 0, 0, 1, 0, 0, 1, 0, 1, 1], [71, 4, 5, 3, 1]), ([1, 0, 0, 0, 1, 1, 1, 0, 0, 1, 0, 0, 1, 0, 1, 1], [4, 5, 3, 1]), ([1, 1, 0, 0, 0, 1, 1, 1, 0, 0, 1, 0, 0, 1, 0, 1, 1], [3, 1]), ([0, 0, 0, 1, 0, 0, 1, 1, 1, 0, 0, 1, 0, 0, 1, 0, 1, 1], [121, 5, 4, 3, 1]), ([1, 0, 0, 1, 0, 0, 1, 1, 1, 0, 0, 1, 0, 0, 1, 0, 1, 1], [5, 4, 3, 1]), ([0, 0, 1, 0, 0, 1, 0, 0, 1, 1, 1, 0, 0, 1, 0, 0, 1, 0, 1, 1], [2]), ([1, 0, 1, 0, 0, 1, 0, 0, 1, 1, 1, 0, 0, 1, 0, 0, 1, 0, 1, 1], [2]), ([0, 1, 0, 0, 1, 1, 1, 0, 0, 1, 0, 0, 1, 0, 1, 1], [5, 4, 3, 1]), ([1, 1, 0, 0, 1, 1, 1, 0, 0, 1, 0, 0, 1, 0, 1, 1], [5, 4, 3, 1]), ([1, 1, 1, 0, 0, 1, 0, 0, 1, 0, 1, 1], [3, 1]), ([0, 1, 0, 0, 1, 0, 1, 1], [3, 1]), ([1, 1, 0, 0, 1, 0, 1, 1], [3, 1]), ([1, 0, 1, 1], []), ([0, 1, 1, 1], [2]), ([1, 1, 1, 1], [2])]

def z12 (N : Nat) : Env := z4w tys z10 [(32, z3x N), (31, z5p N), (30, z75 N)] [] [] [] false [] []

theorem zh9 (N : Nat) : EnvOk Go.Proofs.Try.prog (z12 N) := z1e mixed z2n (FnsOk.cons (z86 N) (FnsOk.cons (zbw N) (FnsOk.cons (zdv N) (FnsOk.nil)))) (ItsOk.nil)

def z5l (N : Nat) (s : ((List ((List UInt8) × (Int × (Int × ((List (Int × ((List UInt8) × Unit))) × Unit))))) × (Int × Unit))) (k0 : Bool -> Option Bool) : Option Bool :=
 cond (decide ((16 : Int) < (((List.length s.1) : Nat) : Int)))
 (k0 true)
 ((z22 N s.2.1 (0 : Int)).bind fun y =>
 k0 (!y))

def z9s (N : Nat) (x : z2b [(1, .box (.pair (.sl (.pair .str (.pair (.int .i64) (.pair (.int .i64) (.pair (.sl (.pair (.int .i64) (.pair .str .unit))) .unit))))) (.pair (.int .i64) .unit)))]) (K : Ex -> List A -> Option Bool) : Option Bool :=
 z5l N x.1 (fun a1 => (K .normal (mkS [(1, .box (.pair (.sl (.pair .str (.pair (.int .i64) (.pair (.int .i64) (.pair (.sl (.pair (.int .i64) (.pair .str .unit))) .unit))))) (.pair (.int .i64) .unit))), (13, .v .bool)] 106 (x.1, a1, ()))))

def z9j (N : Nat) : Hd Bool := fun st K => (unS [(1, .box (.pair (.sl (.pair .str (.pair (.int .i64) (.pair (.int .i64) (.pair (.sl (.pair (.int .i64) (.pair .str .unit))) .unit))))) (.pair (.int .i64) .unit)))] 120 (restr [1] 0 st)).bind fun x => z9s N x K

def zj2 (N : Nat) : Tab Bool := []

theorem zh7 {N : Nat} {c : Ctx} (hb : Base Go.Proofs.Try.prog (z12 N) c) : zu Go.Proofs.Try.prog c (zf z8 [0, 0, 1]) (z9j N) :=
  zp (s := [(1, .box (.pair (.sl (.pair .str (.pair (.int .i64) (.pair (.int .i64) (.pair (.sl (.pair (.int .i64) (.pair .str .unit))) .unit))))) (.pair (.int .i64) .unit)))]) (m := 120) (g := z9s N) [1] (z7 hb N (zj2 N) z15 z8 TabOk.nil [0, 0, 1] _ rfl) (fun x K => by kernel_rfl)

def z5m (N : Nat) (s : ((List ((List UInt8) × (Int × (Int × ((List (Int × ((List UInt8) × Unit))) × Unit))))) × (Int × Unit))) (k0 : Bool -> Option Bool) (k1 : Option Bool) : Option Bool :=
 z5l N s
 (fun x15 => cond x15
 (k0 false)
 (k1))

def z9t (N : Nat) (x : z2b [(1, .box (.pair (.sl (.pair .str (.pair (.int .i64) (.pair (.int .i64) (.pair (.sl (.pair (.int .i64) (.pair .str .unit))) .unit))))) (.pair (.int .i64) .unit)))]) (K : Ex -> List A -> Option Bool) : Option Bool :=
 z5m N x.1 (fun a0 => (K .ret (mkS [(2, .v .bool)] 119 (a0, ())))) (K .normal (mkS [(1, .box (.pair (.sl (.pair .str (.pair (.int .i64) (.pair (.int .i64) (.pair (.sl (.pair (.int .i64) (.pair .str .unit))) .unit))))) (.pair (.int .i64) .unit)))] 120 (x.1, ())))

def z9k (N : Nat) : Hd Bool := fun st K => (unS [(1, .box (.pair (.sl (.pair .str (.pair (.int .i64) (.pair (.int .i64) (.pair (.sl (.pair (.int .i64) (.pair .str .unit))) .unit))))) (.pair (.int .i64) .unit)))] 120 (restr [1] 0 st)).bind fun x => z9t N x K

def zj3 (N : Nat) : Tab Bool := [([0, 0, 1], z9j N)]

theorem zh8 {N : Nat} {c : Ctx} (hb : Base Go.Proofs.Try.prog (z12 N) c) : zu Go.Proofs.Try.prog c (zf z8 [0, 1]) (z9k N) :=
  zp (s := [(1, .box (.pair (.sl (.pair .str (.pair (.int .i64) (.pair (.int .i64) (.pair (.sl (.pair (.int .i64) (.pair .str .unit))) .unit))))) (.pair (.int .i64) .unit)))]) (m := 120) (g := z9t N) [1] (z7 hb N (zj3 N) z15 z8 (TabOk.cons (zh7 hb) TabOk.nil) [0, 1] _ rfl) (fun x K => by kernel_rfl)

def z39 (N : Nat) (s : ((List ((List UInt8) × (Int × (Int × ((List (Int × ((List UInt8) × Unit))) × Unit))))) × (Int × Unit))) (i : Int) (t : ((List UInt8) × (Int × (Int × ((List (Int × ((List UInt8) × Unit))) × Unit))))) (k0 : Bool -> Option Bool) : Option Bool :=
 (z32 N t.1).bind fun y =>
 cond (!y)
 (k0 true)
 ((z22 N t.2.1 (0 : Int)).bind fun y1 =>
 cond (!y1)
 (k0 true)
 ((z22 N t.2.2.1 (1 : Int)).bind fun y2 =>
 cond (!y2)
 (k0 true)
 (cond (decide ((8 : Int) < (((List.length t.2.2.2.1) : Nat) : Int)))
 (k0 true)
 (cond (decide ((0 : Int) < i))
 (cond (Go.Lift.inR (Go.IntKind.wrap Go.IntKind.i64 (i - (1 : Int))) (List.length s.1))
 ((z2g N (List.getD s.1 (Int.toNat (Go.IntKind.wrap Go.IntKind.i64 (i - (1 : Int)))) (([] : List UInt8), ((0 : Int), ((0 : Int), (([] : List (Int × ((List UInt8) × Unit))), ()))))).1 t.1).bind fun y3 =>
 k0 (decide ((0 : Int) <= y3)))
 (none))
 (k0 false)))))

def z9o (N : Nat) (x : z2b [(1, .box (.pair (.sl (.pair .str (.pair (.int .i64) (.pair (.int .i64) (.pair (.sl (.pair (.int .i64) (.pair .str .unit))) .unit))))) (.pair (.int .i64) .unit))), (1, .v (.int .i64)), (0, .box (.pair .str (.pair (.int .i64) (.pair (.int .i64) (.pair (.sl (.pair (.int .i64) (.pair .str .unit))) .unit)))))]) (K : Ex -> List A -> Option Bool) : Option Bool :=
 z39 N x.1 x.2.1 x.2.2.1 (fun a3 => (K .normal (mkS [(1, .box (.pair (.sl (.pair .str (.pair (.int .i64) (.pair (.int .i64) (.pair (.sl (.pair (.int .i64) (.pair .str .unit))) .unit))))) (.pair (.int .i64) .unit))), (1, .v (.int .i64)), (0, .box (.pair .str (.pair (.int .i64) (.pair (.int .i64) (.pair (.sl (.pair (.int .i64) (.pair .str .unit))) .unit))))), (61, .v .bool)] 55 (x.1, x.2.1, x.2.2.1, a3, ()))))

def z9f (N : Nat) : Hd Bool := fun st K => (unS [(1, .box (.pair (.sl (.pair .str (.pair (.int .i64) (.pair (.int .i64) (.pair (.sl (.pair (.int .i64) (.pair .str .unit))) .unit))))) (.pair (.int .i64) .unit))), (1, .v (.int .i64)), (0, .box (.pair .str (.pair (.int .i64) (.pair (.int .i64) (.pair (.sl (.pair (.int .i64) (.pair .str .unit))) .unit)))))] 117 (restr [4, 3, 1] 0 st)).bind fun x => z9o N x K

def ziy (N : Nat) : Tab Bool := []

theorem zh3 {N : Nat} {c : Ctx} (hb : Base Go.Proofs.Try.prog (z12 N) c) : zu Go.Proofs.Try.prog c (zf z8 [0, 0, 1, 0, 0, 1, 0, 0, 1, 0, 1, 1]) (z9f N) :=
  zp (s := [(1, .box (.pair (.sl (.pair .str (.pair (.int .i64) (.pair (.int .i64) (.pair (.sl (.pair (.int .i64) (.pair .str .unit))) .unit))))) (.pair (.int .i64) .unit))), (1, .v (.int .i64)), (0, .box (.pair .str (.pair (.int .i64) (.pair (.int .i64) (.pair (.sl (.pair (.int .i64) (.pair .str .unit))) .unit)))))]) (m := 117) (g := z9o N) [4, 3, 1] (z7 hb N (ziy N) z15 z8 TabOk.nil [0, 0, 1, 0, 0, 1, 0, 0, 1, 0, 1, 1] _ rfl) (fun x K => by kernel_rfl)

def z5i (N : Nat) (s : ((List ((List UInt8) × (Int × (Int × ((List (Int × ((List UInt8) × Unit))) × Unit))))) × (Int × Unit))) (i : Int) (t : ((List UInt8) × (Int × (Int × ((List (Int × ((List UInt8) × Unit))) × Unit))))) (k0 : Bool -> Option Bool) (k1 : Option Bool) : Option Bool :=
 z39 N s i t
 (fun x66 => cond x66
 (k0 false)
 (k1))

def z9p (N : Nat) (x : z2b [(1, .box (.pair (.sl (.pair .str (.pair (.int .i64) (.pair (.int .i64) (.pair (.sl (.pair (.int .i64) (.pair .str .unit))) .unit))))) (.pair (.int .i64) .unit))), (1, .v (.int .i64)), (0, .box (.pair .str (.pair (.int .i64) (.pair (.int .i64) (.pair (.sl (.pair (.int .i64) (.pair .str .unit))) .unit)))))]) (K : Ex -> List A -> Option Bool) : Option Bool :=
 z5i N x.1 x.2.1 x.2.2.1 (fun a0 => (K .ret (mkS [(2, .v .bool)] 119 (a0, ())))) (K .normal (mkS [(1, .box (.pair (.sl (.pair .str (.pair (.int .i64) (.pair (.int .i64) (.pair (.sl (.pair (.int .i64) (.pair .str .unit))) .unit))))) (.pair (.int .i64) .unit))), (1, .v (.int .i64)), (0, .box (.pair .str (.pair (.int .i64) (.pair (.int .i64) (.pair (.sl (.pair (.int .i64) (.pair .str .unit))) .unit)))))] 117 (x.1, x.2.1, x.2.2.1, ())))

def z9g (N : Nat) : Hd Bool := fun st K => (unS [(1, .box (.pair (.sl (.pair .str (.pair (.int .i64) (.pair (.int .i64) (.pair (.sl (.pair (.int .i64) (.pair .str .unit))) .unit))))) (.pair (.int .i64) .unit))), (1, .v (.int .i64)), (0, .box (.pair .str (.pair (.int .i64) (.pair (.int .i64) (.pair (.sl (.pair (.int .i64) (.pair .str .unit))) .unit)))))] 117 (restr [4, 3, 1] 0 st)).bind fun x => z9p N x K

def ziz (N : Nat) : Tab Bool := [([0, 0, 1, 0, 0, 1, 0, 0, 1, 0, 1, 1], z9f N)]

theorem zh4 {N : Nat} {c : Ctx} (hb : Base Go.Proofs.Try.prog (z12 N) c) : zu Go.Proofs.Try.prog c (zf z8 [0, 1, 0, 0, 1, 0, 0, 1, 0, 1, 1]) (z9g N) :=
  zp (s := [(1, .box (.pair (.sl (.pair .str (.pair (.int .i64) (.pair (.int .i64) (.pair (.sl (.pair (.int .i64) (.pair .str .unit))) .unit))))) (.pair (.int .i64) .unit))), (1, .v (.int .i64)), (0, .box (.pair .str (.pair (.int .i64) (.pair (.int .i64) (.pair (.sl (.pair (.int .i64) (.pair .str .unit))) .unit)))))]) (m := 117) (g := z9p N) [4, 3, 1] (z7 hb N (ziz N) z15 z8 (TabOk.cons (zh3 hb) TabOk.nil) [0, 1, 0, 0, 1, 0, 0, 1, 0, 1, 1] _ rfl) (fun x K => by kernel_rfl)

def z5f (N : Nat) (s : ((List ((List UInt8) × (Int × (Int × ((List (Int × ((List UInt8) × Unit))) × Unit))))) × (Int × Unit))) (i : Int) (t : ((List UInt8) × (Int × (Int × ((List (Int × ((List UInt8) × Unit))) × Unit))))) (k : Int) (k0 : Bool -> Option Bool) : Option Bool :=
 cond (Go.Lift.inR k (List.length t.2.2.2.1))
 (cond (decide ((List.getD t.2.2.2.1 (Int.toNat k) ((0 : Int), (([] : List UInt8), ()))).1 < (1 : Int)))
 (k0 true)
 (cond (Go.Lift.inR k (List.length t.2.2.2.1))
 (cond (decide (t.2.2.1 <= (List.getD t.2.2.2.1 (Int.toNat k) ((0 : Int), (([] : List UInt8), ()))).1))
 (k0 true)
 (cond (Go.Lift.inR k (List.length t.2.2.2.1))
 (cond ((((List.length (List.getD t.2.2.2.1 (Int.toNat k) ((0 : Int), (([] : List UInt8), ()))).2.1) : Nat) : Int) != (32 : Int))
 (k0 true)
 (cond (decide ((0 : Int) < k))
 (cond (Go.Lift.inR (Go.IntKind.wrap Go.IntKind.i64 (k - (1 : Int))) (List.length t.2.2.2.1))
 (cond (Go.Lift.inR k (List.length t.2.2.2.1))
 (k0 (decide ((List.getD t.2.2.2.1 (Int.toNat k) ((0 : Int), (([] : List UInt8), ()))).1 <= (List.getD t.2.2.2.1 (Int.toNat (Go.IntKind.wrap Go.IntKind.i64 (k - (1 : Int)))) ((0 : Int), (([] : List UInt8), ()))).1)))
 (none))
 (none))
 (k0 false)))
 (none)))
 (none)))
 (none)

def z9l (N : Nat) (x : z2b [(1, .box (.pair (.sl (.pair .str (.pair (.int .i64) (.pair (.int .i64) (.pair (.sl (.pair (.int .i64) (.pair .str .unit))) .unit))))) (.pair (.int .i64) .unit))), (1, .v (.int .i64)), (0, .box (.pair .str (.pair (.int .i64) (.pair (.int .i64) (.pair (.sl (.pair (.int .i64) (.pair .str .unit))) .unit))))), (0, .v (.int .i64))]) (K : Ex -> List A -> Option Bool) : Option Bool :=
 z5f N x.1 x.2.1 x.2.2.1 x.2.2.2.1 (fun a4 => (K .normal (mkS [(1, .box (.pair (.sl (.pair .str (.pair (.int .i64) (.pair (.int .i64) (.pair (.sl (.pair (.int .i64) (.pair .str .unit))) .unit))))) (.pair (.int .i64) .unit))), (1, .v (.int .i64)), (0, .box (.pair .str (.pair (.int .i64) (.pair (.int .i64) (.pair (.sl (.pair (.int .i64) (.pair .str .unit))) .unit))))), (0, .v (.int .i64)), (115, .v .bool)] 0 (x.1, x.2.1, x.2.2.1, x.2.2.2.1, a4, ()))))

def z9c (N : Nat) : Hd Bool := fun st K => (unS [(1, .box (.pair (.sl (.pair .str (.pair (.int .i64) (.pair (.int .i64) (.pair (.sl (.pair (.int .i64) (.pair .str .unit))) .unit))))) (.pair (.int .i64) .unit))), (1, .v (.int .i64)), (0, .box (.pair .str (.pair (.int .i64) (.pair (.int .i64) (.pair (.sl (.pair (.int .i64) (.pair .str .unit))) .unit))))), (0, .v (.int .i64))] 116 (restr [4, 5, 3, 1] 0 st)).bind fun x => z9l N x K

def ziv (N : Nat) : Tab Bool := []

theorem zh0 {N : Nat} {c : Ctx} (hb : Base Go.Proofs.Try.prog (z12 N) c) : zu Go.Proofs.Try.prog c (zf z8 [0, 0, 0, 1, 0, 0, 1, 1, 1, 0, 0, 1, 0, 0, 1, 0, 1, 1]) (z9c N) :=
  zp (s := [(1, .box (.pair (.sl (.pair .str (.pair (.int .i64) (.pair (.int .i64) (.pair (.sl (.pair (.int .i64) (.pair .str .unit))) .unit))))) (.pair (.int .i64) .unit))), (1, .v (.int .i64)), (0, .box (.pair .str (.pair (.int .i64) (.pair (.int .i64) (.pair (.sl (.pair (.int .i64) (.pair .str .unit))) .unit))))), (0, .v (.int .i64))]) (m := 116) (g := z9l N) [4, 5, 3, 1] (z7 hb N (ziv N) z15 z8 TabOk.nil [0, 0, 0, 1, 0, 0, 1, 1, 1, 0, 0, 1, 0, 0, 1, 0, 1, 1] _ rfl) (fun x K => by kernel_rfl)

def z5g (N : Nat) (s : ((List ((List UInt8) × (Int × (Int × ((List (Int × ((List UInt8) × Unit))) × Unit))))) × (Int × Unit))) (i : Int) (t : ((List UInt8) × (Int × (Int × ((List (Int × ((List UInt8) × Unit))) × Unit))))) (k : Int) (k0 : Bool -> Option Bool) (k1 : Option Bool) : Option Bool :=
 z5f N s i t k
 (fun x121 => cond x121
 (k0 false)
 (k1))

def z9m (N : Nat) (x : z2b [(1, .box (.pair (.sl (.pair .str (.pair (.int .i64) (.pair (.int .i64) (.pair (.sl (.pair (.int .i64) (.pair .str .unit))) .unit))))) (.pair (.int .i64) .unit))), (1, .v (.int .i64)), (0, .box (.pair .str (.pair (.int .i64) (.pair (.int .i64) (.pair (.sl (.pair (.int .i64) (.pair .str .unit))) .unit))))), (0, .v (.int .i64))]) (K : Ex -> List A -> Option Bool) : Option Bool :=
 z5g N x.1 x.2.1 x.2.2.1 x.2.2.2.1 (fun a0 => (K .ret (mkS [(2, .v .bool)] 119 (a0, ())))) (K .normal (mkS [(1, .box (.pair (.sl (.pair .str (.pair (.int .i64) (.pair (.int .i64) (.pair (.sl (.pair (.int .i64) (.pair .str .unit))) .unit))))) (.pair (.int .i64) .unit))), (1, .v (.int .i64)), (0, .box (.pair .str (.pair (.int .i64) (.pair (.int .i64) (.pair (.sl (.pair (.int .i64) (.pair .str .unit))) .unit))))), (0, .v (.int .i64))] 116 (x.1, x.2.1, x.2.2.1, x.2.2.2.1, ())))

def z9d (N : Nat) : Hd Bool := fun st K => (unS [(1, .box (.pair (.sl (.pair .str (.pair (.int .i64) (.pair (.int .i64) (.pair (.sl (.pair (.int .i64) (.pair .str .unit))) .unit))))) (.pair (.int .i64) .unit))), (1, .v (.int .i64)), (0, .box (.pair .str (.pair (.int .i64) (.pair (.int .i64) (.pair (.sl (.pair (.int .i64) (.pair .str .unit))) .unit))))), (0, .v (.int .i64))] 116 (restr [4, 5, 3, 1] 0 st)).bind fun x => z9m N x K

def ziw (N : Nat) : Tab Bool := [([0, 0, 0, 1, 0, 0, 1, 1, 1, 0, 0, 1, 0, 0, 1, 0, 1, 1], z9c N)]

theorem zh1 {N : Nat} {c : Ctx} (hb : Base Go.Proofs.Try.prog (z12 N) c) : zu Go.Proofs.Try.prog c (zf z8 [0, 1, 0, 0, 1, 1, 1, 0, 0, 1, 0, 0, 1, 0, 1, 1]) (z9d N) :=
  zp (s := [(1, .box (.pair (.sl (.pair .str (.pair (.int .i64) (.pair (.int .i64) (.pair (.sl (.pair (.int .i64) (.pair .str .unit))) .unit))))) (.pair (.int .i64) .unit))), (1, .v (.int .i64)), (0, .box (.pair .str (.pair (.int .i64) (.pair (.int .i64) (.pair (.sl (.pair (.int .i64) (.pair .str .unit))) .unit))))), (0, .v (.int .i64))]) (m := 116) (g := z9m N) [4, 5, 3, 1] (z7 hb N (ziw N) z15 z8 (TabOk.cons (zh0 hb) TabOk.nil) [0, 1, 0, 0, 1, 1, 1, 0, 0, 1, 0, 0, 1, 0, 1, 1] _ rfl) (fun x K => by kernel_rfl)

def z5d (N : Nat) (s : ((List ((List UInt8) × (Int × (Int × ((List (Int × ((List UInt8) × Unit))) × Unit))))) × (Int × Unit))) (i : Int) (t : ((List UInt8) × (Int × (Int × ((List (Int × ((List UInt8) × Unit))) × Unit))))) (k : Int) (rec : Int -> Option Bool) (k0 : Bool -> Option Bool) (k1 : Option Bool) : Option Bool :=
 cond (decide (k < (((List.length t.2.2.2.1) : Nat) : Int)))
 (z5g N s i t k
 (fun x2 => k0 x2)
 (rec (Go.IntKind.wrap Go.IntKind.i64 (k + (1 : Int)))))
 (k1)

def z5h (N : Nat) (s : ((List ((List UInt8) × (Int × (Int × ((List (Int × ((List UInt8) × Unit))) × Unit))))) × (Int × Unit))) (i : Int) (t : ((List UInt8) × (Int × (Int × ((List (Int × ((List UInt8) × Unit))) × Unit))))) (k : Int) (k0 : Bool -> Option Bool) (k1 : Option Bool) : Option Bool :=
 iter (fun (v : Int) r => z5d N s i t v (fun k => (r k)) k0 k1) N k

def z9n (N : Nat) (i : (((List ((List UInt8) × (Int × (Int × ((List (Int × ((List UInt8) × Unit))) × Unit))))) × (Int × Unit)) × Int × ((List UInt8) × (Int × (Int × ((List (Int × ((List UInt8) × Unit))) × Unit)))))) (v : Int) (r : Int -> Option Bool) (K : Ex -> List A -> Option Bool) : Option Bool :=
 z5d N i.1 i.2.1 i.2.2 v (fun k => (r k)) (fun a0 => (K .ret (mkS [(2, .v .bool)] 119 (a0, ())))) (K (.exit 2) (mkS [(1, .box (.pair (.sl (.pair .str (.pair (.int .i64) (.pair (.int .i64) (.pair (.sl (.pair (.int .i64) (.pair .str .unit))) .unit))))) (.pair (.int .i64) .unit))), (1, .v (.int .i64))] 118 (i.1, i.2.1, ())))

def z9e (N : Nat) : Hd Bool := fun st K => (unS [(1, .box (.pair (.sl (.pair .str (.pair (.int .i64) (.pair (.int .i64) (.pair (.sl (.pair (.int .i64) (.pair .str .unit))) .unit))))) (.pair (.int .i64) .unit))), (1, .v (.int .i64)), (0, .box (.pair .str (.pair (.int .i64) (.pair (.int .i64) (.pair (.sl (.pair (.int .i64) (.pair .str .unit))) .unit))))), (0, .v (.int .i64))] 116 (restr [5, 4, 3, 1] 0 st)).bind fun x => iter (fun v r => z9n N ((fun x => (x.1, x.2.1, x.2.2.1)) x) v r K) N ((fun x => x.2.2.2.1) x)

def zix (N : Nat) : Tab Bool := [([0, 1, 0, 0, 1, 1, 1, 0, 0, 1, 0, 0, 1, 0, 1, 1], z9d N)]

theorem zh2 {N : Nat} {c : Ctx} (hb : Base Go.Proofs.Try.prog (z12 N) c) : zu Go.Proofs.Try.prog c (zf z8 [0, 1, 1, 1, 0, 0, 1, 0, 0, 1, 0, 1, 1]) (z9e N) :=
  z4x (s := [(1, .box (.pair (.sl (.pair .str (.pair (.int .i64) (.pair (.int .i64) (.pair (.sl (.pair (.int .i64) (.pair .str .unit))) .unit))))) (.pair (.int .i64) .unit))), (1, .v (.int .i64)), (0, .box (.pair .str (.pair (.int .i64) (.pair (.int .i64) (.pair (.sl (.pair (.int .i64) (.pair .str .unit))) .unit))))), (0, .v (.int .i64))]) (m := 116) (z9n N) [5, 4, 3, 1] N (fun x => (x.1, x.2.1, x.2.2.1)) (fun x => x.2.2.2.1) (fun i v => (i.1, i.2.1, i.2.2, v, ())) (fun _ => rfl) (z7 hb N (zix N) z15 z8 (TabOk.cons (zh1 hb) TabOk.nil) [0, 0, 1, 1, 1, 0, 0, 1, 0, 0, 1, 0, 1, 1] _ rfl) (fun i v r K => by kernel_rfl)

def z5j (N : Nat) (s : ((List ((List UInt8) × (Int × (Int × ((List (Int × ((List UInt8) × Unit))) × Unit))))) × (Int × Unit))) (i : Int) (k0 : Bool -> Option Bool) (k1 : Option Bool) : Option Bool :=
 cond (Go.Lift.inR i (List.length s.1))
 (z5i N s i (List.getD s.1 (Int.toNat i) (([] : List UInt8), ((0 : Int), ((0 : Int), (([] : List (Int × ((List UInt8) × Unit))), ())))))
 (fun x2 => k0 x2)
 (z5h N s i (List.getD s.1 (Int.toNat i) (([] : List UInt8), ((0 : Int), ((0 : Int), (([] : List (Int × ((List UInt8) × Unit))), ()))))) (0 : Int)
 (fun x21 => k0 x21)
 (k1)))
 (none)

def z9q (N : Nat) (x : z2b [(1, .box (.pair (.sl (.pair .str (.pair (.int .i64) (.pair (.int .i64) (.pair (.sl (.pair (.int .i64) (.pair .str .unit))) .unit))))) (.pair (.int .i64) .unit))), (1, .v (.int .i64))]) (K : Ex -> List A -> Option Bool) : Option Bool :=
 z5j N x.1 x.2.1 (fun a0 => (K .ret (mkS [(2, .v .bool)] 119 (a0, ())))) (K .normal (mkS [(1, .box (.pair (.sl (.pair .str (.pair (.int .i64) (.pair (.int .i64) (.pair (.sl (.pair (.int .i64) (.pair .str .unit))) .unit))))) (.pair (.int .i64) .unit))), (1, .v (.int .i64))] 118 (x.1, x.2.1, ())))

def z9h (N : Nat) : Hd Bool := fun st K => (unS [(1, .box (.pair (.sl (.pair .str (.pair (.int .i64) (.pair (.int .i64) (.pair (.sl (.pair (.int .i64) (.pair .str .unit))) .unit))))) (.pair (.int .i64) .unit))), (1, .v (.int .i64))] 118 (restr [1, 3] 0 st)).bind fun x => z9q N x K

def zj0 (N : Nat) : Tab Bool := [([0, 1, 0, 0, 1, 0, 0, 1, 0, 1, 1], z9g N), ([0, 1, 1, 1, 0, 0, 1, 0, 0, 1, 0, 1, 1], z9e N)]

theorem zh5 {N : Nat} {c : Ctx} (hb : Base Go.Proofs.Try.prog (z12 N) c) : zu Go.Proofs.Try.prog c (zf z8 [0, 1, 0, 0, 1, 0, 1, 1]) (z9h N) :=
  zp (s := [(1, .box (.pair (.sl (.pair .str (.pair (.int .i64) (.pair (.int .i64) (.pair (.sl (.pair (.int .i64) (.pair .str .unit))) .unit))))) (.pair (.int .i64) .unit))), (1, .v (.int .i64))]) (m := 118) (g := z9q N) [1, 3] (z7 hb N (zj0 N) z15 z8 (TabOk.cons (zh4 hb) (TabOk.cons (zh2 hb) TabOk.nil)) [0, 1, 0, 0, 1, 0, 1, 1] _ rfl) (fun x K => by kernel_rfl)

def z5e (N : Nat) (s : ((List ((List UInt8) × (Int × (Int × ((List (Int × ((List UInt8) × Unit))) × Unit))))) × (Int × Unit))) (i : Int) (rec : Int -> Option Bool) (k0 : Bool -> Option Bool) (k1 : Option Bool) : Option Bool :=
 cond (decide (i < (((List.length s.1) : Nat) : Int)))
 (z5j N s i
 (fun x2 => k0 x2)
 (rec (Go.IntKind.wrap Go.IntKind.i64 (i + (1 : Int)))))
 (k1)

def z5k (N : Nat) (s : ((List ((List UInt8) × (Int × (Int × ((List (Int × ((List UInt8) × Unit))) × Unit))))) × (Int × Unit))) (i : Int) (k0 : Bool -> Option Bool) (k1 : Option Bool) : Option Bool :=
 iter (fun (v : Int) r => z5e N s v (fun i => (r i)) k0 k1) N i

def z9r (N : Nat) (i : ((List ((List UInt8) × (Int × (Int × ((List (Int × ((List UInt8) × Unit))) × Unit))))) × (Int × Unit))) (v : Int) (r : Int -> Option Bool) (K : Ex -> List A -> Option Bool) : Option Bool :=
 z5e N i v (fun i => (r i)) (fun a0 => (K .ret (mkS [(2, .v .bool)] 119 (a0, ())))) (K (.exit 0) (mkS [] 122 ()))

def z9i (N : Nat) : Hd Bool := fun st K => (unS [(1, .box (.pair (.sl (.pair .str (.pair (.int .i64) (.pair (.int .i64) (.pair (.sl (.pair (.int .i64) (.pair .str .unit))) .unit))))) (.pair (.int .i64) .unit))), (1, .v (.int .i64))] 118 (restr [3, 1] 0 st)).bind fun x => iter (fun v r => z9r N ((fun x => x.1) x) v r K) N ((fun x => x.2.1) x)

def zj1 (N : Nat) : Tab Bool := [([0, 1, 0, 0, 1, 0, 1, 1], z9h N)]

theorem zh6 {N : Nat} {c : Ctx} (hb : Base Go.Proofs.Try.prog (z12 N) c) : zu Go.Proofs.Try.prog c (zf z8 [0, 1, 0, 1, 1]) (z9i N) :=
  z4x (s := [(1, .box (.pair (.sl (.pair .str (.pair (.int .i64) (.pair (.int .i64) (.pair (.sl (.pair (.int .i64) (.pair .str .unit))) .unit))))) (.pair (.int .i64) .unit))), (1, .v (.int .i64))]) (m := 118) (z9r N) [3, 1] N (fun x => x.1) (fun x => x.2.1) (fun i v => (i, v, ())) (fun _ => rfl) (z7 hb N (zj1 N) z15 z8 (TabOk.cons (zh5 hb) TabOk.nil) [0, 0, 1, 0, 1, 1] _ rfl) (fun i v r K => by kernel_rfl)

def z2x (N : Nat) (s : ((List ((List UInt8) × (Int × (Int × ((List (Int × ((List UInt8) × Unit))) × Unit))))) × (Int × Unit))) : Option Bool :=
 z5m N s
 (fun x2 => some x2)
 (z5k N s (0 : Int)
 (fun x21 => some x21)
 (some true))

def zb6 (N : Nat) : Tab Bool := [([0, 1], z9k N), ([0, 1, 0, 1, 1], z9i N)]

theorem zg7 (N : Nat) (x : z2b [(0, .v (.pair (.sl (.pair .str (.pair (.int .i64) (.pair (.int .i64) (.pair (.sl (.pair (.int .i64) (.pair .str .unit))) .unit))))) (.pair (.int .i64) .unit)))]) : zej (z12 N) N (zb6 N) z15 Go.Proofs.Try.f11 (mkS [(0, .v (.pair (.sl (.pair .str (.pair (.int .i64) (.pair (.int .i64) (.pair (.sl (.pair (.int .i64) (.pair .str .unit))) .unit))))) (.pair (.int .i64) .unit)))] 0 x) (z5b (.v .bool) 1) = z2x N x.1 := by kernel_rfl

def z4p (N : Nat) : List A -> Res := z2r [(0, .v (.pair (.sl (.pair .str (.pair (.int .i64) (.pair (.int .i64) (.pair (.sl (.pair (.int .i64) (.pair .str .unit))) .unit))))) (.pair (.int .i64) .unit)))] (fun x => z2x N x.1) (zfe (.v .bool) 1)

theorem z9u (N : Nat) : Contract Go.Proofs.Try.prog z10 11 (z4p N) :=
  Contract.of (E := z12 N) (H := zb6 N) (L := z15) (N := N) (body := z8) (K := (z5b (.v .bool) 1)) (zh9 N) Go.Proofs.Try.func11 (by kernel_rfl) (by decide) (fun _ hb => (TabOk.cons (zh8 hb) (TabOk.cons (zh6 hb) TabOk.nil))) (fun x y h => by rw [zg7]; exact h) (z1q (s := (.v .bool)) (m := 1))

def z2l : Code := (Go.Proofs.Try.f13.body).getD .skip

def z4k : List (List Nat × List Nat) := [([0], [1]), ([0, 0, 1], [41, 1]), ([1, 0, 1], [1]), ([0, 0, 1, 0, 1], [2]), ([1, 0, 1, 0, 1], [2]), ([0, 0, 1, 1], [44, 1]), ([1, 0, 1, 1], [1]), ([0, 0, 1, 0, 1, 1], [2]), ([1, 0, 1, 0, 1, 1], [2]), ([0, 1, 1, 1], [2]), ([1, 1, 1, 1], [2])]

def z34 (N : Nat) : Env := z4w tys z10 [(31, z5p N), (30, z75 N)] [] [] [] false [] []

theorem zj8 (N : Nat) : EnvOk Go.Proofs.Try.prog (z34 N) := z1e mixed z2n (FnsOk.cons (zbw N) (FnsOk.cons (zdv N) (FnsOk.nil))) (ItsOk.nil)

def z67 (N : Nat) (e : (Int × ((List UInt8) × (Int × (Int × ((List UInt8) × Unit)))))) (k0 : Bool -> Option Bool) : Option Bool :=
 cond (decide (e.1 < (1 : Int)))
 (k0 true)
 (cond (decide ((4 : Int) < e.1))
 (k0 true)
 (cond (e.1 != (1 : Int))
 (cond (e.2.2.2.1 != (0 : Int))
 (k0 true)
 (cond (e.1 != (2 : Int))
 (cond (!(e.2.2.2.2.1 == ([] : List UInt8)))
 (k0 true)
 (cond (e.1 == (2 : Int))
 (k0 ((((List.length e.2.2.2.2.1) : Nat) : Int) != (32 : Int)))
 (k0 false)))
 (cond (e.1 == (2 : Int))
 (k0 ((((List.length e.2.2.2.2.1) : Nat) : Int) != (32 : Int)))
 (k0 false))))
 (cond (e.1 != (2 : Int))
 (cond (!(e.2.2.2.2.1 == ([] : List UInt8)))
 (k0 true)
 (cond (e.1 == (2 : Int))
 (k0 ((((List.length e.2.2.2.2.1) : Nat) : Int) != (32 : Int)))
 (k0 false)))
 (cond (e.1 == (2 : Int))
 (k0 ((((List.length e.2.2.2.2.1) : Nat) : Int) != (32 : Int)))
 (k0 false)))))

def zba (N : Nat) (x : z2b [(1, .box (.pair (.int .i64) (.pair .str (.pair (.int .i64) (.pair (.int .i64) (.pair .str .unit))))))]) (K : Ex -> List A -> Option Bool) : Option Bool :=
 z67 N x.1 (fun a1 => (K .normal (mkS [(1, .box (.pair (.int .i64) (.pair .str (.pair (.int .i64) (.pair (.int .i64) (.pair .str .unit)))))), (39, .v .bool)] 24 (x.1, a1, ()))))

def zb8 (N : Nat) : Hd Bool := fun st K => (unS [(1, .box (.pair (.int .i64) (.pair .str (.pair (.int .i64) (.pair (.int .i64) (.pair .str .unit))))))] 64 (restr [1] 0 st)).bind fun x => zba N x K

def zl3 (N : Nat) : Tab Bool := []

theorem zj6 {N : Nat} {c : Ctx} (hb : Base Go.Proofs.Try.prog (z34 N) c) : zu Go.Proofs.Try.prog c (zf z2l [0, 0, 1]) (zb8 N) :=
  zp (s := [(1, .box (.pair (.int .i64) (.pair .str (.pair (.int .i64) (.pair (.int .i64) (.pair .str .unit))))))]) (m := 64) (g := zba N) [1] (z7 hb N (zl3 N) z4k z2l TabOk.nil [0, 0, 1] _ rfl) (fun x K => by kernel_rfl)

def z68 (N : Nat) (e : (Int × ((List UInt8) × (Int × (Int × ((List UInt8) × Unit)))))) (k0 : Bool -> Option Bool) (k1 : Option Bool) : Option Bool :=
 z67 N e
 (fun x41 => cond x41
 (k0 false)
 (k1))

def zbb (N : Nat) (x : z2b [(1, .box (.pair (.int .i64) (.pair .str (.pair (.int .i64) (.pair (.int .i64) (.pair .str .unit))))))]) (K : Ex -> List A -> Option Bool) : Option Bool :=
 z68 N x.1 (fun a0 => (K .ret (mkS [(2, .v .bool)] 63 (a0, ())))) (K .normal (mkS [(1, .box (.pair (.int .i64) (.pair .str (.pair (.int .i64) (.pair (.int .i64) (.pair .str .unit))))))] 64 (x.1, ())))

def zb9 (N : Nat) : Hd Bool := fun st K => (unS [(1, .box (.pair (.int .i64) (.pair .str (.pair (.int .i64) (.pair (.int .i64) (.pair .str .unit))))))] 64 (restr [1] 0 st)).bind fun x => zbb N x K

def zl4 (N : Nat) : Tab Bool := [([0, 0, 1], zb8 N)]

theorem zj7 {N : Nat} {c : Ctx} (hb : Base Go.Proofs.Try.prog (z34 N) c) : zu Go.Proofs.Try.prog c (zf z2l [0, 1]) (zb9 N) :=
  zp (s := [(1, .box (.pair (.int .i64) (.pair .str (.pair (.int .i64) (.pair (.int .i64) (.pair .str .unit))))))]) (m := 64) (g := zbb N) [1] (z7 hb N (zl4 N) z4k z2l (TabOk.cons (zj6 hb) TabOk.nil) [0, 1] _ rfl) (fun x K => by kernel_rfl)

def z49 (N : Nat) (e : (Int × ((List UInt8) × (Int × (Int × ((List UInt8) × Unit)))))) : Option Bool :=
 z68 N e
 (fun x2 => some x2)
 (cond (e.1 == (4 : Int))
 (cond (e.2.1 == ([] : List UInt8))
 ((z22 N e.2.2.1 (0 : Int)).bind fun y =>
 some y)
 (some false))
 ((z32 N e.2.1).bind fun y1 =>
 cond y1
 ((z22 N e.2.2.1 (1 : Int)).bind fun y2 =>
 cond y2
 ((z22 N e.2.2.2.1 (0 : Int)).bind fun y3 =>
 some y3)
 (some false))
 (some false)))

def zcu (N : Nat) : Tab Bool := [([0, 1], zb9 N)]

theorem zhd (N : Nat) (x : z2b [(0, .v (.pair (.int .i64) (.pair .str (.pair (.int .i64) (.pair (.int .i64) (.pair .str .unit))))))]) : zej (z34 N) N (zcu N) z4k Go.Proofs.Try.f13 (mkS [(0, .v (.pair (.int .i64) (.pair .str (.pair (.int .i64) (.pair (.int .i64) (.pair .str .unit))))))] 0 x) (z5b (.v .bool) 1) = z49 N x.1 := by kernel_rfl

def z9w (N : Nat) : List A -> Res := z2r [(0, .v (.pair (.int .i64) (.pair .str (.pair (.int .i64) (.pair (.int .i64) (.pair .str .unit))))))] (fun x => z49 N x.1) (zfe (.v .bool) 1)

theorem zl5 (N : Nat) : Contract Go.Proofs.Try.prog z10 13 (z9w N) :=
  Contract.of (E := z34 N) (H := zcu N) (L := z4k) (N := N) (body := z2l) (K := (z5b (.v .bool) 1)) (zj8 N) Go.Proofs.Try.func13 (by kernel_rfl) (by decide) (fun _ hb => (TabOk.cons (zj7 hb) TabOk.nil)) (fun x y h => by rw [zhd]; exact h) (z1q (s := (.v .bool)) (m := 1))

def z4t : Code := (Go.Proofs.Try.f22.body).getD .skip

def z76 : List (List Nat × List Nat) := [([0], [2, 1]), ([0, 0, 1], [5, 2, 1]), ([0, 1, 0, 1], [5, 2, 1]), ([0, 0, 0, 0, 1, 0, 1], [10, 2, 5, 1]), ([1, 0, 0, 0, 1, 0, 1], [2, 5, 1]), ([1, 1, 0, 0, 0, 1, 0, 1], []), ([0, 0, 0, 1, 0, 0, 1, 0, 1], [20, 5, 2, 1]), ([1, 0, 0, 1, 0, 0, 1, 0, 1], [5, 2, 1]), ([0, 0, 1, 0, 0, 1, 0, 0, 1, 0, 1], [4]), ([1, 0, 1, 0, 0, 1, 0, 0, 1, 0, 1], [4]), ([0, 1, 0, 0, 1, 0, 1], [5, 2, 1]), ([1, 1, 0, 0, 1, 0, 1], [5, 2, 1]), ([1, 0, 1], []), ([0, 1, 1], [4]), ([1, 1, 1], [4])]

def z4l (N : Nat) : Env := z4w tys z10 [] [] [] [] false [] []

theorem zja (N : Nat) : EnvOk Go.Proofs.Try.prog (z4l N) := z1e mixed z2n (FnsOk.nil) (ItsOk.nil)

def z69 (N : Nat) (tenant : (List UInt8)) (s : ((List ((List UInt8) × (Int × (Int × ((List (Int × ((List UInt8) × Unit))) × Unit))))) × (Int × Unit))) (i : Int) (rec : Int -> Option Int) (k0 : Int -> Option Int) (k1 : Option Int) : Option Int :=
 cond (decide (i < (((List.length s.1) : Nat) : Int)))
 (cond (Go.Lift.inR i (List.length s.1))
 (cond ((List.getD s.1 (Int.toNat i) (([] : List UInt8), ((0 : Int), ((0 : Int), (([] : List (Int × ((List UInt8) × Unit))), ()))))).1 == tenant)
 (k0 i)
 (rec (Go.IntKind.wrap Go.IntKind.i64 (i + (1 : Int)))))
 (none))
 (k1)

def zbc (N : Nat) (tenant : (List UInt8)) (s : ((List ((List UInt8) × (Int × (Int × ((List (Int × ((List UInt8) × Unit))) × Unit))))) × (Int × Unit))) (i : Int) (k0 : Int -> Option Int) (k1 : Option Int) : Option Int :=
 iter (fun (v : Int) r => z69 N tenant s v (fun i => (r i)) k0 k1) N i

def zbe (N : Nat) (i : ((List UInt8) × ((List ((List UInt8) × (Int × (Int × ((List (Int × ((List UInt8) × Unit))) × Unit))))) × (Int × Unit)))) (v : Int) (r : Int -> Option Int) (K : Ex -> List A -> Option Int) : Option Int :=
 z69 N i.1 i.2 v (fun i => (r i)) (fun a0 => (K .ret (mkS [(4, .v (.int .i64))] 17 (a0, ())))) (K (.exit 0) (mkS [] 22 ()))

def zbd (N : Nat) : Hd Int := fun st K => (unS [(1, .v .str), (0, .box (.pair (.sl (.pair .str (.pair (.int .i64) (.pair (.int .i64) (.pair (.sl (.pair (.int .i64) (.pair .str .unit))) .unit))))) (.pair (.int .i64) .unit))), (2, .v (.int .i64))] 16 (restr [5, 2, 1] 0 st)).bind fun x => iter (fun v r => zbe N ((fun x => (x.1, x.2.1)) x) v r K) N ((fun x => x.2.2.1) x)

def zl6 (N : Nat) : Tab Int := []

theorem zj9 {N : Nat} {c : Ctx} (hb : Base Go.Proofs.Try.prog (z4l N) c) : zu Go.Proofs.Try.prog c (zf z4t [0, 1, 0, 1]) (zbd N) :=
  z4x (s := [(1, .v .str), (0, .box (.pair (.sl (.pair .str (.pair (.int .i64) (.pair (.int .i64) (.pair (.sl (.pair (.int .i64) (.pair .str .unit))) .unit))))) (.pair (.int .i64) .unit))), (2, .v (.int .i64))]) (m := 16) (zbe N) [5, 2, 1] N (fun x => (x.1, x.2.1)) (fun x => x.2.2.1) (fun i v => (i.1, i.2, v, ())) (fun _ => rfl) (z7 hb N (zl6 N) z76 z4t TabOk.nil [0, 0, 1, 0, 1] _ rfl) (fun i v r K => by kernel_rfl)

def z2d (N : Nat) (s : ((List ((List UInt8) × (Int × (Int × ((List (Int × ((List UInt8) × Unit))) × Unit))))) × (Int × Unit))) (tenant : (List UInt8)) : Option Int :=
 zbc N tenant s (0 : Int)
 (fun x4 => some x4)
 (some (-(1 : Int)))

def zcv (N : Nat) : Tab Int := [([0, 1, 0, 1], zbd N)]

theorem zhe (N : Nat) (x : z2b [(0, .v (.pair (.sl (.pair .str (.pair (.int .i64) (.pair (.int .i64) (.pair (.sl (.pair (.int .i64) (.pair .str .unit))) .unit))))) (.pair (.int .i64) .unit))), (0, .v .str)]) : zej (z4l N) N (zcv N) z76 Go.Proofs.Try.f22 (mkS [(0, .v (.pair (.sl (.pair .str (.pair (.int .i64) (.pair (.int .i64) (.pair (.sl (.pair (.int .i64) (.pair .str .unit))) .unit))))) (.pair (.int .i64) .unit))), (0, .v .str)] 0 x) (z5b (.v (.int .i64)) 2) = z2d N x.1 x.2.1 := by kernel_rfl

def z2t (N : Nat) : List A -> Res := z2r [(0, .v (.pair (.sl (.pair .str (.pair (.int .i64) (.pair (.int .i64) (.pair (.sl (.pair (.int .i64) (.pair .str .unit))) .unit))))) (.pair (.int .i64) .unit))), (0, .v .str)] (fun x => z2d N x.1 x.2.1) (zfe (.v (.int .i64)) 2)

theorem z3u (N : Nat) : Contract Go.Proofs.Try.prog z10 22 (z2t N) :=
  Contract.of (E := z4l N) (H := zcv N) (L := z76) (N := N) (body := z4t) (K := (z5b (.v (.int .i64)) 2)) (zja N) Go.Proofs.Try.func22 (by kernel_rfl) (by decide) (fun _ hb => (TabOk.cons (zj9 hb) TabOk.nil)) (fun x y h => by rw [zhe]; exact h) (z1q (s := (.v (.int .i64))) (m := 2))

def z1f : Code := (Go.Proofs.Try.f25.body).getD .skip

def z2w : List (List Nat × List Nat) := [([0], [2, 3, 4]), ([0, 1], [2, 3, 5, 4]), ([0, 1, 1], [2, 3, 6, 5, 4]), ([0, 0, 1, 1, 1], [7, 2, 3, 6, 5, 4]), ([0, 1, 0, 1, 1, 1], [7, 2, 3, 6, 5, 4]), ([0, 0, 0, 0, 1, 0, 1, 1, 1], [16, 2, 7, 3, 6, 5, 4]), ([1, 0, 0, 0, 1, 0, 1, 1, 1], [2, 7, 3, 6, 5, 4]), ([1, 1, 0, 0, 0, 1, 0, 1, 1, 1], [6, 5, 3, 4]), ([0, 0, 0, 1, 0, 0, 1, 0, 1, 1, 1], [6, 8, 5, 3, 2, 7, 4]), ([0, 0, 1, 0, 0, 1, 0, 0, 1, 0, 1, 1, 1], [33, 5, 3, 8, 2, 7, 4, 6]), ([1, 0, 1, 0, 0, 1, 0, 0, 1, 0, 1, 1, 1], [8, 5, 2, 7, 3, 6, 4]), ([0, 0, 1, 0, 1, 0, 0, 1, 0, 0, 1, 0, 1, 1, 1], [8, 5, 2, 7, 3, 4]), ([1, 0, 1, 0, 1, 0, 0, 1, 0, 0, 1, 0, 1, 1, 1], [8, 5, 2, 7, 3, 6, 4]), ([0, 1, 1, 0, 0, 1, 0, 0, 1, 0, 1, 1, 1], [41, 5, 2, 7, 3, 6, 4]), ([1, 1, 1, 0, 0, 1, 0, 0, 1, 0, 1, 1, 1], [7, 2, 3, 6, 5, 4]), ([0, 1, 1, 1, 0, 0, 1, 0, 0, 1, 0, 1, 1, 1], [7, 2, 3, 6, 5, 4]), ([0, 1, 0, 0, 1, 0, 1, 1, 1], [7, 2, 3, 6, 5, 4]), ([1, 1, 0, 0, 1, 0, 1, 1, 1], [7, 2, 3, 6, 5, 4]), ([1, 0, 1, 1, 1], [6, 5, 3, 4]), ([0, 0, 1, 1, 1, 1], [53, 5, 3, 4]), ([1, 0, 1, 1, 1, 1], [5, 4]), ([0, 1, 0, 1, 1, 1, 1], [5, 4]), ([0, 1, 1, 1, 1, 1], [4]), ([1, 1, 1, 1, 1, 1], [4])]

def z2f (N : Nat) : Env := z4w tys z10 [(32, z3x N)] [] [] [] false [(11, (.pair (.own (.pair .str (.pair (.int .i64) (.pair (.int .i64) (.pair (.sl (.pair (.int .i64) (.pair .str .unit))) .unit))))) (.pair (.int .i64) .unit))), (5, (.pair (.own (.pair .str (.pair (.int .i64) (.pair (.int .i64) (.pair (.sl (.pair (.int .i64) (.pair .str .unit))) .unit))))) (.pair (.int .i64) .unit)))] []

theorem zkx (N : Nat) : EnvOk Go.Proofs.Try.prog (z2f N) := z1e mixed z2n (FnsOk.cons (z86 N) (FnsOk.nil)) (ItsOk.nil)

def z71 (N : Nat) (s : ((List ((List UInt8) × (Int × (Int × ((List (Int × ((List UInt8) × Unit))) × Unit))))) × (Int × Unit))) (t : ((List UInt8) × (Int × (Int × ((List (Int × ((List UInt8) × Unit))) × Unit))))) (x4 : ((List ((List UInt8) × (Int × (Int × ((List (Int × ((List UInt8) × Unit))) × Unit))))) × (Int × Unit))) (out : ((List ((List UInt8) × (Int × (Int × ((List (Int × ((List UInt8) × Unit))) × Unit))))) × (Int × Unit))) (done : Bool) (i : Int) (c : Int) (k0 : Bool -> Option ((List ((List UInt8) × (Int × (Int × ((List (Int × ((List UInt8) × Unit))) × Unit))))) × (Int × Unit))) : Option ((List ((List UInt8) × (Int × (Int × ((List (Int × ((List UInt8) × Unit))) × Unit))))) × (Int × Unit)) :=
 cond (!done)
 (k0 (decide ((0 : Int) <= c)))
 (k0 false)

def zcm (N : Nat) (x : z2b [(2, .box (.pair (.sl (.pair .str (.pair (.int .i64) (.pair (.int .i64) (.pair (.sl (.pair (.int .i64) (.pair .str .unit))) .unit))))) (.pair (.int .i64) .unit))), (0, .box (.pair .str (.pair (.int .i64) (.pair (.int .i64) (.pair (.sl (.pair (.int .i64) (.pair .str .unit))) .unit))))), (0, .box (.pair (.sl (.pair .str (.pair (.int .i64) (.pair (.int .i64) (.pair (.sl (.pair (.int .i64) (.pair .str .unit))) .unit))))) (.pair (.int .i64) .unit))), (0, .box (.pair (.own (.pair .str (.pair (.int .i64) (.pair (.int .i64) (.pair (.sl (.pair (.int .i64) (.pair .str .unit))) .unit))))) (.pair (.int .i64) .unit))), (0, .v .bool), (0, .v (.int .i64)), (0, .v (.int .i64))]) (K : Ex -> List A -> Option ((List ((List UInt8) × (Int × (Int × ((List (Int × ((List UInt8) × Unit))) × Unit))))) × (Int × Unit))) : Option ((List ((List UInt8) × (Int × (Int × ((List (Int × ((List UInt8) × Unit))) × Unit))))) × (Int × Unit)) :=
 z71 N x.1 x.2.1 x.2.2.1 x.2.2.2.1 x.2.2.2.2.1 x.2.2.2.2.2.1 x.2.2.2.2.2.2.1 (fun a7 => (K .normal (mkS [(2, .box (.pair (.sl (.pair .str (.pair (.int .i64) (.pair (.int .i64) (.pair (.sl (.pair (.int .i64) (.pair .str .unit))) .unit))))) (.pair (.int .i64) .unit))), (0, .box (.pair .str (.pair (.int .i64) (.pair (.int .i64) (.pair (.sl (.pair (.int .i64) (.pair .str .unit))) .unit))))), (0, .box (.pair (.sl (.pair .str (.pair (.int .i64) (.pair (.int .i64) (.pair (.sl (.pair (.int .i64) (.pair .str .unit))) .unit))))) (.pair (.int .i64) .unit))), (0, .box (.pair (.own (.pair .str (.pair (.int .i64) (.pair (.int .i64) (.pair (.sl (.pair (.int .i64) (.pair .str .unit))) .unit))))) (.pair (.int .i64) .unit))), (0, .v .bool), (0, .v (.int .i64)), (0, .v (.int .i64)), (24, .v .bool)] 27 (x.1, x.2.1, x.2.2.1, x.2.2.2.1, x.2.2.2.2.1, x.2.2.2.2.2.1, x.2.2.2.2.2.2.1, a7, ()))))

def zci (N : Nat) : Hd ((List ((List UInt8) × (Int × (Int × ((List (Int × ((List UInt8) × Unit))) × Unit))))) × (Int × Unit)) := fun st K => (unS [(2, .box (.pair (.sl (.pair .str (.pair (.int .i64) (.pair (.int .i64) (.pair (.sl (.pair (.int .i64) (.pair .str .unit))) .unit))))) (.pair (.int .i64) .unit))), (0, .box (.pair .str (.pair (.int .i64) (.pair (.int .i64) (.pair (.sl (.pair (.int .i64) (.pair .str .unit))) .unit))))), (0, .box (.pair (.sl (.pair .str (.pair (.int .i64) (.pair (.int .i64) (.pair (.sl (.pair (.int .i64) (.pair .str .unit))) .unit))))) (.pair (.int .i64) .unit))), (0, .box (.pair (.own (.pair .str (.pair (.int .i64) (.pair (.int .i64) (.pair (.sl (.pair (.int .i64) (.pair .str .unit))) .unit))))) (.pair (.int .i64) .unit))), (0, .v .bool), (0, .v (.int .i64)), (0, .v (.int .i64))] 52 (restr [6, 8, 5, 3, 2, 7, 4] 0 st)).bind fun x => zcm N x K

def zmf (N : Nat) : Tab ((List ((List UInt8) × (Int × (Int × ((List (Int × ((List UInt8) × Unit))) × Unit))))) × (Int × Unit)) := []

theorem zkt {N : Nat} {c : Ctx} (hb : Base Go.Proofs.Try.prog (z2f N) c) : zu Go.Proofs.Try.prog c (zf z1f [0, 0, 1, 0, 0, 1, 0, 0, 1, 0, 1, 1, 1]) (zci N) :=
  zp (s := [(2, .box (.pair (.sl (.pair .str (.pair (.int .i64) (.pair (.int .i64) (.pair (.sl (.pair (.int .i64) (.pair .str .unit))) .unit))))) (.pair (.int .i64) .unit))), (0, .box (.pair .str (.pair (.int .i64) (.pair (.int .i64) (.pair (.sl (.pair (.int .i64) (.pair .str .unit))) .unit))))), (0, .box (.pair (.sl (.pair .str (.pair (.int .i64) (.pair (.int .i64) (.pair (.sl (.pair (.int .i64) (.pair .str .unit))) .unit))))) (.pair (.int .i64) .unit))), (0, .box (.pair (.own (.pair .str (.pair (.int .i64) (.pair (.int .i64) (.pair (.sl (.pair (.int .i64) (.pair .str .unit))) .unit))))) (.pair (.int .i64) .unit))), (0, .v .bool), (0, .v (.int .i64)), (0, .v (.int .i64))]) (m := 52) (g := zcm N) [6, 8, 5, 3, 2, 7, 4] (z7 hb N (zmf N) z2w z1f TabOk.nil [0, 0, 1, 0, 0, 1, 0, 0, 1, 0, 1, 1, 1] _ rfl) (fun x K => by kernel_rfl)

def z72 (N : Nat) (s : ((List ((List UInt8) × (Int × (Int × ((List (Int × ((List UInt8) × Unit))) × Unit))))) × (Int × Unit))) (t : ((List UInt8) × (Int × (Int × ((List (Int × ((List UInt8) × Unit))) × Unit))))) (x4 : ((List ((List UInt8) × (Int × (Int × ((List (Int × ((List UInt8) × Unit))) × Unit))))) × (Int × Unit))) (out : ((List ((List UInt8) × (Int × (Int × ((List (Int × ((List UInt8) × Unit))) × Unit))))) × (Int × Unit))) (done : Bool) (i : Int) (c : Int) (k0 : ((List ((List UInt8) × (Int × (Int × ((List (Int × ((List UInt8) × Unit))) × Unit))))) × (Int × Unit)) -> Bool -> Option ((List ((List UInt8) × (Int × (Int × ((List (Int × ((List UInt8) × Unit))) × Unit))))) × (Int × Unit))) : Option ((List ((List UInt8) × (Int × (Int × ((List (Int × ((List UInt8) × Unit))) × Unit))))) × (Int × Unit)) :=
 z71 N s t x4 out done i c
 (fun x33 => cond x33
 (cond (decide ((((List.length out.1) + 1) * 56) <= 70368744177664))
 (k0 ((out.1 ++ ([t] : List ((List UInt8) × (Int × (Int × ((List (Int × ((List UInt8) × Unit))) × Unit)))))), out.2) true)
 (none))
 (k0 out done))

def zcn (N : Nat) (x : z2b [(2, .box (.pair (.sl (.pair .str (.pair (.int .i64) (.pair (.int .i64) (.pair (.sl (.pair (.int .i64) (.pair .str .unit))) .unit))))) (.pair (.int .i64) .unit))), (0, .box (.pair .str (.pair (.int .i64) (.pair (.int .i64) (.pair (.sl (.pair (.int .i64) (.pair .str .unit))) .unit))))), (0, .box (.pair (.sl (.pair .str (.pair (.int .i64) (.pair (.int .i64) (.pair (.sl (.pair (.int .i64) (.pair .str .unit))) .unit))))) (.pair (.int .i64) .unit))), (0, .box (.pair (.own (.pair .str (.pair (.int .i64) (.pair (.int .i64) (.pair (.sl (.pair (.int .i64) (.pair .str .unit))) .unit))))) (.pair (.int .i64) .unit))), (0, .v .bool), (0, .v (.int .i64)), (0, .v (.int .i64))]) (K : Ex -> List A -> Option ((List ((List UInt8) × (Int × (Int × ((List (Int × ((List UInt8) × Unit))) × Unit))))) × (Int × Unit))) : Option ((List ((List UInt8) × (Int × (Int × ((List (Int × ((List UInt8) × Unit))) × Unit))))) × (Int × Unit)) :=
 z72 N x.1 x.2.1 x.2.2.1 x.2.2.2.1 x.2.2.2.2.1 x.2.2.2.2.2.1 x.2.2.2.2.2.2.1 (fun a3 a4 => (K .normal (mkS [(2, .box (.pair (.sl (.pair .str (.pair (.int .i64) (.pair (.int .i64) (.pair (.sl (.pair (.int .i64) (.pair .str .unit))) .unit))))) (.pair (.int .i64) .unit))), (0, .box (.pair .str (.pair (.int .i64) (.pair (.int .i64) (.pair (.sl (.pair (.int .i64) (.pair .str .unit))) .unit))))), (0, .box (.pair (.sl (.pair .str (.pair (.int .i64) (.pair (.int .i64) (.pair (.sl (.pair (.int .i64) (.pair .str .unit))) .unit))))) (.pair (.int .i64) .unit))), (0, .box (.pair (.own (.pair .str (.pair (.int .i64) (.pair (.int .i64) (.pair (.sl (.pair (.int .i64) (.pair .str .unit))) .unit))))) (.pair (.int .i64) .unit))), (0, .v .bool), (0, .v (.int .i64)), (0, .v (.int .i64))] 52 (x.1, x.2.1, x.2.2.1, a3, a4, x.2.2.2.2.2.1, x.2.2.2.2.2.2.1, ()))))

def zcj (N : Nat) : Hd ((List ((List UInt8) × (Int × (Int × ((List (Int × ((List UInt8) × Unit))) × Unit))))) × (Int × Unit)) := fun st K => (unS [(2, .box (.pair (.sl (.pair .str (.pair (.int .i64) (.pair (.int .i64) (.pair (.sl (.pair (.int .i64) (.pair .str .unit))) .unit))))) (.pair (.int .i64) .unit))), (0, .box (.pair .str (.pair (.int .i64) (.pair (.int .i64) (.pair (.sl (.pair (.int .i64) (.pair .str .unit))) .unit))))), (0, .box (.pair (.sl (.pair .str (.pair (.int .i64) (.pair (.int .i64) (.pair (.sl (.pair (.int .i64) (.pair .str .unit))) .unit))))) (.pair (.int .i64) .unit))), (0, .box (.pair (.own (.pair .str (.pair (.int .i64) (.pair (.int .i64) (.pair (.sl (.pair (.int .i64) (.pair .str .unit))) .unit))))) (.pair (.int .i64) .unit))), (0, .v .bool), (0, .v (.int .i64)), (0, .v (.int .i64))] 52 (restr [6, 8, 5, 3, 2, 7, 4] 0 st)).bind fun x => zcn N x K

def zmg (N : Nat) : Tab ((List ((List UInt8) × (Int × (Int × ((List (Int × ((List UInt8) × Unit))) × Unit))))) × (Int × Unit)) := [([0, 0, 1, 0, 0, 1, 0, 0, 1, 0, 1, 1, 1], zci N)]

theorem zku {N : Nat} {c : Ctx} (hb : Base Go.Proofs.Try.prog (z2f N) c) : zu Go.Proofs.Try.prog c (zf z1f [0, 1, 0, 0, 1, 0, 0, 1, 0, 1, 1, 1]) (zcj N) :=
  zp (s := [(2, .box (.pair (.sl (.pair .str (.pair (.int .i64) (.pair (.int .i64) (.pair (.sl (.pair (.int .i64) (.pair .str .unit))) .unit))))) (.pair (.int .i64) .unit))), (0, .box (.pair .str (.pair (.int .i64) (.pair (.int .i64) (.pair (.sl (.pair (.int .i64) (.pair .str .unit))) .unit))))), (0, .box (.pair (.sl (.pair .str (.pair (.int .i64) (.pair (.int .i64) (.pair (.sl (.pair (.int .i64) (.pair .str .unit))) .unit))))) (.pair (.int .i64) .unit))), (0, .box (.pair (.own (.pair .str (.pair (.int .i64) (.pair (.int .i64) (.pair (.sl (.pair (.int .i64) (.pair .str .unit))) .unit))))) (.pair (.int .i64) .unit))), (0, .v .bool), (0, .v (.int .i64)), (0, .v (.int .i64))]) (m := 52) (g := zcn N) [6, 8, 5, 3, 2, 7, 4] (z7 hb N (zmg N) z2w z1f (TabOk.cons (zkt hb) TabOk.nil) [0, 1, 0, 0, 1, 0, 0, 1, 0, 1, 1, 1] _ rfl) (fun x K => by kernel_rfl)

def z73 (N : Nat) (s : ((List ((List UInt8) × (Int × (Int × ((List (Int × ((List UInt8) × Unit))) × Unit))))) × (Int × Unit))) (t : ((List UInt8) × (Int × (Int × ((List (Int × ((List UInt8) × Unit))) × Unit))))) (x4 : ((List ((List UInt8) × (Int × (Int × ((List (Int × ((List UInt8) × Unit))) × Unit))))) × (Int × Unit))) (out : ((List ((List UInt8) × (Int × (Int × ((List (Int × ((List UInt8) × Unit))) × Unit))))) × (Int × Unit))) (done : Bool) (i : Int) (k0 : ((List ((List UInt8) × (Int × (Int × ((List (Int × ((List UInt8) × Unit))) × Unit))))) × (Int × Unit)) -> Bool -> Option ((List ((List UInt8) × (Int × (Int × ((List (Int × ((List UInt8) × Unit))) × Unit))))) × (Int × Unit))) : Option ((List ((List UInt8) × (Int × (Int × ((List (Int × ((List UInt8) × Unit))) × Unit))))) × (Int × Unit)) :=
 cond (Go.Lift.inR i (List.length s.1))
 ((z2g N (List.getD s.1 (Int.toNat i) (([] : List UInt8), ((0 : Int), ((0 : Int), (([] : List (Int × ((List UInt8) × Unit))), ()))))).1 t.1).bind fun y =>
 z72 N s t x4 out done i y
 (fun out1 done1 => cond (y != (0 : Int))
 (cond (Go.Lift.inR i (List.length s.1))
 (cond (decide ((((List.length out1.1) + 1) * 56) <= 70368744177664))
 (k0 ((out1.1 ++ ([(List.getD s.1 (Int.toNat i) (([] : List UInt8), ((0 : Int), ((0 : Int), (([] : List (Int × ((List UInt8) × Unit))), ())))))] : List ((List UInt8) × (Int × (Int × ((List (Int × ((List UInt8) × Unit))) × Unit)))))), out1.2) done1)
 (none))
 (none))
 (k0 out1 done1)))
 (none)

def zco (N : Nat) (x : z2b [(2, .box (.pair (.sl (.pair .str (.pair (.int .i64) (.pair (.int .i64) (.pair (.sl (.pair (.int .i64) (.pair .str .unit))) .unit))))) (.pair (.int .i64) .unit))), (0, .box (.pair .str (.pair (.int .i64) (.pair (.int .i64) (.pair (.sl (.pair (.int .i64) (.pair .str .unit))) .unit))))), (0, .box (.pair (.sl (.pair .str (.pair (.int .i64) (.pair (.int .i64) (.pair (.sl (.pair (.int .i64) (.pair .str .unit))) .unit))))) (.pair (.int .i64) .unit))), (0, .box (.pair (.own (.pair .str (.pair (.int .i64) (.pair (.int .i64) (.pair (.sl (.pair (.int .i64) (.pair .str .unit))) .unit))))) (.pair (.int .i64) .unit))), (0, .v .bool), (0, .v (.int .i64))]) (K : Ex -> List A -> Option ((List ((List UInt8) × (Int × (Int × ((List (Int × ((List UInt8) × Unit))) × Unit))))) × (Int × Unit))) : Option ((List ((List UInt8) × (Int × (Int × ((List (Int × ((List UInt8) × Unit))) × Unit))))) × (Int × Unit)) :=
 z73 N x.1 x.2.1 x.2.2.1 x.2.2.2.1 x.2.2.2.2.1 x.2.2.2.2.2.1 (fun a3 a4 => (K .normal (mkS [(2, .box (.pair (.sl (.pair .str (.pair (.int .i64) (.pair (.int .i64) (.pair (.sl (.pair (.int .i64) (.pair .str .unit))) .unit))))) (.pair (.int .i64) .unit))), (0, .box (.pair .str (.pair (.int .i64) (.pair (.int .i64) (.pair (.sl (.pair (.int .i64) (.pair .str .unit))) .unit))))), (0, .box (.pair (.sl (.pair .str (.pair (.int .i64) (.pair (.int .i64) (.pair (.sl (.pair (.int .i64) (.pair .str .unit))) .unit))))) (.pair (.int .i64) .unit))), (0, .box (.pair (.own (.pair .str (.pair (.int .i64) (.pair (.int .i64) (.pair (.sl (.pair (.int .i64) (.pair .str .unit))) .unit))))) (.pair (.int .i64) .unit))), (0, .v .bool), (0, .v (.int .i64))] 53 (x.1, x.2.1, x.2.2.1, a3, a4, x.2.2.2.2.2.1, ()))))

def zck (N : Nat) : Hd ((List ((List UInt8) × (Int × (Int × ((List (Int × ((List UInt8) × Unit))) × Unit))))) × (Int × Unit)) := fun st K => (unS [(2, .box (.pair (.sl (.pair .str (.pair (.int .i64) (.pair (.int .i64) (.pair (.sl (.pair (.int .i64) (.pair .str .unit))) .unit))))) (.pair (.int .i64) .unit))), (0, .box (.pair .str (.pair (.int .i64) (.pair (.int .i64) (.pair (.sl (.pair (.int .i64) (.pair .str .unit))) .unit))))), (0, .box (.pair (.sl (.pair .str (.pair (.int .i64) (.pair (.int .i64) (.pair (.sl (.pair (.int .i64) (.pair .str .unit))) .unit))))) (.pair (.int .i64) .unit))), (0, .box (.pair (.own (.pair .str (.pair (.int .i64) (.pair (.int .i64) (.pair (.sl (.pair (.int .i64) (.pair .str .unit))) .unit))))) (.pair (.int .i64) .unit))), (0, .v .bool), (0, .v (.int .i64))] 53 (restr [2, 7, 3, 6, 5, 4] 0 st)).bind fun x => zco N x K

def zmh (N : Nat) : Tab ((List ((List UInt8) × (Int × (Int × ((List (Int × ((List UInt8) × Unit))) × Unit))))) × (Int × Unit)) := [([0, 1, 0, 0, 1, 0, 0, 1, 0, 1, 1, 1], zcj N)]

theorem zkv {N : Nat} {c : Ctx} (hb : Base Go.Proofs.Try.prog (z2f N) c) : zu Go.Proofs.Try.prog c (zf z1f [0, 1, 0, 0, 1, 0, 1, 1, 1]) (zck N) :=
  zp (s := [(2, .box (.pair (.sl (.pair .str (.pair (.int .i64) (.pair (.int .i64) (.pair (.sl (.pair (.int .i64) (.pair .str .unit))) .unit))))) (.pair (.int .i64) .unit))), (0, .box (.pair .str (.pair (.int .i64) (.pair (.int .i64) (.pair (.sl (.pair (.int .i64) (.pair .str .unit))) .unit))))), (0, .box (.pair (.sl (.pair .str (.pair (.int .i64) (.pair (.int .i64) (.pair (.sl (.pair (.int .i64) (.pair .str .unit))) .unit))))) (.pair (.int .i64) .unit))), (0, .box (.pair (.own (.pair .str (.pair (.int .i64) (.pair (.int .i64) (.pair (.sl (.pair (.int .i64) (.pair .str .unit))) .unit))))) (.pair (.int .i64) .unit))), (0, .v .bool), (0, .v (.int .i64))]) (m := 53) (g := zco N) [2, 7, 3, 6, 5, 4] (z7 hb N (zmh N) z2w z1f (TabOk.cons (zku hb) TabOk.nil) [0, 1, 0, 0, 1, 0, 1, 1, 1] _ rfl) (fun x K => by kernel_rfl)

def z70 (N : Nat) (s : ((List ((List UInt8) × (Int × (Int × ((List (Int × ((List UInt8) × Unit))) × Unit))))) × (Int × Unit))) (t : ((List UInt8) × (Int × (Int × ((List (Int × ((List UInt8) × Unit))) × Unit))))) (x4 : ((List ((List UInt8) × (Int × (Int × ((List (Int × ((List UInt8) × Unit))) × Unit))))) × (Int × Unit))) (out : ((List ((List UInt8) × (Int × (Int × ((List (Int × ((List UInt8) × Unit))) × Unit))))) × (Int × Unit))) (done : Bool) (i : Int) (rec : ((List ((List UInt8) × (Int × (Int × ((List (Int × ((List UInt8) × Unit))) × Unit))))) × (Int × Unit)) -> Bool -> Int -> Option ((List ((List UInt8) × (Int × (Int × ((List (Int × ((List UInt8) × Unit))) × Unit))))) × (Int × Unit))) (k0 : ((List ((List UInt8) × (Int × (Int × ((List (Int × ((List UInt8) × Unit))) × Unit))))) × (Int × Unit)) -> Bool -> Option ((List ((List UInt8) × (Int × (Int × ((List (Int × ((List UInt8) × Unit))) × Unit))))) × (Int × Unit))) : Option ((List ((List UInt8) × (Int × (Int × ((List (Int × ((List UInt8) × Unit))) × Unit))))) × (Int × Unit)) :=
 cond (decide (i < (((List.length s.1) : Nat) : Int)))
 (z73 N s t x4 out done i
 (fun out1 done1 => rec out1 done1 (Go.IntKind.wrap Go.IntKind.i64 (i + (1 : Int)))))
 (k0 out done)

def zch (N : Nat) (s : ((List ((List UInt8) × (Int × (Int × ((List (Int × ((List UInt8) × Unit))) × Unit))))) × (Int × Unit))) (t : ((List UInt8) × (Int × (Int × ((List (Int × ((List UInt8) × Unit))) × Unit))))) (x4 : ((List ((List UInt8) × (Int × (Int × ((List (Int × ((List UInt8) × Unit))) × Unit))))) × (Int × Unit))) (out : ((List ((List UInt8) × (Int × (Int × ((List (Int × ((List UInt8) × Unit))) × Unit))))) × (Int × Unit))) (done : Bool) (i : Int) (k0 : ((List ((List UInt8) × (Int × (Int × ((List (Int × ((List UInt8) × Unit))) × Unit))))) × (Int × Unit)) -> Bool -> Option ((List ((List UInt8) × (Int × (Int × ((List (Int × ((List UInt8) × Unit))) × Unit))))) × (Int × Unit))) : Option ((List ((List UInt8) × (Int × (Int × ((List (Int × ((List UInt8) × Unit))) × Unit))))) × (Int × Unit)) :=
 iter (fun (v : (((List ((List UInt8) × (Int × (Int × ((List (Int × ((List UInt8) × Unit))) × Unit))))) × (Int × Unit)) × Bool × Int)) r => z70 N s t x4 v.1 v.2.1 v.2.2 (fun out done i => (r (out, done, i))) k0) N (out, done, i)

def zcp (N : Nat) (i : (((List ((List UInt8) × (Int × (Int × ((List (Int × ((List UInt8) × Unit))) × Unit))))) × (Int × Unit)) × ((List UInt8) × (Int × (Int × ((List (Int × ((List UInt8) × Unit))) × Unit)))) × ((List ((List UInt8) × (Int × (Int × ((List (Int × ((List UInt8) × Unit))) × Unit))))) × (Int × Unit)))) (v : (((List ((List UInt8) × (Int × (Int × ((List (Int × ((List UInt8) × Unit))) × Unit))))) × (Int × Unit)) × Bool × Int)) (r : (((List ((List UInt8) × (Int × (Int × ((List (Int × ((List UInt8) × Unit))) × Unit))))) × (Int × Unit)) × Bool × Int) -> Option ((List ((List UInt8) × (Int × (Int × ((List (Int × ((List UInt8) × Unit))) × Unit))))) × (Int × Unit))) (K : Ex -> List A -> Option ((List ((List UInt8) × (Int × (Int × ((List (Int × ((List UInt8) × Unit))) × Unit))))) × (Int × Unit))) : Option ((List ((List UInt8) × (Int × (Int × ((List (Int × ((List UInt8) × Unit))) × Unit))))) × (Int × Unit)) :=
 z70 N i.1 i.2.1 i.2.2 v.1 v.2.1 v.2.2 (fun out done i => (r (out, done, i))) (fun a2 a3 => (K (.exit 0) (mkS [(3, .box (.pair .str (.pair (.int .i64) (.pair (.int .i64) (.pair (.sl (.pair (.int .i64) (.pair .str .unit))) .unit))))), (0, .box (.pair (.sl (.pair .str (.pair (.int .i64) (.pair (.int .i64) (.pair (.sl (.pair (.int .i64) (.pair .str .unit))) .unit))))) (.pair (.int .i64) .unit))), (0, .box (.pair (.own (.pair .str (.pair (.int .i64) (.pair (.int .i64) (.pair (.sl (.pair (.int .i64) (.pair .str .unit))) .unit))))) (.pair (.int .i64) .unit))), (0, .v .bool)] 54 (i.2.1, i.2.2, a2, a3, ()))))

def zcl (N : Nat) : Hd ((List ((List UInt8) × (Int × (Int × ((List (Int × ((List UInt8) × Unit))) × Unit))))) × (Int × Unit)) := fun st K => (unS [(2, .box (.pair (.sl (.pair .str (.pair (.int .i64) (.pair (.int .i64) (.pair (.sl (.pair (.int .i64) (.pair .str .unit))) .unit))))) (.pair (.int .i64) .unit))), (0, .box (.pair .str (.pair (.int .i64) (.pair (.int .i64) (.pair (.sl (.pair (.int .i64) (.pair .str .unit))) .unit))))), (0, .box (.pair (.sl (.pair .str (.pair (.int .i64) (.pair (.int .i64) (.pair (.sl (.pair (.int .i64) (.pair .str .unit))) .unit))))) (.pair (.int .i64) .unit))), (0, .box (.pair (.own (.pair .str (.pair (.int .i64) (.pair (.int .i64) (.pair (.sl (.pair (.int .i64) (.pair .str .unit))) .unit))))) (.pair (.int .i64) .unit))), (0, .v .bool), (0, .v (.int .i64))] 53 (restr [7, 2, 3, 6, 5, 4] 0 st)).bind fun x => iter (fun v r => zcp N ((fun x => (x.1, x.2.1, x.2.2.1)) x) v r K) N ((fun x => (x.2.2.2.1, x.2.2.2.2.1, x.2.2.2.2.2.1)) x)

def zmi (N : Nat) : Tab ((List ((List UInt8) × (Int × (Int × ((List (Int × ((List UInt8) × Unit))) × Unit))))) × (Int × Unit)) := [([0, 1, 0, 0, 1, 0, 1, 1, 1], zck N)]

theorem zkw {N : Nat} {c : Ctx} (hb : Base Go.Proofs.Try.prog (z2f N) c) : zu Go.Proofs.Try.prog c (zf z1f [0, 1, 0, 1, 1, 1]) (zcl N) :=
  z4x (s := [(2, .box (.pair (.sl (.pair .str (.pair (.int .i64) (.pair (.int .i64) (.pair (.sl (.pair (.int .i64) (.pair .str .unit))) .unit))))) (.pair (.int .i64) .unit))), (0, .box (.pair .str (.pair (.int .i64) (.pair (.int .i64) (.pair (.sl (.pair (.int .i64) (.pair .str .unit))) .unit))))), (0, .box (.pair (.sl (.pair .str (.pair (.int .i64) (.pair (.int .i64) (.pair (.sl (.pair (.int .i64) (.pair .str .unit))) .unit))))) (.pair (.int .i64) .unit))), (0, .box (.pair (.own (.pair .str (.pair (.int .i64) (.pair (.int .i64) (.pair (.sl (.pair (.int .i64) (.pair .str .unit))) .unit))))) (.pair (.int .i64) .unit))), (0, .v .bool), (0, .v (.int .i64))]) (m := 53) (zcp N) [7, 2, 3, 6, 5, 4] N (fun x => (x.1, x.2.1, x.2.2.1)) (fun x => (x.2.2.2.1, x.2.2.2.2.1, x.2.2.2.2.2.1)) (fun i v => (i.1, i.2.1, i.2.2, v.1, v.2.1, v.2.2, ())) (fun _ => rfl) (z7 hb N (zmi N) z2w z1f (TabOk.cons (zkv hb) TabOk.nil) [0, 0, 1, 0, 1, 1, 1] _ rfl) (fun i v r K => by kernel_rfl)

def z2k (N : Nat) (s : ((List ((List UInt8) × (Int × (Int × ((List (Int × ((List UInt8) × Unit))) × Unit))))) × (Int × Unit))) (t : ((List UInt8) × (Int × (Int × ((List (Int × ((List UInt8) × Unit))) × Unit))))) : Option ((List ((List UInt8) × (Int × (Int × ((List (Int × ((List UInt8) × Unit))) × Unit))))) × (Int × Unit)) :=
 zch N s t (([] : List ((List UInt8) × (Int × (Int × ((List (Int × ((List UInt8) × Unit))) × Unit))))), ((0 : Int), ())) (([] : List ((List UInt8) × (Int × (Int × ((List (Int × ((List UInt8) × Unit))) × Unit))))), (s.2.1, ())) false (0 : Int)
 (fun out done => cond (!done)
 (cond (decide ((((List.length out.1) + 1) * 56) <= 70368744177664))
 (some ((out.1 ++ ([t] : List ((List UInt8) × (Int × (Int × ((List (Int × ((List UInt8) × Unit))) × Unit)))))), (out.2.1, out.2.2)))
 (none))
 (some (out.1, (out.2.1, out.2.2))))

def zdt (N : Nat) : Tab ((List ((List UInt8) × (Int × (Int × ((List (Int × ((List UInt8) × Unit))) × Unit))))) × (Int × Unit)) := [([0, 1, 0, 1, 1, 1], zcl N)]

theorem zit (N : Nat) (x : z2b [(0, .v (.pair (.sl (.pair .str (.pair (.int .i64) (.pair (.int .i64) (.pair (.sl (.pair (.int .i64) (.pair .str .unit))) .unit))))) (.pair (.int .i64) .unit))), (0, .v (.pair .str (.pair (.int .i64) (.pair (.int .i64) (.pair (.sl (.pair (.int .i64) (.pair .str .unit))) .unit)))))]) : zej (z2f N) N (zdt N) z2w Go.Proofs.Try.f25 (mkS [(0, .v (.pair (.sl (.pair .str (.pair (.int .i64) (.pair (.int .i64) (.pair (.sl (.pair (.int .i64) (.pair .str .unit))) .unit))))) (.pair (.int .i64) .unit))), (0, .v (.pair .str (.pair (.int .i64) (.pair (.int .i64) (.pair (.sl (.pair (.int .i64) (.pair .str .unit))) .unit)))))] 0 x) (z5b (.v (.pair (.sl (.pair .str (.pair (.int .i64) (.pair (.int .i64) (.pair (.sl (.pair (.int .i64) (.pair .str .unit))) .unit))))) (.pair (.int .i64) .unit))) 2) = z2k N x.1 x.2.1 := by kernel_rfl

def zb5 (N : Nat) : List A -> Res := z2r [(0, .v (.pair (.sl (.pair .str (.pair (.int .i64) (.pair (.int .i64) (.pair (.sl (.pair (.int .i64) (.pair .str .unit))) .unit))))) (.pair (.int .i64) .unit))), (0, .v (.pair .str (.pair (.int .i64) (.pair (.int .i64) (.pair (.sl (.pair (.int .i64) (.pair .str .unit))) .unit)))))] (fun x => z2k N x.1 x.2.1) (zfe (.v (.pair (.sl (.pair .str (.pair (.int .i64) (.pair (.int .i64) (.pair (.sl (.pair (.int .i64) (.pair .str .unit))) .unit))))) (.pair (.int .i64) .unit))) 2)

theorem zmj (N : Nat) : Contract Go.Proofs.Try.prog z10 25 (zb5 N) :=
  Contract.of (E := z2f N) (H := zdt N) (L := z2w) (N := N) (body := z1f) (K := (z5b (.v (.pair (.sl (.pair .str (.pair (.int .i64) (.pair (.int .i64) (.pair (.sl (.pair (.int .i64) (.pair .str .unit))) .unit))))) (.pair (.int .i64) .unit))) 2)) (zkx N) Go.Proofs.Try.func25 (by kernel_rfl) (by decide) (fun _ hb => (TabOk.cons (zkw hb) TabOk.nil)) (fun x y h => by rw [zit]; exact h) (z1q (s := (.v (.pair (.sl (.pair .str (.pair (.int .i64) (.pair (.int .i64) (.pair (.sl (.pair (.int .i64) (.pair .str .unit))) .unit))))) (.pair (.int .i64) .unit)))) (m := 2))

def z5c : Code := (Go.Proofs.Try.f26.body).getD .skip

def z8e : List (List Nat × List Nat) := [([0], [0, 1]), ([0, 0, 1], [5, 0, 1]), ([0, 1, 0, 1], [5, 0, 1]), ([0, 0, 0, 0, 1, 0, 1], [9, 0, 5, 1]), ([1, 0, 0, 0, 1, 0, 1], [0, 5, 1]), ([1, 1, 0, 0, 0, 1, 0, 1], []), ([0, 0, 0, 1, 0, 0, 1, 0, 1], [18, 5, 0, 1]), ([1, 0, 0, 1, 0, 0, 1, 0, 1], [5, 0, 1]), ([0, 0, 1, 0, 0, 1, 0, 0, 1, 0, 1], [4]), ([1, 0, 1, 0, 0, 1, 0, 0, 1, 0, 1], [4]), ([0, 1, 0, 0, 1, 0, 1], [5, 0, 1]), ([1, 1, 0, 0, 1, 0, 1], [5, 0, 1]), ([1, 0, 1], []), ([0, 1, 1], [4]), ([1, 1, 1], [4])]

def z55 (N : Nat) : Env := z4w tys z10 [] [] [] [] false [] []

theorem zkz (N : Nat) : EnvOk Go.Proofs.Try.prog (z55 N) := z1e mixed z2n (FnsOk.nil) (ItsOk.nil)

def z74 (N : Nat) (l : (List (Int × ((List UInt8) × Unit)))) (num : Int) (i : Int) (rec : Int -> Option Int) (k0 : Int -> Option Int) (k1 : Option Int) : Option Int :=
 cond (decide (i < (((List.length l) : Nat) : Int)))
 (cond (Go.Lift.inR i (List.length l))
 (cond ((List.getD l (Int.toNat i) ((0 : Int), (([] : List UInt8), ()))).1 == num)
 (k0 i)
 (rec (Go.IntKind.wrap Go.IntKind.i64 (i + (1 : Int)))))
 (none))
 (k1)

def zcq (N : Nat) (l : (List (Int × ((List UInt8) × Unit)))) (num : Int) (i : Int) (k0 : Int -> Option Int) (k1 : Option Int) : Option Int :=
 iter (fun (v : Int) r => z74 N l num v (fun i => (r i)) k0 k1) N i

def zcs (N : Nat) (i : ((List (Int × ((List UInt8) × Unit))) × Int)) (v : Int) (r : Int -> Option Int) (K : Ex -> List A -> Option Int) : Option Int :=
 z74 N i.1 i.2 v (fun i => (r i)) (fun a0 => (K .ret (mkS [(4, .v (.int .i64))] 15 (a0, ())))) (K (.exit 0) (mkS [] 20 ()))

def zcr (N : Nat) : Hd Int := fun st K => (unS [(0, .v (.sl (.pair (.int .i64) (.pair .str .unit)))), (0, .v (.int .i64)), (3, .v (.int .i64))] 14 (restr [5, 0, 1] 0 st)).bind fun x => iter (fun v r => zcs N ((fun x => (x.1, x.2.1)) x) v r K) N ((fun x => x.2.2.1) x)

def zmk (N : Nat) : Tab Int := []

theorem zky {N : Nat} {c : Ctx} (hb : Base Go.Proofs.Try.prog (z55 N) c) : zu Go.Proofs.Try.prog c (zf z5c [0, 1, 0, 1]) (zcr N) :=
  z4x (s := [(0, .v (.sl (.pair (.int .i64) (.pair .str .unit)))), (0, .v (.int .i64)), (3, .v (.int .i64))]) (m := 14) (zcs N) [5, 0, 1] N (fun x => (x.1, x.2.1)) (fun x => x.2.2.1) (fun i v => (i.1, i.2, v, ())) (fun _ => rfl) (z7 hb N (zmk N) z8e z5c TabOk.nil [0, 0, 1, 0, 1] _ rfl) (fun i v r K => by kernel_rfl)

def z3h (N : Nat) (l : (List (Int × ((List UInt8) × Unit)))) (num : Int) : Option Int :=
 zcq N l num (0 : Int)
 (fun x4 => some x4)
 (some (-(1 : Int)))

def zdu (N : Nat) : Tab Int := [([0, 1, 0, 1], zcr N)]

theorem ziu (N : Nat) (x : z2b [(0, .v (.sl (.pair (.int .i64) (.pair .str .unit)))), (0, .v (.int .i64))]) : zej (z55 N) N (zdu N) z8e Go.Proofs.Try.f26 (mkS [(0, .v (.sl (.pair (.int .i64) (.pair .str .unit)))), (0, .v (.int .i64))] 0 x) (z5b (.v (.int .i64)) 2) = z3h N x.1 x.2.1 := by kernel_rfl

def z66 (N : Nat) : List A -> Res := z2r [(0, .v (.sl (.pair (.int .i64) (.pair .str .unit)))), (0, .v (.int .i64))] (fun x => z3h N x.1 x.2.1) (zfe (.v (.int .i64)) 2)

theorem zct (N : Nat) : Contract Go.Proofs.Try.prog z10 26 (z66 N) :=
  Contract.of (E := z55 N) (H := zdu N) (L := z8e) (N := N) (body := z5c) (K := (z5b (.v (.int .i64)) 2)) (zkz N) Go.Proofs.Try.func26 (by kernel_rfl) (by decide) (fun _ hb => (TabOk.cons (zky hb) TabOk.nil)) (fun x y h => by rw [ziu]; exact h) (z1q (s := (.v (.int .i64))) (m := 2))

def z1c : Code := (Go.Proofs.Try.f27.body).getD .skip

def z2q : List (List Nat × List Nat) := [([0], [0, 3]), ([0, 1], [0, 3, 5]), ([0, 1, 1], [0, 6, 3, 5]), ([0, 0, 1, 1, 1], [7, 0, 6, 3, 5]), ([0, 1, 0, 1, 1, 1], [7, 0, 6, 3, 5]), ([0, 0, 0, 0, 1, 0, 1, 1, 1], [11, 6, 0, 7, 3, 5]), ([1, 0, 0, 0, 1, 0, 1, 1, 1], [6, 0, 7, 3, 5]), ([1, 1, 0, 0, 0, 1, 0, 1, 1, 1], [6, 5, 3]), ([0, 0, 0, 0, 1, 0, 0, 1, 0, 1, 1, 1], [25, 5, 3, 0, 7, 6]), ([1, 0, 0, 0, 1, 0, 0, 1, 0, 1, 1, 1], [5, 0, 7, 6, 3]), ([0, 0, 1, 0, 0, 0, 1, 0, 0, 1, 0, 1, 1, 1], [5, 0, 7, 3]), ([1, 0, 1, 0, 0, 0, 1, 0, 0, 1, 0, 1, 1, 1], [5, 0, 7, 6, 3]), ([1, 0, 0, 1, 0, 0, 1, 0, 1, 1, 1], [7, 0, 6, 3, 5]), ([0, 1, 0, 0, 1, 0, 1, 1, 1], [7, 0, 6, 3, 5]), ([1, 1, 0, 0, 1, 0, 1, 1, 1], [7, 0, 6, 3, 5]), ([1, 0, 1, 1, 1], [6, 5, 3]), ([0, 0, 1, 1, 1, 1], [38, 5, 3]), ([1, 0, 1, 1, 1, 1], [5]), ([0, 1, 0, 1, 1, 1, 1], [5]), ([0, 1, 1, 1, 1, 1], [4]), ([1, 1, 1, 1, 1, 1], [4])]

def z25 (N : Nat) : Env := z4w tys z10 [] [(5, (.pair (.int .i64) (.pair .str .unit))), (4, (.pair (.int .i64) (.pair .str .unit)))] [] [] false [] []

theorem zis (N : Nat) : EnvOk Go.Proofs.Try.prog (z25 N) := z1e mixed z2n (FnsOk.nil) (ItsOk.nil)

def z63 (N : Nat) (l : (List (Int × ((List UInt8) × Unit)))) (k : (Int × ((List UInt8) × Unit))) (out : (List (Int × ((List UInt8) × Unit)))) (done : Bool) (i : Int) (k0 : Bool -> Option (List (Int × ((List UInt8) × Unit)))) : Option (List (Int × ((List UInt8) × Unit))) :=
 cond (!done)
 (cond (Go.Lift.inR i (List.length l))
 (k0 (decide (k.1 < (List.getD l (Int.toNat i) ((0 : Int), (([] : List UInt8), ()))).1)))
 (none))
 (k0 false)

def zb1 (N : Nat) (x : z2b [(0, .v (.sl (.pair (.int .i64) (.pair .str .unit)))), (2, .box (.pair (.int .i64) (.pair .str .unit))), (1, .row (.pair (.int .i64) (.pair .str .unit))), (0, .v .bool), (0, .v (.int .i64))]) (K : Ex -> List A -> Option (List (Int × ((List UInt8) × Unit)))) : Option (List (Int × ((List UInt8) × Unit))) :=
 z63 N x.1 x.2.1 x.2.2.1 x.2.2.2.1 x.2.2.2.2.1 (fun a5 => (K .normal (mkS [(0, .v (.sl (.pair (.int .i64) (.pair .str .unit)))), (2, .box (.pair (.int .i64) (.pair .str .unit))), (1, .row (.pair (.int .i64) (.pair .str .unit))), (0, .v .bool), (0, .v (.int .i64)), (17, .v .bool)] 18 (x.1, x.2.1, x.2.2.1, x.2.2.2.1, x.2.2.2.2.1, a5, ()))))

def zax (N : Nat) : Hd (List (Int × ((List UInt8) × Unit))) := fun st K => (unS [(0, .v (.sl (.pair (.int .i64) (.pair .str .unit)))), (2, .box (.pair (.int .i64) (.pair .str .unit))), (1, .row (.pair (.int .i64) (.pair .str .unit))), (0, .v .bool), (0, .v (.int .i64))] 36 (restr [6, 0, 7, 3, 5] 0 st)).bind fun x => zb1 N x K

def zko (N : Nat) : Tab (List (Int × ((List UInt8) × Unit))) := []

theorem zin {N : Nat} {c : Ctx} (hb : Base Go.Proofs.Try.prog (z25 N) c) : zu Go.Proofs.Try.prog c (zf z1c [0, 0, 0, 0, 1, 0, 0, 1, 0, 1, 1, 1]) (zax N) :=
  zp (s := [(0, .v (.sl (.pair (.int .i64) (.pair .str .unit)))), (2, .box (.pair (.int .i64) (.pair .str .unit))), (1, .row (.pair (.int .i64) (.pair .str .unit))), (0, .v .bool), (0, .v (.int .i64))]) (m := 36) (g := zb1 N) [6, 0, 7, 3, 5] (z7 hb N (zko N) z2q z1c TabOk.nil [0, 0, 0, 0, 1, 0, 0, 1, 0, 1, 1, 1] _ rfl) (fun x K => by kernel_rfl)

def z64 (N : Nat) (l : (List (Int × ((List UInt8) × Unit)))) (k : (Int × ((List UInt8) × Unit))) (out : (List (Int × ((List UInt8) × Unit)))) (done : Bool) (i : Int) (k0 : (List (Int × ((List UInt8) × Unit))) -> Bool -> Option (List (Int × ((List UInt8) × Unit)))) : Option (List (Int × ((List UInt8) × Unit))) :=
 z63 N l k out done i
 (fun x25 => cond x25
 (cond (decide ((((List.length out) + 1) * 24) <= 70368744177664))
 (k0 (out ++ ([k] : List (Int × ((List UInt8) × Unit)))) true)
 (none))
 (k0 out done))

def zb2 (N : Nat) (x : z2b [(0, .v (.sl (.pair (.int .i64) (.pair .str .unit)))), (2, .box (.pair (.int .i64) (.pair .str .unit))), (1, .row (.pair (.int .i64) (.pair .str .unit))), (0, .v .bool), (0, .v (.int .i64))]) (K : Ex -> List A -> Option (List (Int × ((List UInt8) × Unit)))) : Option (List (Int × ((List UInt8) × Unit))) :=
 z64 N x.1 x.2.1 x.2.2.1 x.2.2.2.1 x.2.2.2.2.1 (fun a2 a3 => (K .normal (mkS [(0, .v (.sl (.pair (.int .i64) (.pair .str .unit)))), (2, .box (.pair (.int .i64) (.pair .str .unit))), (1, .row (.pair (.int .i64) (.pair .str .unit))), (0, .v .bool), (0, .v (.int .i64))] 36 (x.1, x.2.1, a2, a3, x.2.2.2.2.1, ()))))

def zay (N : Nat) : Hd (List (Int × ((List UInt8) × Unit))) := fun st K => (unS [(0, .v (.sl (.pair (.int .i64) (.pair .str .unit)))), (2, .box (.pair (.int .i64) (.pair .str .unit))), (1, .row (.pair (.int .i64) (.pair .str .unit))), (0, .v .bool), (0, .v (.int .i64))] 36 (restr [6, 0, 7, 3, 5] 0 st)).bind fun x => zb2 N x K

def zkp (N : Nat) : Tab (List (Int × ((List UInt8) × Unit))) := [([0, 0, 0, 0, 1, 0, 0, 1, 0, 1, 1, 1], zax N)]

theorem zio {N : Nat} {c : Ctx} (hb : Base Go.Proofs.Try.prog (z25 N) c) : zu Go.Proofs.Try.prog c (zf z1c [0, 0, 0, 1, 0, 0, 1, 0, 1, 1, 1]) (zay N) :=
  zp (s := [(0, .v (.sl (.pair (.int .i64) (.pair .str .unit)))), (2, .box (.pair (.int .i64) (.pair .str .unit))), (1, .row (.pair (.int .i64) (.pair .str .unit))), (0, .v .bool), (0, .v (.int .i64))]) (m := 36) (g := zb2 N) [6, 0, 7, 3, 5] (z7 hb N (zkp N) z2q z1c (TabOk.cons (zin hb) TabOk.nil) [0, 0, 0, 1, 0, 0, 1, 0, 1, 1, 1] _ rfl) (fun x K => by kernel_rfl)

def z65 (N : Nat) (l : (List (Int × ((List UInt8) × Unit)))) (k : (Int × ((List UInt8) × Unit))) (out : (List (Int × ((List UInt8) × Unit)))) (done : Bool) (i : Int) (k0 : (List (Int × ((List UInt8) × Unit))) -> Bool -> Option (List (Int × ((List UInt8) × Unit)))) : Option (List (Int × ((List UInt8) × Unit))) :=
 z64 N l k out done i
 (fun out1 done1 => cond (Go.Lift.inR i (List.length l))
 (cond (decide ((((List.length out1) + 1) * 24) <= 70368744177664))
 (k0 (out1 ++ ([(List.getD l (Int.toNat i) ((0 : Int), (([] : List UInt8), ())))] : List (Int × ((List UInt8) × Unit)))) done1)
 (none))
 (none))

def zb3 (N : Nat) (x : z2b [(0, .v (.sl (.pair (.int .i64) (.pair .str .unit)))), (2, .box (.pair (.int .i64) (.pair .str .unit))), (1, .row (.pair (.int .i64) (.pair .str .unit))), (0, .v .bool), (0, .v (.int .i64))]) (K : Ex -> List A -> Option (List (Int × ((List UInt8) × Unit)))) : Option (List (Int × ((List UInt8) × Unit))) :=
 z65 N x.1 x.2.1 x.2.2.1 x.2.2.2.1 x.2.2.2.2.1 (fun a2 a3 => (K .normal (mkS [(0, .v (.sl (.pair (.int .i64) (.pair .str .unit)))), (2, .box (.pair (.int .i64) (.pair .str .unit))), (1, .row (.pair (.int .i64) (.pair .str .unit))), (0, .v .bool), (0, .v (.int .i64))] 36 (x.1, x.2.1, a2, a3, x.2.2.2.2.1, ()))))

def zaz (N : Nat) : Hd (List (Int × ((List UInt8) × Unit))) := fun st K => (unS [(0, .v (.sl (.pair (.int .i64) (.pair .str .unit)))), (2, .box (.pair (.int .i64) (.pair .str .unit))), (1, .row (.pair (.int .i64) (.pair .str .unit))), (0, .v .bool), (0, .v (.int .i64))] 36 (restr [6, 0, 7, 3, 5] 0 st)).bind fun x => zb3 N x K

def zkq (N : Nat) : Tab (List (Int × ((List UInt8) × Unit))) := [([0, 0, 0, 1, 0, 0, 1, 0, 1, 1, 1], zay N)]

theorem ziq {N : Nat} {c : Ctx} (hb : Base Go.Proofs.Try.prog (z25 N) c) : zu Go.Proofs.Try.prog c (zf z1c [0, 1, 0, 0, 1, 0, 1, 1, 1]) (zaz N) :=
  zp (s := [(0, .v (.sl (.pair (.int .i64) (.pair .str .unit)))), (2, .box (.pair (.int .i64) (.pair .str .unit))), (1, .row (.pair (.int .i64) (.pair .str .unit))), (0, .v .bool), (0, .v (.int .i64))]) (m := 36) (g := zb3 N) [6, 0, 7, 3, 5] (z7 hb N (zkq N) z2q z1c (TabOk.cons (zio hb) TabOk.nil) [0, 1, 0, 0, 1, 0, 1, 1, 1] _ rfl) (fun x K => by kernel_rfl)

def z62 (N : Nat) (l : (List (Int × ((List UInt8) × Unit)))) (k : (Int × ((List UInt8) × Unit))) (out : (List (Int × ((List UInt8) × Unit)))) (done : Bool) (i : Int) (rec : (List (Int × ((List UInt8) × Unit))) -> Bool -> Int -> Option (List (Int × ((List UInt8) × Unit)))) (k0 : (List (Int × ((List UInt8) × Unit))) -> Bool -> Option (List (Int × ((List UInt8) × Unit)))) : Option (List (Int × ((List UInt8) × Unit))) :=
 cond (decide (i < (((List.length l) : Nat) : Int)))
 (z65 N l k out done i
 (fun out1 done1 => rec out1 done1 (Go.IntKind.wrap Go.IntKind.i64 (i + (1 : Int)))))
 (k0 out done)

def zaw (N : Nat) (l : (List (Int × ((List UInt8) × Unit)))) (k : (Int × ((List UInt8) × Unit))) (out : (List (Int × ((List UInt8) × Unit)))) (done : Bool) (i : Int) (k0 : (List (Int × ((List UInt8) × Unit))) -> Bool -> Option (List (Int × ((List UInt8) × Unit)))) : Option (List (Int × ((List UInt8) × Unit))) :=
 iter (fun (v : ((List (Int × ((List UInt8) × Unit))) × Bool × Int)) r => z62 N l k v.1 v.2.1 v.2.2 (fun out done i => (r (out, done, i))) k0) N (out, done, i)

def zb4 (N : Nat) (i : ((List (Int × ((List UInt8) × Unit))) × (Int × ((List UInt8) × Unit)))) (v : ((List (Int × ((List UInt8) × Unit))) × Bool × Int)) (r : ((List (Int × ((List UInt8) × Unit))) × Bool × Int) -> Option (List (Int × ((List UInt8) × Unit)))) (K : Ex -> List A -> Option (List (Int × ((List UInt8) × Unit)))) : Option (List (Int × ((List UInt8) × Unit))) :=
 z62 N i.1 i.2 v.1 v.2.1 v.2.2 (fun out done i => (r (out, done, i))) (fun a1 a2 => (K (.exit 0) (mkS [(3, .box (.pair (.int .i64) (.pair .str .unit))), (1, .row (.pair (.int .i64) (.pair .str .unit))), (0, .v .bool)] 37 (i.2, a1, a2, ()))))

def zb0 (N : Nat) : Hd (List (Int × ((List UInt8) × Unit))) := fun st K => (unS [(0, .v (.sl (.pair (.int .i64) (.pair .str .unit)))), (2, .box (.pair (.int .i64) (.pair .str .unit))), (1, .row (.pair (.int .i64) (.pair .str .unit))), (0, .v .bool), (0, .v (.int .i64))] 36 (restr [7, 0, 6, 3, 5] 0 st)).bind fun x => iter (fun v r => zb4 N ((fun x => (x.1, x.2.1)) x) v r K) N ((fun x => (x.2.2.1, x.2.2.2.1, x.2.2.2.2.1)) x)

def zkr (N : Nat) : Tab (List (Int × ((List UInt8) × Unit))) := [([0, 1, 0, 0, 1, 0, 1, 1, 1], zaz N)]

theorem zir {N : Nat} {c : Ctx} (hb : Base Go.Proofs.Try.prog (z25 N) c) : zu Go.Proofs.Try.prog c (zf z1c [0, 1, 0, 1, 1, 1]) (zb0 N) :=
  z4x (s := [(0, .v (.sl (.pair (.int .i64) (.pair .str .unit)))), (2, .box (.pair (.int .i64) (.pair .str .unit))), (1, .row (.pair (.int .i64) (.pair .str .unit))), (0, .v .bool), (0, .v (.int .i64))]) (m := 36) (zb4 N) [7, 0, 6, 3, 5] N (fun x => (x.1, x.2.1)) (fun x => (x.2.2.1, x.2.2.2.1, x.2.2.2.2.1)) (fun i v => (i.1, i.2, v.1, v.2.1, v.2.2, ())) (fun _ => rfl) (z7 hb N (zkr N) z2q z1c (TabOk.cons (ziq hb) TabOk.nil) [0, 0, 1, 0, 1, 1, 1] _ rfl) (fun i v r K => by kernel_rfl)

def z48 (N : Nat) (l : (List (Int × ((List UInt8) × Unit)))) (k : (Int × ((List UInt8) × Unit))) : Option (List (Int × ((List UInt8) × Unit))) :=
 zaw N l k ([] : List (Int × ((List UInt8) × Unit))) false (0 : Int)
 (fun out done => cond (!done)
 (cond (decide ((((List.length out) + 1) * 24) <= 70368744177664))
 (some (out ++ ([k] : List (Int × ((List UInt8) × Unit)))))
 (none))
 (some out))

def zcg (N : Nat) : Tab (List (Int × ((List UInt8) × Unit))) := [([0, 1, 0, 1, 1, 1], zb0 N)]

theorem zgz (N : Nat) (x : z2b [(0, .v (.sl (.pair (.int .i64) (.pair .str .unit)))), (0, .v (.pair (.int .i64) (.pair .str .unit)))]) : zej (z25 N) N (zcg N) z2q Go.Proofs.Try.f27 (mkS [(0, .v (.sl (.pair (.int .i64) (.pair .str .unit)))), (0, .v (.pair (.int .i64) (.pair .str .unit)))] 0 x) (z5b (.v (.sl (.pair (.int .i64) (.pair .str .unit)))) 2) = z48 N x.1 x.2.1 := by kernel_rfl

def z9b (N : Nat) : List A -> Res := z2r [(0, .v (.sl (.pair (.int .i64) (.pair .str .unit)))), (0, .v (.pair (.int .i64) (.pair .str .unit)))] (fun x => z48 N x.1 x.2.1) (zfe (.v (.sl (.pair (.int .i64) (.pair .str .unit)))) 2)

theorem zks (N : Nat) : Contract Go.Proofs.Try.prog z10 27 (z9b N) :=
  Contract.of (E := z25 N) (H := zcg N) (L := z2q) (N := N) (body := z1c) (K := (z5b (.v (.sl (.pair (.int .i64) (.pair .str .unit)))) 2)) (zis N) Go.Proofs.Try.func27 (by kernel_rfl) (by decide) (fun _ hb => (TabOk.cons (zir hb) TabOk.nil)) (fun x y h => by rw [zgz]; exact h) (z1q (s := (.v (.sl (.pair (.int .i64) (.pair .str .unit))))) (m := 2))

def zw : Code := (Go.Proofs.Try.f9.body).getD .skip

def z1x : List (List Nat × List Nat) := [([0], [2, 4, 3]), ([0, 0, 1], [11, 4, 3, 2]), ([1, 0, 1], [3, 4, 2]), ([0, 0, 1, 0, 1], [4, 5]), ([1, 0, 1, 0, 1], [4, 5]), ([0, 0, 1, 1], [15, 4, 3, 2]), ([1, 0, 1, 1], [3, 2, 4]), ([0, 0, 1, 0, 1, 1], [4, 5]), ([1, 0, 1, 0, 1, 1], [4, 5]), ([0, 0, 1, 1, 1], [19, 3, 2, 4]), ([1, 0, 1, 1, 1], [2, 3, 4]), ([0, 0, 0, 1, 0, 1, 1, 1], [24, 4, 2, 3]), ([1, 0, 0, 1, 0, 1, 1, 1], [2, 3, 4]), ([0, 0, 1, 0, 0, 1, 0, 1, 1, 1], [4, 5]), ([1, 0, 1, 0, 0, 1, 0, 1, 1, 1], [4, 5]), ([0, 1, 0, 1, 0, 1, 1, 1], [4, 5]), ([1, 1, 0, 1, 0, 1, 1, 1], [4, 5]), ([0, 1, 1, 1, 1], [3, 6, 2, 4]), ([0, 1, 1, 1, 1, 1], [6, 2, 7, 3, 4]), ([0, 0, 1, 1, 1, 1, 1, 1], [39, 2, 6, 7, 3, 4]), ([1, 0, 1, 1, 1, 1, 1, 1], [3, 6, 2, 4, 7]), ([0, 1, 0, 1, 1, 1, 1, 1, 1], [3, 6, 2, 4, 7]), ([0, 0, 1, 1, 1, 1, 1, 1, 1], [47, 6, 2, 4, 3, 7]), ([1, 0, 1, 1, 1, 1, 1, 1, 1], [6, 4, 7, 3, 2]), ([0, 0, 0, 1, 0, 1, 1, 1, 1, 1, 1, 1], [55, 4, 3, 7, 2]), ([1, 0, 0, 1, 0, 1, 1, 1, 1, 1, 1, 1], [3, 7, 4, 2]), ([0, 0, 1, 0, 0, 1, 0, 1, 1, 1, 1, 1, 1, 1], [4, 5]), ([1, 0, 1, 0, 0, 1, 0, 1, 1, 1, 1, 1, 1, 1], [4, 5]), ([0, 0, 1, 0, 1, 0, 1, 1, 1, 1, 1, 1, 1], [68, 4, 3, 7, 2]), ([1, 0, 1, 0, 1, 0, 1, 1, 1, 1, 1, 1, 1], [3, 7, 2, 4]), ([0, 0, 1, 0, 1, 0, 1, 0, 1, 1, 1, 1, 1, 1, 1], [4, 5]), ([1, 0, 1, 0, 1, 0, 1, 0, 1, 1, 1, 1, 1, 1, 1], [4, 5]), ([0, 1, 1, 0, 1, 0, 1, 1, 1, 1, 1, 1, 1], [3, 7, 2, 4]), ([0, 1, 1, 1, 0, 1, 0, 1, 1, 1, 1, 1, 1, 1], [2, 7, 4]), ([0, 1, 1, 1, 1, 0, 1, 0, 1, 1, 1, 1, 1, 1, 1], [4, 5]), ([1, 1, 1, 1, 1, 0, 1, 0, 1, 1, 1, 1, 1, 1, 1], [4, 5]), ([0, 0, 1, 1, 1, 1, 1, 1, 1, 1], [80, 4, 7, 3, 2]), ([1, 0, 1, 1, 1, 1, 1, 1, 1, 1], [7, 3, 4, 2]), ([0, 0, 1, 0, 1, 1, 1, 1, 1, 1, 1, 1], [4, 5]), ([1, 0, 1, 0, 1, 1, 1, 1, 1, 1, 1, 1], [4, 5]), ([0, 1, 1, 1, 1, 1, 1, 1, 1, 1], [3, 8, 4, 7, 2]), ([0, 0, 1, 1, 1, 1, 1, 1, 1, 1, 1, 1], [89, 8, 4, 7, 2, 3]), ([1, 0, 1, 1, 1, 1, 1, 1, 1, 1, 1, 1], [3, 7, 4, 8, 2]), ([0, 0, 0, 1, 0, 1, 1, 1, 1, 1, 1, 1, 1, 1, 1], [91, 4, 7, 8, 2]), ([1, 0, 0, 1, 0, 1, 1, 1, 1, 1, 1, 1, 1, 1, 1], [7, 8, 2, 4]), ([0, 0, 1, 0, 0, 1, 0, 1, 1, 1, 1, 1, 1, 1, 1, 1, 1], [4, 5]), ([1, 0, 1, 0, 0, 1, 0, 1, 1, 1, 1, 1, 1, 1, 1, 1, 1], [4, 5]), ([0, 1, 0, 1, 0, 1, 1, 1, 1, 1, 1, 1, 1, 1, 1], [2, 7, 4]), ([0, 1, 1, 0, 1, 0, 1, 1, 1, 1, 1, 1, 1, 1, 1, 1], [4, 5]), ([1, 1, 1, 0, 1, 0, 1, 1, 1, 1, 1, 1, 1, 1, 1, 1], [4, 5]), ([0, 0, 1, 1, 1, 1, 1, 1, 1, 1, 1, 1, 1], [113, 4, 8, 7, 3, 2]), ([1, 0, 1, 1, 1, 1, 1, 1, 1, 1, 1, 1, 1], [8, 4, 7, 3, 2]), ([0, 0, 1, 0, 1, 1, 1, 1, 1, 1, 1, 1, 1, 1, 1], [4, 5]), ([1, 0, 1, 0, 1, 1, 1, 1, 1, 1, 1, 1, 1, 1, 1], [4, 5]), ([0, 0, 1, 1, 1, 1, 1, 1, 1, 1, 1, 1, 1, 1], [116, 4, 7, 3, 2]), ([1, 0, 1, 1, 1, 1, 1, 1, 1, 1, 1, 1, 1, 1], [7, 4, 3, 2]), ([0, 0, 1, 0, 1, 1, 1, 1, 1, 1, 1, 1, 1, 1, 1, 1], [4, 5]), ([1, 0, 1, 0, 1, 1, 1, 1, 1, 1, 1, 1, 1, 1, 1, 1], [4, 5]), ([0, 0, 1, 1, 1, 1, 1, 1, 1, 1, 1, 1, 1, 1, 1], [121, 4, 7, 3, 2]), ([1, 0, 1, 1, 1, 1, 1, 1, 1, 1, 1, 1, 1, 1, 1], [7, 3, 2, 4]), ([0, 0, 1, 0, 1, 1, 1, 1, 1, 1, 1, 1, 1, 1, 1, 1, 1], [4, 5]), ([1, 0, 1, 0, 1, 1, 1, 1, 1, 1, 1, 1, 1, 1, 1, 1, 1], [4, 5]), ([0, 1, 1, 1, 1, 1, 1, 1, 1, 1, 1, 1, 1, 1, 1], [2, 7, 4]), ([0, 1, 1, 1, 1, 1, 1, 1, 1, 1, 1, 1, 1, 1, 1, 1], [4, 5]), ([1, 1, 1, 1, 1, 1, 1, 1, 1, 1, 1, 1, 1, 1, 1, 1], [4, 5])]

def z1n (N : Nat) : Env := z4w tys z10 [(27, z9b N), (26, z66 N), (25, zb5 N), (22, z2t N), (13, z9w N), (11, z4p N)] [] [] [] false [] []

theorem zhk (N : Nat) : EnvOk Go.Proofs.Try.prog (z1n N) := z1e mixed z2n (FnsOk.cons (zks N) (FnsOk.cons (zct N) (FnsOk.cons (zmj N) (FnsOk.cons (z3u N) (FnsOk.cons (zl5 N) (FnsOk.cons (z9u N) (FnsOk.nil))))))) (ItsOk.nil)

def z5n (N : Nat) (s : ((List ((List UInt8) × (Int × (Int × ((List (Int × ((List UInt8) × Unit))) × Unit))))) × (Int × Unit))) (e : (Int × ((List UInt8) × (Int × (Int × ((List UInt8) × Unit)))))) (x4 : ((List ((List UInt8) × (Int × (Int × ((List (Int × ((List UInt8) × Unit))) × Unit))))) × (Int × Unit))) (at_ : Int) (t : ((List UInt8) × (Int × (Int × ((List (Int × ((List UInt8) × Unit))) × Unit))))) (k0 : ((List UInt8) × (Int × (Int × ((List (Int × ((List UInt8) × Unit))) × Unit)))) -> Option (((List ((List UInt8) × (Int × (Int × ((List (Int × ((List UInt8) × Unit))) × Unit))))) × (Int × Unit)) × Int × Unit)) : Option (((List ((List UInt8) × (Int × (Int × ((List (Int × ((List UInt8) × Unit))) × Unit))))) × (Int × Unit)) × Int × Unit) :=
 cond (decide ((0 : Int) <= at_))
 (cond (Go.Lift.inR at_ (List.length s.1))
 (k0 (List.getD s.1 (Int.toNat at_) (([] : List UInt8), ((0 : Int), ((0 : Int), (([] : List (Int × ((List UInt8) × Unit))), ()))))))
 (none))
 (k0 t)

def za6 (N : Nat) (x : z2b [(2, .box (.pair (.sl (.pair .str (.pair (.int .i64) (.pair (.int .i64) (.pair (.sl (.pair (.int .i64) (.pair .str .unit))) .unit))))) (.pair (.int .i64) .unit))), (0, .box (.pair (.int .i64) (.pair .str (.pair (.int .i64) (.pair (.int .i64) (.pair .str .unit)))))), (0, .box (.pair (.sl (.pair .str (.pair (.int .i64) (.pair (.int .i64) (.pair (.sl (.pair (.int .i64) (.pair .str .unit))) .unit))))) (.pair (.int .i64) .unit))), (1, .v (.int .i64)), (0, .box (.pair .str (.pair (.int .i64) (.pair (.int .i64) (.pair (.sl (.pair (.int .i64) (.pair .str .unit))) .unit)))))]) (K : Ex -> List A -> Option (((List ((List UInt8) × (Int × (Int × ((List (Int × ((List UInt8) × Unit))) × Unit))))) × (Int × Unit)) × Int × Unit)) : Option (((List ((List UInt8) × (Int × (Int × ((List (Int × ((List UInt8) × Unit))) × Unit))))) × (Int × Unit)) × Int × Unit) :=
 z5n N x.1 x.2.1 x.2.2.1 x.2.2.2.1 x.2.2.2.2.1 (fun a4 => (K .normal (mkS [(2, .box (.pair (.sl (.pair .str (.pair (.int .i64) (.pair (.int .i64) (.pair (.sl (.pair (.int .i64) (.pair .str .unit))) .unit))))) (.pair (.int .i64) .unit))), (0, .box (.pair (.int .i64) (.pair .str (.pair (.int .i64) (.pair (.int .i64) (.pair .str .unit)))))), (0, .box (.pair (.sl (.pair .str (.pair (.int .i64) (.pair (.int .i64) (.pair (.sl (.pair (.int .i64) (.pair .str .unit))) .unit))))) (.pair (.int .i64) .unit))), (1, .v (.int .i64)), (0, .box (.pair .str (.pair (.int .i64) (.pair (.int .i64) (.pair (.sl (.pair (.int .i64) (.pair .str .unit))) .unit)))))] 127 (x.1, x.2.1, x.2.2.1, x.2.2.2.1, a4, ()))))

def za1 (N : Nat) : Hd (((List ((List UInt8) × (Int × (Int × ((List (Int × ((List UInt8) × Unit))) × Unit))))) × (Int × Unit)) × Int × Unit) := fun st K => (unS [(2, .box (.pair (.sl (.pair .str (.pair (.int .i64) (.pair (.int .i64) (.pair (.sl (.pair (.int .i64) (.pair .str .unit))) .unit))))) (.pair (.int .i64) .unit))), (0, .box (.pair (.int .i64) (.pair .str (.pair (.int .i64) (.pair (.int .i64) (.pair .str .unit)))))), (0, .box (.pair (.sl (.pair .str (.pair (.int .i64) (.pair (.int .i64) (.pair (.sl (.pair (.int .i64) (.pair .str .unit))) .unit))))) (.pair (.int .i64) .unit))), (1, .v (.int .i64)), (0, .box (.pair .str (.pair (.int .i64) (.pair (.int .i64) (.pair (.sl (.pair (.int .i64) (.pair .str .unit))) .unit)))))] 127 (restr [6, 2, 7, 3, 4] 0 st)).bind fun x => za6 N x K

def zjf (N : Nat) : Tab (((List ((List UInt8) × (Int × (Int × ((List (Int × ((List UInt8) × Unit))) × Unit))))) × (Int × Unit)) × Int × Unit) := []

theorem zhj {N : Nat} {c : Ctx} (hb : Base Go.Proofs.Try.prog (z1n N) c) : zu Go.Proofs.Try.prog c (zf zw [0, 1, 1, 1, 1, 1, 1]) (za1 N) :=
  zp (s := [(2, .box (.pair (.sl (.pair .str (.pair (.int .i64) (.pair (.int .i64) (.pair (.sl (.pair (.int .i64) (.pair .str .unit))) .unit))))) (.pair (.int .i64) .unit))), (0, .box (.pair (.int .i64) (.pair .str (.pair (.int .i64) (.pair (.int .i64) (.pair .str .unit)))))), (0, .box (.pair (.sl (.pair .str (.pair (.int .i64) (.pair (.int .i64) (.pair (.sl (.pair (.int .i64) (.pair .str .unit))) .unit))))) (.pair (.int .i64) .unit))), (1, .v (.int .i64)), (0, .box (.pair .str (.pair (.int .i64) (.pair (.int .i64) (.pair (.sl (.pair (.int .i64) (.pair .str .unit))) .unit)))))]) (m := 127) (g := za6 N) [6, 2, 7, 3, 4] (z7 hb N (zjf N) z1x zw TabOk.nil [0, 1, 1, 1, 1, 1, 1] _ rfl) (fun x K => by kernel_rfl)

def z3d (N : Nat) (s : ((List ((List UInt8) × (Int × (Int × ((List (Int × ((List UInt8) × Unit))) × Unit))))) × (Int × Unit))) (e : (Int × ((List UInt8) × (Int × (Int × ((List UInt8) × Unit)))))) (x4 : ((List ((List UInt8) × (Int × (Int × ((List (Int × ((List UInt8) × Unit))) × Unit))))) × (Int × Unit))) (at_ : Int) (t : ((List UInt8) × (Int × (Int × ((List (Int × ((List UInt8) × Unit))) × Unit))))) (k0 : Bool -> Option (((List ((List UInt8) × (Int × (Int × ((List (Int × ((List UInt8) × Unit))) × Unit))))) × (Int × Unit)) × Int × Unit)) : Option (((List ((List UInt8) × (Int × (Int × ((List (Int × ((List UInt8) × Unit))) × Unit))))) × (Int × Unit)) × Int × Unit) :=
 cond (decide (at_ < (0 : Int)))
 (k0 ((((List.length s.1) : Nat) : Int) == (16 : Int)))
 (k0 false)

def za4 (N : Nat) (x : z2b [(2, .box (.pair (.sl (.pair .str (.pair (.int .i64) (.pair (.int .i64) (.pair (.sl (.pair (.int .i64) (.pair .str .unit))) .unit))))) (.pair (.int .i64) .unit))), (0, .box (.pair (.int .i64) (.pair .str (.pair (.int .i64) (.pair (.int .i64) (.pair .str .unit)))))), (0, .box (.pair (.sl (.pair .str (.pair (.int .i64) (.pair (.int .i64) (.pair (.sl (.pair (.int .i64) (.pair .str .unit))) .unit))))) (.pair (.int .i64) .unit))), (1, .v (.int .i64)), (0, .box (.pair .str (.pair (.int .i64) (.pair (.int .i64) (.pair (.sl (.pair (.int .i64) (.pair .str .unit))) .unit)))))]) (K : Ex -> List A -> Option (((List ((List UInt8) × (Int × (Int × ((List (Int × ((List UInt8) × Unit))) × Unit))))) × (Int × Unit)) × Int × Unit)) : Option (((List ((List UInt8) × (Int × (Int × ((List (Int × ((List UInt8) × Unit))) × Unit))))) × (Int × Unit)) × Int × Unit) :=
 z3d N x.1 x.2.1 x.2.2.1 x.2.2.2.1 x.2.2.2.2.1 (fun a4 => (K .normal (mkS [(2, .box (.pair (.sl (.pair .str (.pair (.int .i64) (.pair (.int .i64) (.pair (.sl (.pair (.int .i64) (.pair .str .unit))) .unit))))) (.pair (.int .i64) .unit))), (0, .box (.pair (.int .i64) (.pair .str (.pair (.int .i64) (.pair (.int .i64) (.pair .str .unit)))))), (0, .box (.pair (.sl (.pair .str (.pair (.int .i64) (.pair (.int .i64) (.pair (.sl (.pair (.int .i64) (.pair .str .unit))) .unit))))) (.pair (.int .i64) .unit))), (2, .box (.pair .str (.pair (.int .i64) (.pair (.int .i64) (.pair (.sl (.pair (.int .i64) (.pair .str .unit))) .unit))))), (47, .v .bool)] 79 (x.1, x.2.1, x.2.2.1, x.2.2.2.2.1, a4, ()))))

def z9z (N : Nat) : Hd (((List ((List UInt8) × (Int × (Int × ((List (Int × ((List UInt8) × Unit))) × Unit))))) × (Int × Unit)) × Int × Unit) := fun st K => (unS [(2, .box (.pair (.sl (.pair .str (.pair (.int .i64) (.pair (.int .i64) (.pair (.sl (.pair (.int .i64) (.pair .str .unit))) .unit))))) (.pair (.int .i64) .unit))), (0, .box (.pair (.int .i64) (.pair .str (.pair (.int .i64) (.pair (.int .i64) (.pair .str .unit)))))), (0, .box (.pair (.sl (.pair .str (.pair (.int .i64) (.pair (.int .i64) (.pair (.sl (.pair (.int .i64) (.pair .str .unit))) .unit))))) (.pair (.int .i64) .unit))), (1, .v (.int .i64)), (0, .box (.pair .str (.pair (.int .i64) (.pair (.int .i64) (.pair (.sl (.pair (.int .i64) (.pair .str .unit))) .unit)))))] 127 (restr [6, 2, 4, 3, 7] 0 st)).bind fun x => za4 N x K

def zjd (N : Nat) : Tab (((List ((List UInt8) × (Int × (Int × ((List (Int × ((List UInt8) × Unit))) × Unit))))) × (Int × Unit)) × Int × Unit) := []

theorem zhh {N : Nat} {c : Ctx} (hb : Base Go.Proofs.Try.prog (z1n N) c) : zu Go.Proofs.Try.prog c (zf zw [0, 0, 0, 1, 0, 1, 1, 1, 1, 1, 1, 1]) (z9z N) :=
  zp (s := [(2, .box (.pair (.sl (.pair .str (.pair (.int .i64) (.pair (.int .i64) (.pair (.sl (.pair (.int .i64) (.pair .str .unit))) .unit))))) (.pair (.int .i64) .unit))), (0, .box (.pair (.int .i64) (.pair .str (.pair (.int .i64) (.pair (.int .i64) (.pair .str .unit)))))), (0, .box (.pair (.sl (.pair .str (.pair (.int .i64) (.pair (.int .i64) (.pair (.sl (.pair (.int .i64) (.pair .str .unit))) .unit))))) (.pair (.int .i64) .unit))), (1, .v (.int .i64)), (0, .box (.pair .str (.pair (.int .i64) (.pair (.int .i64) (.pair (.sl (.pair (.int .i64) (.pair .str .unit))) .unit)))))]) (m := 127) (g := za4 N) [6, 2, 4, 3, 7] (z7 hb N (zjd N) z1x zw TabOk.nil [0, 0, 0, 1, 0, 1, 1, 1, 1, 1, 1, 1] _ rfl) (fun x K => by kernel_rfl)

def z3e (N : Nat) (s : ((List ((List UInt8) × (Int × (Int × ((List (Int × ((List UInt8) × Unit))) × Unit))))) × (Int × Unit))) (e : (Int × ((List UInt8) × (Int × (Int × ((List UInt8) × Unit)))))) (x4 : ((List ((List UInt8) × (Int × (Int × ((List (Int × ((List UInt8) × Unit))) × Unit))))) × (Int × Unit))) (at_ : Int) (t : ((List UInt8) × (Int × (Int × ((List (Int × ((List UInt8) × Unit))) × Unit))))) (k0 : ((List ((List UInt8) × (Int × (Int × ((List (Int × ((List UInt8) × Unit))) × Unit))))) × (Int × Unit)) -> Int -> Option (((List ((List UInt8) × (Int × (Int × ((List (Int × ((List UInt8) × Unit))) × Unit))))) × (Int × Unit)) × Int × Unit)) (k1 : Option (((List ((List UInt8) × (Int × (Int × ((List (Int × ((List UInt8) × Unit))) × Unit))))) × (Int × Unit)) × Int × Unit)) : Option (((List ((List UInt8) × (Int × (Int × ((List (Int × ((List UInt8) × Unit))) × Unit))))) × (Int × Unit)) × Int × Unit) :=
 z3d N s e x4 at_ t
 (fun x55 => cond x55
 (k0 (([] : List ((List UInt8) × (Int × (Int × ((List (Int × ((List UInt8) × Unit))) × Unit))))), ((0 : Int), ())) (3 : Int))
 (k1))

def za5 (N : Nat) (x : z2b [(2, .box (.pair (.sl (.pair .str (.pair (.int .i64) (.pair (.int .i64) (.pair (.sl (.pair (.int .i64) (.pair .str .unit))) .unit))))) (.pair (.int .i64) .unit))), (0, .box (.pair (.int .i64) (.pair .str (.pair (.int .i64) (.pair (.int .i64) (.pair .str .unit)))))), (0, .box (.pair (.sl (.pair .str (.pair (.int .i64) (.pair (.int .i64) (.pair (.sl (.pair (.int .i64) (.pair .str .unit))) .unit))))) (.pair (.int .i64) .unit))), (1, .v (.int .i64)), (0, .box (.pair .str (.pair (.int .i64) (.pair (.int .i64) (.pair (.sl (.pair (.int .i64) (.pair .str .unit))) .unit)))))]) (K : Ex -> List A -> Option (((List ((List UInt8) × (Int × (Int × ((List (Int × ((List UInt8) × Unit))) × Unit))))) × (Int × Unit)) × Int × Unit)) : Option (((List ((List UInt8) × (Int × (Int × ((List (Int × ((List UInt8) × Unit))) × Unit))))) × (Int × Unit)) × Int × Unit) :=
 z3e N x.1 x.2.1 x.2.2.1 x.2.2.2.1 x.2.2.2.2.1 (fun a0 a1 => (K .ret (mkS [(4, .box (.pair (.sl (.pair .str (.pair (.int .i64) (.pair (.int .i64) (.pair (.sl (.pair (.int .i64) (.pair .str .unit))) .unit))))) (.pair (.int .i64) .unit))), (0, .v (.int .i64))] 129 (a0, a1, ())))) (K .normal (mkS [(2, .box (.pair (.sl (.pair .str (.pair (.int .i64) (.pair (.int .i64) (.pair (.sl (.pair (.int .i64) (.pair .str .unit))) .unit))))) (.pair (.int .i64) .unit))), (0, .box (.pair (.int .i64) (.pair .str (.pair (.int .i64) (.pair (.int .i64) (.pair .str .unit)))))), (0, .box (.pair (.sl (.pair .str (.pair (.int .i64) (.pair (.int .i64) (.pair (.sl (.pair (.int .i64) (.pair .str .unit))) .unit))))) (.pair (.int .i64) .unit))), (2, .box (.pair .str (.pair (.int .i64) (.pair (.int .i64) (.pair (.sl (.pair (.int .i64) (.pair .str .unit))) .unit)))))] 127 (x.1, x.2.1, x.2.2.1, x.2.2.2.2.1, ())))

def za0 (N : Nat) : Hd (((List ((List UInt8) × (Int × (Int × ((List (Int × ((List UInt8) × Unit))) × Unit))))) × (Int × Unit)) × Int × Unit) := fun st K => (unS [(2, .box (.pair (.sl (.pair .str (.pair (.int .i64) (.pair (.int .i64) (.pair (.sl (.pair (.int .i64) (.pair .str .unit))) .unit))))) (.pair (.int .i64) .unit))), (0, .box (.pair (.int .i64) (.pair .str (.pair (.int .i64) (.pair (.int .i64) (.pair .str .unit)))))), (0, .box (.pair (.sl (.pair .str (.pair (.int .i64) (.pair (.int .i64) (.pair (.sl (.pair (.int .i64) (.pair .str .unit))) .unit))))) (.pair (.int .i64) .unit))), (1, .v (.int .i64)), (0, .box (.pair .str (.pair (.int .i64) (.pair (.int .i64) (.pair (.sl (.pair (.int .i64) (.pair .str .unit))) .unit)))))] 127 (restr [6, 2, 4, 3, 7] 0 st)).bind fun x => za5 N x K

def zje (N : Nat) : Tab (((List ((List UInt8) × (Int × (Int × ((List (Int × ((List UInt8) × Unit))) × Unit))))) × (Int × Unit)) × Int × Unit) := [([0, 0, 0, 1, 0, 1, 1, 1, 1, 1, 1, 1], z9z N)]

theorem zhi {N : Nat} {c : Ctx} (hb : Base Go.Proofs.Try.prog (z1n N) c) : zu Go.Proofs.Try.prog c (zf zw [0, 0, 1, 0, 1, 1, 1, 1, 1, 1, 1]) (za0 N) :=
  zp (s := [(2, .box (.pair (.sl (.pair .str (.pair (.int .i64) (.pair (.int .i64) (.pair (.sl (.pair (.int .i64) (.pair .str .unit))) .unit))))) (.pair (.int .i64) .unit))), (0, .box (.pair (.int .i64) (.pair .str (.pair (.int .i64) (.pair (.int .i64) (.pair .str .unit)))))), (0, .box (.pair (.sl (.pair .str (.pair (.int .i64) (.pair (.int .i64) (.pair (.sl (.pair (.int .i64) (.pair .str .unit))) .unit))))) (.pair (.int .i64) .unit))), (1, .v (.int .i64)), (0, .box (.pair .str (.pair (.int .i64) (.pair (.int .i64) (.pair (.sl (.pair (.int .i64) (.pair .str .unit))) .unit)))))]) (m := 127) (g := za5 N) [6, 2, 4, 3, 7] (z7 hb N (zje N) z1x zw (TabOk.cons (zhh hb) TabOk.nil) [0, 0, 1, 0, 1, 1, 1, 1, 1, 1, 1] _ rfl) (fun x K => by kernel_rfl)

def z3b (N : Nat) (s : ((List ((List UInt8) × (Int × (Int × ((List (Int × ((List UInt8) × Unit))) × Unit))))) × (Int × Unit))) (e : (Int × ((List UInt8) × (Int × (Int × ((List UInt8) × Unit)))))) (x4 : ((List ((List UInt8) × (Int × (Int × ((List (Int × ((List UInt8) × Unit))) × Unit))))) × (Int × Unit))) (t : ((List UInt8) × (Int × (Int × ((List (Int × ((List UInt8) × Unit))) × Unit))))) (k0 : Bool -> Option (((List ((List UInt8) × (Int × (Int × ((List (Int × ((List UInt8) × Unit))) × Unit))))) × (Int × Unit)) × Int × Unit)) : Option (((List ((List UInt8) × (Int × (Int × ((List (Int × ((List UInt8) × Unit))) × Unit))))) × (Int × Unit)) × Int × Unit) :=
 cond (decide (e.2.2.2.1 < t.2.1))
 (k0 true)
 (k0 (decide (e.2.2.1 < t.2.2.1)))

def za2 (N : Nat) (x : z2b [(2, .box (.pair (.sl (.pair .str (.pair (.int .i64) (.pair (.int .i64) (.pair (.sl (.pair (.int .i64) (.pair .str .unit))) .unit))))) (.pair (.int .i64) .unit))), (0, .box (.pair (.int .i64) (.pair .str (.pair (.int .i64) (.pair (.int .i64) (.pair .str .unit)))))), (0, .box (.pair (.sl (.pair .str (.pair (.int .i64) (.pair (.int .i64) (.pair (.sl (.pair (.int .i64) (.pair .str .unit))) .unit))))) (.pair (.int .i64) .unit))), (2, .box (.pair .str (.pair (.int .i64) (.pair (.int .i64) (.pair (.sl (.pair (.int .i64) (.pair .str .unit))) .unit)))))]) (K : Ex -> List A -> Option (((List ((List UInt8) × (Int × (Int × ((List (Int × ((List UInt8) × Unit))) × Unit))))) × (Int × Unit)) × Int × Unit)) : Option (((List ((List UInt8) × (Int × (Int × ((List (Int × ((List UInt8) × Unit))) × Unit))))) × (Int × Unit)) × Int × Unit) :=
 z3b N x.1 x.2.1 x.2.2.1 x.2.2.2.1 (fun a4 => (K .normal (mkS [(2, .box (.pair (.sl (.pair .str (.pair (.int .i64) (.pair (.int .i64) (.pair (.sl (.pair (.int .i64) (.pair .str .unit))) .unit))))) (.pair (.int .i64) .unit))), (0, .box (.pair (.int .i64) (.pair .str (.pair (.int .i64) (.pair (.int .i64) (.pair .str .unit)))))), (0, .box (.pair (.sl (.pair .str (.pair (.int .i64) (.pair (.int .i64) (.pair (.sl (.pair (.int .i64) (.pair .str .unit))) .unit))))) (.pair (.int .i64) .unit))), (2, .box (.pair .str (.pair (.int .i64) (.pair (.int .i64) (.pair (.sl (.pair (.int .i64) (.pair .str .unit))) .unit))))), (60, .v .bool)] 66 (x.1, x.2.1, x.2.2.1, x.2.2.2.1, a4, ()))))

def z9x (N : Nat) : Hd (((List ((List UInt8) × (Int × (Int × ((List (Int × ((List UInt8) × Unit))) × Unit))))) × (Int × Unit)) × Int × Unit) := fun st K => (unS [(2, .box (.pair (.sl (.pair .str (.pair (.int .i64) (.pair (.int .i64) (.pair (.sl (.pair (.int .i64) (.pair .str .unit))) .unit))))) (.pair (.int .i64) .unit))), (0, .box (.pair (.int .i64) (.pair .str (.pair (.int .i64) (.pair (.int .i64) (.pair .str .unit)))))), (0, .box (.pair (.sl (.pair .str (.pair (.int .i64) (.pair (.int .i64) (.pair (.sl (.pair (.int .i64) (.pair .str .unit))) .unit))))) (.pair (.int .i64) .unit))), (2, .box (.pair .str (.pair (.int .i64) (.pair (.int .i64) (.pair (.sl (.pair (.int .i64) (.pair .str .unit))) .unit)))))] 127 (restr [3, 7, 4, 2] 0 st)).bind fun x => za2 N x K

def zjb (N : Nat) : Tab (((List ((List UInt8) × (Int × (Int × ((List (Int × ((List UInt8) × Unit))) × Unit))))) × (Int × Unit)) × Int × Unit) := []

theorem zhf {N : Nat} {c : Ctx} (hb : Base Go.Proofs.Try.prog (z1n N) c) : zu Go.Proofs.Try.prog c (zf zw [0, 0, 1, 0, 1, 0, 1, 1, 1, 1, 1, 1, 1]) (z9x N) :=
  zp (s := [(2, .box (.pair (.sl (.pair .str (.pair (.int .i64) (.pair (.int .i64) (.pair (.sl (.pair (.int .i64) (.pair .str .unit))) .unit))))) (.pair (.int .i64) .unit))), (0, .box (.pair (.int .i64) (.pair .str (.pair (.int .i64) (.pair (.int .i64) (.pair .str .unit)))))), (0, .box (.pair (.sl (.pair .str (.pair (.int .i64) (.pair (.int .i64) (.pair (.sl (.pair (.int .i64) (.pair .str .unit))) .unit))))) (.pair (.int .i64) .unit))), (2, .box (.pair .str (.pair (.int .i64) (.pair (.int .i64) (.pair (.sl (.pair (.int .i64) (.pair .str .unit))) .unit)))))]) (m := 127) (g := za2 N) [3, 7, 4, 2] (z7 hb N (zjb N) z1x zw TabOk.nil [0, 0, 1, 0, 1, 0, 1, 1, 1, 1, 1, 1, 1] _ rfl) (fun x K => by kernel_rfl)

def z3c (N : Nat) (s : ((List ((List UInt8) × (Int × (Int × ((List (Int × ((List UInt8) × Unit))) × Unit))))) × (Int × Unit))) (e : (Int × ((List UInt8) × (Int × (Int × ((List UInt8) × Unit)))))) (x4 : ((List ((List UInt8) × (Int × (Int × ((List (Int × ((List UInt8) × Unit))) × Unit))))) × (Int × Unit))) (t : ((List UInt8) × (Int × (Int × ((List (Int × ((List UInt8) × Unit))) × Unit))))) (k0 : ((List ((List UInt8) × (Int × (Int × ((List (Int × ((List UInt8) × Unit))) × Unit))))) × (Int × Unit)) -> Int -> Option (((List ((List UInt8) × (Int × (Int × ((List (Int × ((List UInt8) × Unit))) × Unit))))) × (Int × Unit)) × Int × Unit)) (k1 : Option (((List ((List UInt8) × (Int × (Int × ((List (Int × ((List UInt8) × Unit))) × Unit))))) × (Int × Unit)) × Int × Unit)) : Option (((List ((List UInt8) × (Int × (Int × ((List (Int × ((List UInt8) × Unit))) × Unit))))) × (Int × Unit)) × Int × Unit) :=
 z3b N s e x4 t
 (fun x68 => cond x68
 (k0 (([] : List ((List UInt8) × (Int × (Int × ((List (Int × ((List UInt8) × Unit))) × Unit))))), ((0 : Int), ())) (7 : Int))
 (k1))

def za3 (N : Nat) (x : z2b [(2, .box (.pair (.sl (.pair .str (.pair (.int .i64) (.pair (.int .i64) (.pair (.sl (.pair (.int .i64) (.pair .str .unit))) .unit))))) (.pair (.int .i64) .unit))), (0, .box (.pair (.int .i64) (.pair .str (.pair (.int .i64) (.pair (.int .i64) (.pair .str .unit)))))), (0, .box (.pair (.sl (.pair .str (.pair (.int .i64) (.pair (.int .i64) (.pair (.sl (.pair (.int .i64) (.pair .str .unit))) .unit))))) (.pair (.int .i64) .unit))), (2, .box (.pair .str (.pair (.int .i64) (.pair (.int .i64) (.pair (.sl (.pair (.int .i64) (.pair .str .unit))) .unit)))))]) (K : Ex -> List A -> Option (((List ((List UInt8) × (Int × (Int × ((List (Int × ((List UInt8) × Unit))) × Unit))))) × (Int × Unit)) × Int × Unit)) : Option (((List ((List UInt8) × (Int × (Int × ((List (Int × ((List UInt8) × Unit))) × Unit))))) × (Int × Unit)) × Int × Unit) :=
 z3c N x.1 x.2.1 x.2.2.1 x.2.2.2.1 (fun a0 a1 => (K .ret (mkS [(4, .box (.pair (.sl (.pair .str (.pair (.int .i64) (.pair (.int .i64) (.pair (.sl (.pair (.int .i64) (.pair .str .unit))) .unit))))) (.pair (.int .i64) .unit))), (0, .v (.int .i64))] 129 (a0, a1, ())))) (K .normal (mkS [(2, .box (.pair (.sl (.pair .str (.pair (.int .i64) (.pair (.int .i64) (.pair (.sl (.pair (.int .i64) (.pair .str .unit))) .unit))))) (.pair (.int .i64) .unit))), (0, .box (.pair (.int .i64) (.pair .str (.pair (.int .i64) (.pair (.int .i64) (.pair .str .unit)))))), (0, .box (.pair (.sl (.pair .str (.pair (.int .i64) (.pair (.int .i64) (.pair (.sl (.pair (.int .i64) (.pair .str .unit))) .unit))))) (.pair (.int .i64) .unit))), (2, .box (.pair .str (.pair (.int .i64) (.pair (.int .i64) (.pair (.sl (.pair (.int .i64) (.pair .str .unit))) .unit)))))] 127 (x.1, x.2.1, x.2.2.1, x.2.2.2.1, ())))

def z9y (N : Nat) : Hd (((List ((List UInt8) × (Int × (Int × ((List (Int × ((List UInt8) × Unit))) × Unit))))) × (Int × Unit)) × Int × Unit) := fun st K => (unS [(2, .box (.pair (.sl (.pair .str (.pair (.int .i64) (.pair (.int .i64) (.pair (.sl (.pair (.int .i64) (.pair .str .unit))) .unit))))) (.pair (.int .i64) .unit))), (0, .box (.pair (.int .i64) (.pair .str (.pair (.int .i64) (.pair (.int .i64) (.pair .str .unit)))))), (0, .box (.pair (.sl (.pair .str (.pair (.int .i64) (.pair (.int .i64) (.pair (.sl (.pair (.int .i64) (.pair .str .unit))) .unit))))) (.pair (.int .i64) .unit))), (2, .box (.pair .str (.pair (.int .i64) (.pair (.int .i64) (.pair (.sl (.pair (.int .i64) (.pair .str .unit))) .unit)))))] 127 (restr [3, 7, 4, 2] 0 st)).bind fun x => za3 N x K

def zjc (N : Nat) : Tab (((List ((List UInt8) × (Int × (Int × ((List (Int × ((List UInt8) × Unit))) × Unit))))) × (Int × Unit)) × Int × Unit) := [([0, 0, 1, 0, 1, 0, 1, 1, 1, 1, 1, 1, 1], z9x N)]

theorem zhg {N : Nat} {c : Ctx} (hb : Base Go.Proofs.Try.prog (z1n N) c) : zu Go.Proofs.Try.prog c (zf zw [0, 1, 0, 1, 0, 1, 1, 1, 1, 1, 1, 1]) (z9y N) :=
  zp (s := [(2, .box (.pair (.sl (.pair .str (.pair (.int .i64) (.pair (.int .i64) (.pair (.sl (.pair (.int .i64) (.pair .str .unit))) .unit))))) (.pair (.int .i64) .unit))), (0, .box (.pair (.int .i64) (.pair .str (.pair (.int .i64) (.pair (.int .i64) (.pair .str .unit)))))), (0, .box (.pair (.sl (.pair .str (.pair (.int .i64) (.pair (.int .i64) (.pair (.sl (.pair (.int .i64) (.pair .str .unit))) .unit))))) (.pair (.int .i64) .unit))), (2, .box (.pair .str (.pair (.int .i64) (.pair (.int .i64) (.pair (.sl (.pair (.int .i64) (.pair .str .unit))) .unit)))))]) (m := 127) (g := za3 N) [3, 7, 4, 2] (z7 hb N (zjc N) z1x zw (TabOk.cons (zhf hb) TabOk.nil) [0, 1, 0, 1, 0, 1, 1, 1, 1, 1, 1, 1] _ rfl) (fun x K => by kernel_rfl)

def z3i (N : Nat) (s : ((List ((List UInt8) × (Int × (Int × ((List (Int × ((List UInt8) × Unit))) × Unit))))) × (Int × Unit))) (e : (Int × ((List UInt8) × (Int × (Int × ((List UInt8) × Unit)))))) : Option (((List ((List UInt8) × (Int × (Int × ((List (Int × ((List UInt8) × Unit))) × Unit))))) × (Int × Unit)) × Int × Unit) :=
 (z2x N s).bind fun y =>
 cond (!y)
 (some ((([] : List ((List UInt8) × (Int × (Int × ((List (Int × ((List UInt8) × Unit))) × Unit))))), ((0 : Int), ())), ((7 : Int), ())))
 ((z49 N e).bind fun y1 =>
 cond (!y1)
 (some ((([] : List ((List UInt8) × (Int × (Int × ((List (Int × ((List UInt8) × Unit))) × Unit))))), ((0 : Int), ())), ((2 : Int), ())))
 (cond (e.1 == (4 : Int))
 (cond (decide (e.2.2.1 < s.2.1))
 (some ((([] : List ((List UInt8) × (Int × (Int × ((List (Int × ((List UInt8) × Unit))) × Unit))))), ((0 : Int), ())), ((7 : Int), ())))
 (some ((s.1, (e.2.2.1, ())), ((0 : Int), ()))))
 ((z2d N s e.2.1).bind fun y2 =>
 z5n N s e (([] : List ((List UInt8) × (Int × (Int × ((List (Int × ((List UInt8) × Unit))) × Unit))))), ((0 : Int), ())) y2 (e.2.1, ((0 : Int), ((0 : Int), (([] : List (Int × ((List UInt8) × Unit))), ()))))
 (fun t => cond (e.1 == (1 : Int))
 (z3e N s e (([] : List ((List UInt8) × (Int × (Int × ((List (Int × ((List UInt8) × Unit))) × Unit))))), ((0 : Int), ())) y2 t
 (fun x4 x5 => some (x4, (x5, ())))
 (z3c N s e (([] : List ((List UInt8) × (Int × (Int × ((List (Int × ((List UInt8) × Unit))) × Unit))))), ((0 : Int), ())) t
 (fun x41 x51 => some (x41, (x51, ())))
 ((z2k N s (t.1, (e.2.2.2.1, (e.2.2.1, t.2.2.2)))).bind fun y3 =>
 some (y3, ((0 : Int), ())))))
 (cond (decide (y2 < (0 : Int)))
 (some ((([] : List ((List UInt8) × (Int × (Int × ((List (Int × ((List UInt8) × Unit))) × Unit))))), ((0 : Int), ())), ((6 : Int), ())))
 ((z3h N t.2.2.2.1 e.2.2.1).bind fun y4 =>
 cond (e.1 == (3 : Int))
 (cond (decide (y4 < (0 : Int)))
 (some ((([] : List ((List UInt8) × (Int × (Int × ((List (Int × ((List UInt8) × Unit))) × Unit))))), ((0 : Int), ())), ((6 : Int), ())))
 (cond (decide (((0 : Int) <= y4) /\ (y4 <= (((List.length t.2.2.2.1) : Nat) : Int))))
 (cond (decide (((0 + (List.length (Go.Lift.cut t.2.2.2.1 0 (Int.toNat y4)))) * 24) <= 70368744177664))
 (cond (decide (((0 : Int) <= (Go.IntKind.wrap Go.IntKind.i64 (y4 + (1 : Int)))) /\ ((Go.IntKind.wrap Go.IntKind.i64 (y4 + (1 : Int))) <= (((List.length t.2.2.2.1) : Nat) : Int))))
 (cond (decide ((((List.length (([] : List (Int × ((List UInt8) × Unit))) ++ (Go.Lift.cut t.2.2.2.1 0 (Int.toNat y4)))) + (List.length (Go.Lift.cut t.2.2.2.1 (Int.toNat (Go.IntKind.wrap Go.IntKind.i64 (y4 + (1 : Int)))) (List.length t.2.2.2.1)))) * 24) <= 70368744177664))
 ((z2k N s (t.1, (t.2.1, (t.2.2.1, (((([] : List (Int × ((List UInt8) × Unit))) ++ (Go.Lift.cut t.2.2.2.1 0 (Int.toNat y4))) ++ (Go.Lift.cut t.2.2.2.1 (Int.toNat (Go.IntKind.wrap Go.IntKind.i64 (y4 + (1 : Int)))) (List.length t.2.2.2.1))), t.2.2.2.2))))).bind fun y5 =>
 some (y5, ((0 : Int), ())))
 (none))
 (none))
 (none))
 (none)))
 (cond (decide (t.2.2.1 <= e.2.2.1))
 (some ((([] : List ((List UInt8) × (Int × (Int × ((List (Int × ((List UInt8) × Unit))) × Unit))))), ((0 : Int), ())), ((7 : Int), ())))
 (cond (decide ((0 : Int) <= y4))
 (some ((([] : List ((List UInt8) × (Int × (Int × ((List (Int × ((List UInt8) × Unit))) × Unit))))), ((0 : Int), ())), ((5 : Int), ())))
 (cond ((((List.length t.2.2.2.1) : Nat) : Int) == (8 : Int))
 (some ((([] : List ((List UInt8) × (Int × (Int × ((List (Int × ((List UInt8) × Unit))) × Unit))))), ((0 : Int), ())), ((3 : Int), ())))
 ((z48 N t.2.2.2.1 (e.2.2.1, (e.2.2.2.2.1, ()))).bind fun y6 =>
 (z2k N s (t.1, (t.2.1, (t.2.2.1, (y6, t.2.2.2.2))))).bind fun y7 =>
 some (y7, ((0 : Int), ()))))))))))))

def zbf (N : Nat) : Tab (((List ((List UInt8) × (Int × (Int × ((List (Int × ((List UInt8) × Unit))) × Unit))))) × (Int × Unit)) × Int × Unit) := [([0, 1, 1, 1, 1, 1, 1], za1 N), ([0, 0, 1, 0, 1, 1, 1, 1, 1, 1, 1], za0 N), ([0, 1, 0, 1, 0, 1, 1, 1, 1, 1, 1, 1], z9y N)]

theorem zgb (N : Nat) (x : z2b [(0, .v (.pair (.sl (.pair .str (.pair (.int .i64) (.pair (.int .i64) (.pair (.sl (.pair (.int .i64) (.pair .str .unit))) .unit))))) (.pair (.int .i64) .unit))), (0, .v (.pair (.int .i64) (.pair .str (.pair (.int .i64) (.pair (.int .i64) (.pair .str .unit))))))]) : zej (z1n N) N (zbf N) z1x Go.Proofs.Try.f9 (mkS [(0, .v (.pair (.sl (.pair .str (.pair (.int .i64) (.pair (.int .i64) (.pair (.sl (.pair (.int .i64) (.pair .str .unit))) .unit))))) (.pair (.int .i64) .unit))), (0, .v (.pair (.int .i64) (.pair .str (.pair (.int .i64) (.pair (.int .i64) (.pair .str .unit))))))] 0 x) (z5b (.tup [(.pair (.sl (.pair .str (.pair (.int .i64) (.pair (.int .i64) (.pair (.sl (.pair (.int .i64) (.pair .str .unit))) .unit))))) (.pair (.int .i64) .unit)), (.int .i64)]) 2) = z3i N x.1 x.2.1 := by kernel_rfl

def z8s (N : Nat) : List A -> Res := z2r [(0, .v (.pair (.sl (.pair .str (.pair (.int .i64) (.pair (.int .i64) (.pair (.sl (.pair (.int .i64) (.pair .str .unit))) .unit))))) (.pair (.int .i64) .unit))), (0, .v (.pair (.int .i64) (.pair .str (.pair (.int .i64) (.pair (.int .i64) (.pair .str .unit))))))] (fun x => z3i N x.1 x.2.1) (zfe (.tup [(.pair (.sl (.pair .str (.pair (.int .i64) (.pair (.int .i64) (.pair (.sl (.pair (.int .i64) (.pair .str .unit))) .unit))))) (.pair (.int .i64) .unit)), (.int .i64)]) 2)

theorem zjg (N : Nat) : Contract Go.Proofs.Try.prog z10 9 (z8s N) :=
  Contract.of (E := z1n N) (H := zbf N) (L := z1x) (N := N) (body := zw) (K := (z5b (.tup [(.pair (.sl (.pair .str (.pair (.int .i64) (.pair (.int .i64) (.pair (.sl (.pair (.int .i64) (.pair .str .unit))) .unit))))) (.pair (.int .i64) .unit)), (.int .i64)]) 2)) (zhk N) Go.Proofs.Try.func9 (by kernel_rfl) (by decide) (fun _ hb => (TabOk.cons (zhj hb) (TabOk.cons (zhi hb) (TabOk.cons (zhg hb) TabOk.nil)))) (fun x y h => by rw [zgb]; exact h) (z1q (s := (.tup [(.pair (.sl (.pair .str (.pair (.int .i64) (.pair (.int .i64) (.pair (.sl (.pair (.int .i64) (.pair .str .unit))) .unit))))) (.pair (.int .i64) .unit)), (.int .i64)])) (m := 2))

def z5o : Code := (Go.Proofs.Try.f16.body).getD .skip

def z8g : List (List Nat × List Nat) := [([0], [2, 4, 1]), ([0, 0, 1], [11, 4, 1, 2]), ([1, 0, 1], [1, 2, 4]), ([0, 0, 1, 0, 1], [4, 5]), ([1, 0, 1, 0, 1], [4, 5]), ([0, 0, 1, 1], [6, 1, 2, 4]), ([0, 1, 0, 1, 1], [6, 1, 2, 4]), ([0, 0, 0, 0, 1, 0, 1, 1], [16, 2, 1, 6, 4]), ([1, 0, 0, 0, 1, 0, 1, 1], [2, 1, 6, 4]), ([1, 1, 0, 0, 0, 1, 0, 1, 1], [2, 4]), ([0, 0, 0, 1, 0, 0, 1, 0, 1, 1], [8, 4, 7, 2, 6, 1]), ([0, 0, 1, 0, 0, 1, 0, 0, 1, 0, 1, 1], [29, 8, 4, 7, 2, 6, 1]), ([1, 0, 1, 0, 0, 1, 0, 0, 1, 0, 1, 1], [7, 2, 6, 1, 4]), ([0, 0, 1, 0, 1, 0, 0, 1, 0, 0, 1, 0, 1, 1], [4, 5]), ([1, 0, 1, 0, 1, 0, 0, 1, 0, 0, 1, 0, 1, 1], [4, 5]), ([1, 1, 0, 0, 1, 0, 0, 1, 0, 1, 1], [6, 1, 2, 4]), ([0, 1, 0, 0, 1, 0, 1, 1], [6, 1, 2, 4]), ([1, 1, 0, 0, 1, 0, 1, 1], [6, 1, 2, 4]), ([1, 0, 1, 1], [2, 4]), ([0, 1, 1, 1], [4, 5]), ([1, 1, 1, 1], [4, 5])]

def z56 (N : Nat) : Env := z4w tys z10 [(9, z8s N), (11, z4p N)] [] [] [] false [] []

theorem zl8 (N : Nat) : EnvOk Go.Proofs.Try.prog (z56 N) := z1e mixed z2n (FnsOk.cons (zjg N) (FnsOk.cons (z9u N) (FnsOk.nil))) (ItsOk.nil)

def z77 (N : Nat) (l : (List (Int × ((List UInt8) × (Int × (Int × ((List UInt8) × Unit))))))) (x4 : ((List ((List UInt8) × (Int × (Int × ((List (Int × ((List UInt8) × Unit))) × Unit))))) × (Int × Unit))) (s : ((List ((List UInt8) × (Int × (Int × ((List (Int × ((List UInt8) × Unit))) × Unit))))) × (Int × Unit))) (i : Int) (rec : ((List ((List UInt8) × (Int × (Int × ((List (Int × ((List UInt8) × Unit))) × Unit))))) × (Int × Unit)) -> Int -> Option (((List ((List UInt8) × (Int × (Int × ((List (Int × ((List UInt8) × Unit))) × Unit))))) × (Int × Unit)) × Int × Unit)) (k0 : ((List ((List UInt8) × (Int × (Int × ((List (Int × ((List UInt8) × Unit))) × Unit))))) × (Int × Unit)) -> Int -> Option (((List ((List UInt8) × (Int × (Int × ((List (Int × ((List UInt8) × Unit))) × Unit))))) × (Int × Unit)) × Int × Unit)) (k1 : ((List ((List UInt8) × (Int × (Int × ((List (Int × ((List UInt8) × Unit))) × Unit))))) × (Int × Unit)) -> Option (((List ((List UInt8) × (Int × (Int × ((List (Int × ((List UInt8) × Unit))) × Unit))))) × (Int × Unit)) × Int × Unit)) : Option (((List ((List UInt8) × (Int × (Int × ((List (Int × ((List UInt8) × Unit))) × Unit))))) × (Int × Unit)) × Int × Unit) :=
 cond (decide (i < (((List.length l) : Nat) : Int)))
 (cond (Go.Lift.inR i (List.length l))
 ((z3i N s (List.getD l (Int.toNat i) ((0 : Int), (([] : List UInt8), ((0 : Int), ((0 : Int), (([] : List UInt8), ()))))))).bind fun y =>
 cond (y.2.1 != (0 : Int))
 (k0 (([] : List ((List UInt8) × (Int × (Int × ((List (Int × ((List UInt8) × Unit))) × Unit))))), ((0 : Int), ())) y.2.1)
 (rec y.1 (Go.IntKind.wrap Go.IntKind.i64 (i + (1 : Int)))))
 (none))
 (k1 s)

def zcw (N : Nat) (l : (List (Int × ((List UInt8) × (Int × (Int × ((List UInt8) × Unit))))))) (s : ((List ((List UInt8) × (Int × (Int × ((List (Int × ((List UInt8) × Unit))) × Unit))))) × (Int × Unit))) (x4 : ((List ((List UInt8) × (Int × (Int × ((List (Int × ((List UInt8) × Unit))) × Unit))))) × (Int × Unit))) (i : Int) (k0 : ((List ((List UInt8) × (Int × (Int × ((List (Int × ((List UInt8) × Unit))) × Unit))))) × (Int × Unit)) -> Int -> Option (((List ((List UInt8) × (Int × (Int × ((List (Int × ((List UInt8) × Unit))) × Unit))))) × (Int × Unit)) × Int × Unit)) (k1 : ((List ((List UInt8) × (Int × (Int × ((List (Int × ((List UInt8) × Unit))) × Unit))))) × (Int × Unit)) -> Option (((List ((List UInt8) × (Int × (Int × ((List (Int × ((List UInt8) × Unit))) × Unit))))) × (Int × Unit)) × Int × Unit)) : Option (((List ((List UInt8) × (Int × (Int × ((List (Int × ((List UInt8) × Unit))) × Unit))))) × (Int × Unit)) × Int × Unit) :=
 iter (fun (v : (((List ((List UInt8) × (Int × (Int × ((List (Int × ((List UInt8) × Unit))) × Unit))))) × (Int × Unit)) × Int)) r => z77 N l x4 v.1 v.2 (fun s i => (r (s, i))) k0 k1) N (s, i)

def zcy (N : Nat) (i : ((List (Int × ((List UInt8) × (Int × (Int × ((List UInt8) × Unit)))))) × ((List ((List UInt8) × (Int × (Int × ((List (Int × ((List UInt8) × Unit))) × Unit))))) × (Int × Unit)))) (v : (((List ((List UInt8) × (Int × (Int × ((List (Int × ((List UInt8) × Unit))) × Unit))))) × (Int × Unit)) × Int)) (r : (((List ((List UInt8) × (Int × (Int × ((List (Int × ((List UInt8) × Unit))) × Unit))))) × (Int × Unit)) × Int) -> Option (((List ((List UInt8) × (Int × (Int × ((List (Int × ((List UInt8) × Unit))) × Unit))))) × (Int × Unit)) × Int × Unit)) (K : Ex -> List A -> Option (((List ((List UInt8) × (Int × (Int × ((List (Int × ((List UInt8) × Unit))) × Unit))))) × (Int × Unit)) × Int × Unit)) : Option (((List ((List UInt8) × (Int × (Int × ((List (Int × ((List UInt8) × Unit))) × Unit))))) × (Int × Unit)) × Int × Unit) :=
 z77 N i.1 i.2 v.1 v.2 (fun s i => (r (s, i))) (fun a0 a1 => (K .ret (mkS [(4, .box (.pair (.sl (.pair .str (.pair (.int .i64) (.pair (.int .i64) (.pair (.sl (.pair (.int .i64) (.pair .str .unit))) .unit))))) (.pair (.int .i64) .unit))), (0, .v (.int .i64))] 28 (a0, a1, ())))) (fun a0 => (K (.exit 0) (mkS [(2, .box (.pair (.sl (.pair .str (.pair (.int .i64) (.pair (.int .i64) (.pair (.sl (.pair (.int .i64) (.pair .str .unit))) .unit))))) (.pair (.int .i64) .unit))), (1, .box (.pair (.sl (.pair .str (.pair (.int .i64) (.pair (.int .i64) (.pair (.sl (.pair (.int .i64) (.pair .str .unit))) .unit))))) (.pair (.int .i64) .unit)))] 29 (a0, i.2, ()))))

def zcx (N : Nat) : Hd (((List ((List UInt8) × (Int × (Int × ((List (Int × ((List UInt8) × Unit))) × Unit))))) × (Int × Unit)) × Int × Unit) := fun st K => (unS [(1, .v (.sl (.pair (.int .i64) (.pair .str (.pair (.int .i64) (.pair (.int .i64) (.pair .str .unit))))))), (0, .box (.pair (.sl (.pair .str (.pair (.int .i64) (.pair (.int .i64) (.pair (.sl (.pair (.int .i64) (.pair .str .unit))) .unit))))) (.pair (.int .i64) .unit))), (1, .box (.pair (.sl (.pair .str (.pair (.int .i64) (.pair (.int .i64) (.pair (.sl (.pair (.int .i64) (.pair .str .unit))) .unit))))) (.pair (.int .i64) .unit))), (1, .v (.int .i64))] 27 (restr [6, 1, 2, 4] 0 st)).bind fun x => iter (fun v r => zcy N ((fun x => (x.1, x.2.2.1)) x) v r K) N ((fun x => (x.2.1, x.2.2.2.1)) x)

def zmn (N : Nat) : Tab (((List ((List UInt8) × (Int × (Int × ((List (Int × ((List UInt8) × Unit))) × Unit))))) × (Int × Unit)) × Int × Unit) := []

theorem zl7 {N : Nat} {c : Ctx} (hb : Base Go.Proofs.Try.prog (z56 N) c) : zu Go.Proofs.Try.prog c (zf z5o [0, 1, 0, 1, 1]) (zcx N) :=
  z4x (s := [(1, .v (.sl (.pair (.int .i64) (.pair .str (.pair (.int .i64) (.pair (.int .i64) (.pair .str .unit))))))), (0, .box (.pair (.sl (.pair .str (.pair (.int .i64) (.pair (.int .i64) (.pair (.sl (.pair (.int .i64) (.pair .str .unit))) .unit))))) (.pair (.int .i64) .unit))), (1, .box (.pair (.sl (.pair .str (.pair (.int .i64) (.pair (.int .i64) (.pair (.sl (.pair (.int .i64) (.pair .str .unit))) .unit))))) (.pair (.int .i64) .unit))), (1, .v (.int .i64))]) (m := 27) (zcy N) [6, 1, 2, 4] N (fun x => (x.1, x.2.2.1)) (fun x => (x.2.1, x.2.2.2.1)) (fun i v => (i.1, v.1, i.2, v.2, ())) (fun _ => rfl) (z7 hb N (zmn N) z8g z5o TabOk.nil [0, 0, 1, 0, 1, 1] _ rfl) (fun i v r K => by kernel_rfl)

def z4u (N : Nat) (s : ((List ((List UInt8) × (Int × (Int × ((List (Int × ((List UInt8) × Unit))) × Unit))))) × (Int × Unit))) (l : (List (Int × ((List UInt8) × (Int × (Int × ((List UInt8) × Unit))))))) : Option (((List ((List UInt8) × (Int × (Int × ((List (Int × ((List UInt8) × Unit))) × Unit))))) × (Int × Unit)) × Int × Unit) :=
 (z2x N s).bind fun y =>
 cond (!y)
 (some ((([] : List ((List UInt8) × (Int × (Int × ((List (Int × ((List UInt8) × Unit))) × Unit))))), ((0 : Int), ())), ((7 : Int), ())))
 (zcw N l s (([] : List ((List UInt8) × (Int × (Int × ((List (Int × ((List UInt8) × Unit))) × Unit))))), ((0 : Int), ())) (0 : Int)
 (fun x4 x5 => some (x4, (x5, ())))
 (fun s1 => some (s1, ((0 : Int), ()))))

def zdy (N : Nat) : Tab (((List ((List UInt8) × (Int × (Int × ((List (Int × ((List UInt8) × Unit))) × Unit))))) × (Int × Unit)) × Int × Unit) := [([0, 1, 0, 1, 1], zcx N)]

theorem zjh (N : Nat) (x : z2b [(0, .v (.pair (.sl (.pair .str (.pair (.int .i64) (.pair (.int .i64) (.pair (.sl (.pair (.int .i64) (.pair .str .unit))) .unit))))) (.pair (.int .i64) .unit))), (0, .v (.sl (.pair (.int .i64) (.pair .str (.pair (.int .i64) (.pair (.int .i64) (.pair .str .unit)))))))]) : zej (z56 N) N (zdy N) z8g Go.Proofs.Try.f16 (mkS [(0, .v (.pair (.sl (.pair .str (.pair (.int .i64) (.pair (.int .i64) (.pair (.sl (.pair (.int .i64) (.pair .str .unit))) .unit))))) (.pair (.int .i64) .unit))), (0, .v (.sl (.pair (.int .i64) (.pair .str (.pair (.int .i64) (.pair (.int .i64) (.pair .str .unit)))))))] 0 x) (z5b (.tup [(.pair (.sl (.pair .str (.pair (.int .i64) (.pair (.int .i64) (.pair (.sl (.pair (.int .i64) (.pair .str .unit))) .unit))))) (.pair (.int .i64) .unit)), (.int .i64)]) 2) = z4u N x.1 x.2.1 := by kernel_rfl

def zbg (N : Nat) : List A -> Res := z2r [(0, .v (.pair (.sl (.pair .str (.pair (.int .i64) (.pair (.int .i64) (.pair (.sl (.pair (.int .i64) (.pair .str .unit))) .unit))))) (.pair (.int .i64) .unit))), (0, .v (.sl (.pair (.int .i64) (.pair .str (.pair (.int .i64) (.pair (.int .i64) (.pair .str .unit)))))))] (fun x => z4u N x.1 x.2.1) (zfe (.tup [(.pair (.sl (.pair .str (.pair (.int .i64) (.pair (.int .i64) (.pair (.sl (.pair (.int .i64) (.pair .str .unit))) .unit))))) (.pair (.int .i64) .unit)), (.int .i64)]) 2)

theorem zmo (N : Nat) : Contract Go.Proofs.Try.prog z10 16 (zbg N) :=
  Contract.of (E := z56 N) (H := zdy N) (L := z8g) (N := N) (body := z5o) (K := (z5b (.tup [(.pair (.sl (.pair .str (.pair (.int .i64) (.pair (.int .i64) (.pair (.sl (.pair (.int .i64) (.pair .str .unit))) .unit))))) (.pair (.int .i64) .unit)), (.int .i64)]) 2)) (zl8 N) Go.Proofs.Try.func16 (by kernel_rfl) (by decide) (fun _ hb => (TabOk.cons (zl7 hb) TabOk.nil)) (fun x y h => by rw [zjh]; exact h) (z1q (s := (.tup [(.pair (.sl (.pair .str (.pair (.int .i64) (.pair (.int .i64) (.pair (.sl (.pair (.int .i64) (.pair .str .unit))) .unit))))) (.pair (.int .i64) .unit)), (.int .i64)])) (m := 2))

def zj5 : Code := (Go.Proofs.Try.f18.body).getD .skip

def zdx : List (List Nat × List Nat) := [([0], [3, 1, 2]), ([0, 1], [8, 3, 2]), ([0, 0, 1, 1], [14, 3, 8, 2]), ([1, 0, 1, 1], [3, 8, 2]), ([0, 0, 1, 0, 1, 1], [6, 7]), ([1, 0, 1, 0, 1, 1], [6, 7]), ([0, 1, 1, 1], [9, 3, 8]), ([0, 0, 1, 1, 1, 1], [24, 3, 8, 9]), ([1, 0, 1, 1, 1, 1], [3, 8, 9]), ([0, 0, 1, 0, 1, 1, 1, 1], [6, 7]), ([1, 0, 1, 0, 1, 1, 1, 1], [6, 7]), ([0, 1, 1, 1, 1, 1], [6, 7]), ([1, 1, 1, 1, 1, 1], [6, 7])]

def z8f (N : Nat) : Env := z4w tys z10 [(26, z66 N), (22, z2t N)] [] [] [] false [] []

theorem zl2 (N : Nat) : EnvOk Go.Proofs.Try.prog (z8f N) := z1e mixed z2n (FnsOk.cons (zct N) (FnsOk.cons (z3u N) (FnsOk.nil))) (ItsOk.nil)

def z4s (N : Nat) (s : ((List ((List UInt8) × (Int × (Int × ((List (Int × ((List UInt8) × Unit))) × Unit))))) × (Int × Unit))) (tenant : (List UInt8)) (num : Int) : Option ((List UInt8) × Bool × Unit) :=
 (z2d N s tenant).bind fun y =>
 cond (decide (y < (0 : Int)))
 (some (([] : List UInt8), (false, ())))
 (cond (Go.Lift.inR y (List.length s.1))
 ((z3h N (List.getD s.1 (Int.toNat y) (([] : List UInt8), ((0 : Int), ((0 : Int), (([] : List (Int × ((List UInt8) × Unit))), ()))))).2.2.2.1 num).bind fun y1 =>
 cond (decide (y1 < (0 : Int)))
 (some (([] : List UInt8), (false, ())))
 (cond (Go.Lift.inR y (List.length s.1))
 (cond (Go.Lift.inR y1 (List.length (List.getD s.1 (Int.toNat y) (([] : List UInt8), ((0 : Int), ((0 : Int), (([] : List (Int × ((List UInt8) × Unit))), ()))))).2.2.2.1))
 (some ((List.getD (List.getD s.1 (Int.toNat y) (([] : List UInt8), ((0 : Int), ((0 : Int), (([] : List (Int × ((List UInt8) × Unit))), ()))))).2.2.2.1 (Int.toNat y1) ((0 : Int), (([] : List UInt8), ()))).2.1, (true, ())))
 (none))
 (none)))
 (none))

def zdw (N : Nat) : Tab ((List UInt8) × Bool × Unit) := []

theorem zj4 (N : Nat) (x : z2b [(0, .v (.pair (.sl (.pair .str (.pair (.int .i64) (.pair (.int .i64) (.pair (.sl (.pair (.int .i64) (.pair .str .unit))) .unit))))) (.pair (.int .i64) .unit))), (0, .v .str), (0, .v (.int .i64))]) : zej (z8f N) N (zdw N) zdx Go.Proofs.Try.f18 (mkS [(0, .v (.pair (.sl (.pair .str (.pair (.int .i64) (.pair (.int .i64) (.pair (.sl (.pair (.int .i64) (.pair .str .unit))) .unit))))) (.pair (.int .i64) .unit))), (0, .v .str), (0, .v (.int .i64))] 0 x) (z5b (.tup [.str, .bool]) 3) = z4s N x.1 x.2.1 x.2.2.1 := by kernel_rfl

def zb7 (N : Nat) : List A -> Res := z2r [(0, .v (.pair (.sl (.pair .str (.pair (.int .i64) (.pair (.int .i64) (.pair (.sl (.pair (.int .i64) (.pair .str .unit))) .unit))))) (.pair (.int .i64) .unit))), (0, .v .str), (0, .v (.int .i64))] (fun x => z4s N x.1 x.2.1 x.2.2.1) (zfe (.tup [.str, .bool]) 3)

theorem zmm (N : Nat) : Contract Go.Proofs.Try.prog z10 18 (zb7 N) :=
  Contract.of (E := z8f N) (H := zdw N) (L := zdx) (N := N) (body := zj5) (K := (z5b (.tup [.str, .bool]) 3)) (zl2 N) Go.Proofs.Try.func18 (by kernel_rfl) (by decide) (fun _ hb => TabOk.nil) (fun x y h => by rw [zj4]; exact h) (z1q (s := (.tup [.str, .bool])) (m := 3))

def z26 : Code := (Go.Proofs.Try.f20.body).getD .skip

def z3a : List (List Nat × List Nat) := [([0], [2, 1, 4]), ([0, 1], [6, 2, 4]), ([0, 0, 1, 1], [21, 4, 2, 6]), ([1, 0, 1, 1], [2, 6, 4]), ([0, 0, 1, 0, 1, 1], [4, 5]), ([1, 0, 1, 0, 1, 1], [4, 5]), ([0, 1, 1, 1], [4, 5]), ([1, 1, 1, 1], [4, 5])]

def z2s (N : Nat) : Env := z4w tys z10 [(22, z2t N)] [] [] [] false [] []

theorem zga (N : Nat) : EnvOk Go.Proofs.Try.prog (z2s N) := z1e mixed z2n (FnsOk.cons (z3u N) (FnsOk.nil)) (ItsOk.nil)

def z4q (N : Nat) (s : ((List ((List UInt8) × (Int × (Int × ((List (Int × ((List UInt8) × Unit))) × Unit))))) × (Int × Unit))) (x4 : (Int × ((List UInt8) × Unit))) (i : Int) (k0 : Bool -> Option ((Int × ((List UInt8) × Unit)) × Bool × Unit)) : Option ((Int × ((List UInt8) × Unit)) × Bool × Unit) :=
 cond (decide (i < (0 : Int)))
 (k0 true)
 (cond (Go.Lift.inR i (List.length s.1))
 (k0 ((((List.length (List.getD s.1 (Int.toNat i) (([] : List UInt8), ((0 : Int), ((0 : Int), (([] : List (Int × ((List UInt8) × Unit))), ()))))).2.2.2.1) : Nat) : Int) == (0 : Int)))
 (none))

def z8q (N : Nat) (x : z2b [(2, .box (.pair (.sl (.pair .str (.pair (.int .i64) (.pair (.int .i64) (.pair (.sl (.pair (.int .i64) (.pair .str .unit))) .unit))))) (.pair (.int .i64) .unit))), (1, .box (.pair (.int .i64) (.pair .str .unit))), (1, .v (.int .i64))]) (K : Ex -> List A -> Option ((Int × ((List UInt8) × Unit)) × Bool × Unit)) : Option ((Int × ((List UInt8) × Unit)) × Bool × Unit) :=
 z4q N x.1 x.2.1 x.2.2.1 (fun a3 => (K .normal (mkS [(2, .box (.pair (.sl (.pair .str (.pair (.int .i64) (.pair (.int .i64) (.pair (.sl (.pair (.int .i64) (.pair .str .unit))) .unit))))) (.pair (.int .i64) .unit))), (1, .box (.pair (.int .i64) (.pair .str .unit))), (1, .v (.int .i64)), (14, .v .bool)] 17 (x.1, x.2.1, x.2.2.1, a3, ()))))

def z8o (N : Nat) : Hd ((Int × ((List UInt8) × Unit)) × Bool × Unit) := fun st K => (unS [(2, .box (.pair (.sl (.pair .str (.pair (.int .i64) (.pair (.int .i64) (.pair (.sl (.pair (.int .i64) (.pair .str .unit))) .unit))))) (.pair (.int .i64) .unit))), (1, .box (.pair (.int .i64) (.pair .str .unit))), (1, .v (.int .i64))] 32 (restr [6, 2, 4] 0 st)).bind fun x => z8q N x K

def zha (N : Nat) : Tab ((Int × ((List UInt8) × Unit)) × Bool × Unit) := []

theorem zg8 {N : Nat} {c : Ctx} (hb : Base Go.Proofs.Try.prog (z2s N) c) : zu Go.Proofs.Try.prog c (zf z26 [0, 0, 1, 1]) (z8o N) :=
  zp (s := [(2, .box (.pair (.sl (.pair .str (.pair (.int .i64) (.pair (.int .i64) (.pair (.sl (.pair (.int .i64) (.pair .str .unit))) .unit))))) (.pair (.int .i64) .unit))), (1, .box (.pair (.int .i64) (.pair .str .unit))), (1, .v (.int .i64))]) (m := 32) (g := z8q N) [6, 2, 4] (z7 hb N (zha N) z3a z26 TabOk.nil [0, 0, 1, 1] _ rfl) (fun x K => by kernel_rfl)

def z4r (N : Nat) (s : ((List ((List UInt8) × (Int × (Int × ((List (Int × ((List UInt8) × Unit))) × Unit))))) × (Int × Unit))) (x4 : (Int × ((List UInt8) × Unit))) (i : Int) (k0 : (Int × ((List UInt8) × Unit)) -> Bool -> Option ((Int × ((List UInt8) × Unit)) × Bool × Unit)) (k1 : Option ((Int × ((List UInt8) × Unit)) × Bool × Unit)) : Option ((Int × ((List UInt8) × Unit)) × Bool × Unit) :=
 z4q N s x4 i
 (fun x21 => cond x21
 (k0 ((0 : Int), (([] : List UInt8), ())) false)
 (k1))

def z8r (N : Nat) (x : z2b [(2, .box (.pair (.sl (.pair .str (.pair (.int .i64) (.pair (.int .i64) (.pair (.sl (.pair (.int .i64) (.pair .str .unit))) .unit))))) (.pair (.int .i64) .unit))), (1, .box (.pair (.int .i64) (.pair .str .unit))), (1, .v (.int .i64))]) (K : Ex -> List A -> Option ((Int × ((List UInt8) × Unit)) × Bool × Unit)) : Option ((Int × ((List UInt8) × Unit)) × Bool × Unit) :=
 z4r N x.1 x.2.1 x.2.2.1 (fun a0 a1 => (K .ret (mkS [(4, .box (.pair (.int .i64) (.pair .str .unit))), (0, .v .bool)] 33 (a0, a1, ())))) (K .normal (mkS [(2, .box (.pair (.sl (.pair .str (.pair (.int .i64) (.pair (.int .i64) (.pair (.sl (.pair (.int .i64) (.pair .str .unit))) .unit))))) (.pair (.int .i64) .unit))), (1, .box (.pair (.int .i64) (.pair .str .unit))), (1, .v (.int .i64))] 32 (x.1, x.2.1, x.2.2.1, ())))

def z8p (N : Nat) : Hd ((Int × ((List UInt8) × Unit)) × Bool × Unit) := fun st K => (unS [(2, .box (.pair (.sl (.pair .str (.pair (.int .i64) (.pair (.int .i64) (.pair (.sl (.pair (.int .i64) (.pair .str .unit))) .unit))))) (.pair (.int .i64) .unit))), (1, .box (.pair (.int .i64) (.pair .str .unit))), (1, .v (.int .i64))] 32 (restr [6, 2, 4] 0 st)).bind fun x => z8r N x K

def zhb (N : Nat) : Tab ((Int × ((List UInt8) × Unit)) × Bool × Unit) := [([0, 0, 1, 1], z8o N)]

theorem zg9 {N : Nat} {c : Ctx} (hb : Base Go.Proofs.Try.prog (z2s N) c) : zu Go.Proofs.Try.prog c (zf z26 [0, 1, 1]) (z8p N) :=
  zp (s := [(2, .box (.pair (.sl (.pair .str (.pair (.int .i64) (.pair (.int .i64) (.pair (.sl (.pair (.int .i64) (.pair .str .unit))) .unit))))) (.pair (.int .i64) .unit))), (1, .box (.pair (.int .i64) (.pair .str .unit))), (1, .v (.int .i64))]) (m := 32) (g := z8r N) [6, 2, 4] (z7 hb N (zhb N) z3a z26 (TabOk.cons (zg8 hb) TabOk.nil) [0, 1, 1] _ rfl) (fun x K => by kernel_rfl)

def z33 (N : Nat) (s : ((List ((List UInt8) × (Int × (Int × ((List (Int × ((List UInt8) × Unit))) × Unit))))) × (Int × Unit))) (tenant : (List UInt8)) : Option ((Int × ((List UInt8) × Unit)) × Bool × Unit) :=
 (z2d N s tenant).bind fun y =>
 z4r N s ((0 : Int), (([] : List UInt8), ())) y
 (fun x4 x5 => some (x4, (x5, ())))
 (cond (Go.Lift.inR y (List.length s.1))
 (cond (Go.Lift.inR y (List.length s.1))
 (cond (Go.Lift.inR (Go.IntKind.wrap Go.IntKind.i64 ((((List.length (List.getD s.1 (Int.toNat y) (([] : List UInt8), ((0 : Int), ((0 : Int), (([] : List (Int × ((List UInt8) × Unit))), ()))))).2.2.2.1) : Nat) : Int) - (1 : Int))) (List.length (List.getD s.1 (Int.toNat y) (([] : List UInt8), ((0 : Int), ((0 : Int), (([] : List (Int × ((List UInt8) × Unit))), ()))))).2.2.2.1))
 (some ((List.getD (List.getD s.1 (Int.toNat y) (([] : List UInt8), ((0 : Int), ((0 : Int), (([] : List (Int × ((List UInt8) × Unit))), ()))))).2.2.2.1 (Int.toNat (Go.IntKind.wrap Go.IntKind.i64 ((((List.length (List.getD s.1 (Int.toNat y) (([] : List UInt8), ((0 : Int), ((0 : Int), (([] : List (Int × ((List UInt8) × Unit))), ()))))).2.2.2.1) : Nat) : Int) - (1 : Int)))) ((0 : Int), (([] : List UInt8), ()))), (true, ())))
 (none))
 (none))
 (none))

def z9v (N : Nat) : Tab ((Int × ((List UInt8) × Unit)) × Bool × Unit) := [([0, 1, 1], z8p N)]

theorem zf0 (N : Nat) (x : z2b [(0, .v (.pair (.sl (.pair .str (.pair (.int .i64) (.pair (.int .i64) (.pair (.sl (.pair (.int .i64) (.pair .str .unit))) .unit))))) (.pair (.int .i64) .unit))), (0, .v .str)]) : zej (z2s N) N (z9v N) z3a Go.Proofs.Try.f20 (mkS [(0, .v (.pair (.sl (.pair .str (.pair (.int .i64) (.pair (.int .i64) (.pair (.sl (.pair (.int .i64) (.pair .str .unit))) .unit))))) (.pair (.int .i64) .unit))), (0, .v .str)] 0 x) (z5b (.tup [(.pair (.int .i64) (.pair .str .unit)), .bool]) 2) = z33 N x.1 x.2.1 := by kernel_rfl

def z7y (N : Nat) : List A -> Res := z2r [(0, .v (.pair (.sl (.pair .str (.pair (.int .i64) (.pair (.int .i64) (.pair (.sl (.pair (.int .i64) (.pair .str .unit))) .unit))))) (.pair (.int .i64) .unit))), (0, .v .str)] (fun x => z33 N x.1 x.2.1) (zfe (.tup [(.pair (.int .i64) (.pair .str .unit)), .bool]) 2)

theorem zhc (N : Nat) : Contract Go.Proofs.Try.prog z10 20 (z7y N) :=
  Contract.of (E := z2s N) (H := z9v N) (L := z3a) (N := N) (body := z26) (K := (z5b (.tup [(.pair (.int .i64) (.pair .str .unit)), .bool]) 2)) (zga N) Go.Proofs.Try.func20 (by kernel_rfl) (by decide) (fun _ hb => (TabOk.cons (zg9 hb) TabOk.nil)) (fun x y h => by rw [zf0]; exact h) (z1q (s := (.tup [(.pair (.int .i64) (.pair .str .unit)), .bool])) (m := 2))

def zd : Code := (Go.Proofs.Try.f14.body).getD .skip

def z17 : List (List Nat × List Nat) := [([0], [2, 3]), ([0, 0, 1], [22, 2, 3]), ([1, 0, 1], [2, 3]), ([0, 0, 1, 0, 1], [4]), ([1, 0, 1, 0, 1], [4]), ([0, 0, 1, 1], [5, 2, 3]), ([0, 1, 0, 1, 1], [5, 2, 3]), ([0, 0, 0, 0, 1, 0, 1, 1], [27, 2, 5, 3]), ([1, 0, 0, 0, 1, 0, 1, 1], [2, 5, 3]), ([1, 1, 0, 0, 0, 1, 0, 1, 1], []), ([0, 0, 0, 1, 0, 0, 1, 0, 1, 1], [6, 7, 5, 2, 3]), ([0, 0, 1, 0, 0, 1, 0, 0, 1, 0, 1, 1], [67, 6, 7, 5, 2, 3]), ([1, 0, 1, 0, 0, 1, 0, 0, 1, 0, 1, 1], [6, 7, 5, 2, 3]), ([0, 0, 1, 0, 1, 0, 0, 1, 0, 0, 1, 0, 1, 1], [4]), ([1, 0, 1, 0, 1, 0, 0, 1, 0, 0, 1, 0, 1, 1], [4]), ([0, 1, 1, 0, 0, 1, 0, 0, 1, 0, 1, 1], [8, 6, 7, 5, 2, 3]), ([0, 1, 1, 1, 0, 0, 1, 0, 0, 1, 0, 1, 1], [8, 6, 7, 5, 2, 3]), ([0, 0, 0, 0, 1, 1, 1, 0, 0, 1, 0, 0, 1, 0, 1, 1], [72, 6, 8, 7, 5, 2, 3]), ([1, 0, 0, 0, 1, 1, 1, 0, 0, 1, 0, 0, 1, 0, 1, 1], [6, 8, 7, 5, 2, 3]), ([1, 1, 0, 0, 0, 1, 1, 1, 0, 0, 1, 0, 0, 1, 0, 1, 1], [5, 2, 3]), ([0, 0, 0, 1, 0, 0, 1, 1, 1, 0, 0, 1, 0, 0, 1, 0, 1, 1], [85, 8, 6, 7, 5, 2, 3]), ([1, 0, 0, 1, 0, 0, 1, 1, 1, 0, 0, 1, 0, 0, 1, 0, 1, 1], [8, 6, 7, 5, 2, 3]), ([0, 0, 1, 0, 0, 1, 0, 0, 1, 1, 1, 0, 0, 1, 0, 0, 1, 0, 1, 1], [4]), ([1, 0, 1, 0, 0, 1, 0, 0, 1, 1, 1, 0, 0, 1, 0, 0, 1, 0, 1, 1], [4]), ([0, 1, 0, 0, 1, 1, 1, 0, 0, 1, 0, 0, 1, 0, 1, 1], [8, 6, 7, 5, 2, 3]), ([1, 1, 0, 0, 1, 1, 1, 0, 0, 1, 0, 0, 1, 0, 1, 1], [8, 6, 7, 5, 2, 3]), ([1, 1, 1, 0, 0, 1, 0, 0, 1, 0, 1, 1], [5, 2, 3]), ([0, 1, 0, 0, 1, 0, 1, 1], [5, 2, 3]), ([1, 1, 0, 0, 1, 0, 1, 1], [5, 2, 3]), ([1, 0, 1, 1], []), ([0, 1, 1, 1], [4]), ([1, 1, 1, 1], [4])]

def z11 (N : Nat) : Env := z4w tys z10 [] [] [] [] false [] []

theorem zea (N : Nat) : EnvOk Go.Proofs.Try.prog (z11 N) := z1e mixed z2n (FnsOk.nil) (ItsOk.nil)

def z43 (N : Nat) (a : ((List ((List UInt8) × (Int × (Int × ((List (Int × ((List UInt8) × Unit))) × Unit))))) × (Int × Unit))) (b : ((List ((List UInt8) × (Int × (Int × ((List (Int × ((List UInt8) × Unit))) × Unit))))) × (Int × Unit))) (k0 : Bool -> Option Bool) : Option Bool :=
 cond (a.2.1 != b.2.1)
 (k0 true)
 (k0 ((((List.length a.1) : Nat) : Int) != (((List.length b.1) : Nat) : Int)))

def z7n (N : Nat) (x : z2b [(2, .box (.pair (.sl (.pair .str (.pair (.int .i64) (.pair (.int .i64) (.pair (.sl (.pair (.int .i64) (.pair .str .unit))) .unit))))) (.pair (.int .i64) .unit))), (0, .box (.pair (.sl (.pair .str (.pair (.int .i64) (.pair (.int .i64) (.pair (.sl (.pair (.int .i64) (.pair .str .unit))) .unit))))) (.pair (.int .i64) .unit)))]) (K : Ex -> List A -> Option Bool) : Option Bool :=
 z43 N x.1 x.2.1 (fun a2 => (K .normal (mkS [(2, .box (.pair (.sl (.pair .str (.pair (.int .i64) (.pair (.int .i64) (.pair (.sl (.pair (.int .i64) (.pair .str .unit))) .unit))))) (.pair (.int .i64) .unit))), (0, .box (.pair (.sl (.pair .str (.pair (.int .i64) (.pair (.int .i64) (.pair (.sl (.pair (.int .i64) (.pair .str .unit))) .unit))))) (.pair (.int .i64) .unit))), (18, .v .bool)] 63 (x.1, x.2.1, a2, ()))))

def z7g (N : Nat) : Hd Bool := fun st K => (unS [(2, .box (.pair (.sl (.pair .str (.pair (.int .i64) (.pair (.int .i64) (.pair (.sl (.pair (.int .i64) (.pair .str .unit))) .unit))))) (.pair (.int .i64) .unit))), (0, .box (.pair (.sl (.pair .str (.pair (.int .i64) (.pair (.int .i64) (.pair (.sl (.pair (.int .i64) (.pair .str .unit))) .unit))))) (.pair (.int .i64) .unit)))] 82 (restr [2, 3] 0 st)).bind fun x => z7n N x K

def zfa (N : Nat) : Tab Bool := []

theorem ze8 {N : Nat} {c : Ctx} (hb : Base Go.Proofs.Try.prog (z11 N) c) : zu Go.Proofs.Try.prog c (zf zd [0, 0, 1]) (z7g N) :=
  zp (s := [(2, .box (.pair (.sl (.pair .str (.pair (.int .i64) (.pair (.int .i64) (.pair (.sl (.pair (.int .i64) (.pair .str .unit))) .unit))))) (.pair (.int .i64) .unit))), (0, .box (.pair (.sl (.pair .str (.pair (.int .i64) (.pair (.int .i64) (.pair (.sl (.pair (.int .i64) (.pair .str .unit))) .unit))))) (.pair (.int .i64) .unit)))]) (m := 82) (g := z7n N) [2, 3] (z7 hb N (zfa N) z17 zd TabOk.nil [0, 0, 1] _ rfl) (fun x K => by kernel_rfl)

def z44 (N : Nat) (a : ((List ((List UInt8) × (Int × (Int × ((List (Int × ((List UInt8) × Unit))) × Unit))))) × (Int × Unit))) (b : ((List ((List UInt8) × (Int × (Int × ((List (Int × ((List UInt8) × Unit))) × Unit))))) × (Int × Unit))) (k0 : Bool -> Option Bool) (k1 : Option Bool) : Option Bool :=
 z43 N a b
 (fun x22 => cond x22
 (k0 false)
 (k1))

def z7o (N : Nat) (x : z2b [(2, .box (.pair (.sl (.pair .str (.pair (.int .i64) (.pair (.int .i64) (.pair (.sl (.pair (.int .i64) (.pair .str .unit))) .unit))))) (.pair (.int .i64) .unit))), (0, .box (.pair (.sl (.pair .str (.pair (.int .i64) (.pair (.int .i64) (.pair (.sl (.pair (.int .i64) (.pair .str .unit))) .unit))))) (.pair (.int .i64) .unit)))]) (K : Ex -> List A -> Option Bool) : Option Bool :=
 z44 N x.1 x.2.1 (fun a0 => (K .ret (mkS [(4, .v .bool)] 81 (a0, ())))) (K .normal (mkS [(2, .box (.pair (.sl (.pair .str (.pair (.int .i64) (.pair (.int .i64) (.pair (.sl (.pair (.int .i64) (.pair .str .unit))) .unit))))) (.pair (.int .i64) .unit))), (0, .box (.pair (.sl (.pair .str (.pair (.int .i64) (.pair (.int .i64) (.pair (.sl (.pair (.int .i64) (.pair .str .unit))) .unit))))) (.pair (.int .i64) .unit)))] 82 (x.1, x.2.1, ())))

def z7h (N : Nat) : Hd Bool := fun st K => (unS [(2, .box (.pair (.sl (.pair .str (.pair (.int .i64) (.pair (.int .i64) (.pair (.sl (.pair (.int .i64) (.pair .str .unit))) .unit))))) (.pair (.int .i64) .unit))), (0, .box (.pair (.sl (.pair .str (.pair (.int .i64) (.pair (.int .i64) (.pair (.sl (.pair (.int .i64) (.pair .str .unit))) .unit))))) (.pair (.int .i64) .unit)))] 82 (restr [2, 3] 0 st)).bind fun x => z7o N x K

def zfb (N : Nat) : Tab Bool := [([0, 0, 1], z7g N)]

theorem ze9 {N : Nat} {c : Ctx} (hb : Base Go.Proofs.Try.prog (z11 N) c) : zu Go.Proofs.Try.prog c (zf zd [0, 1]) (z7h N) :=
  zp (s := [(2, .box (.pair (.sl (.pair .str (.pair (.int .i64) (.pair (.int .i64) (.pair (.sl (.pair (.int .i64) (.pair .str .unit))) .unit))))) (.pair (.int .i64) .unit))), (0, .box (.pair (.sl (.pair .str (.pair (.int .i64) (.pair (.int .i64) (.pair (.sl (.pair (.int .i64) (.pair .str .unit))) .unit))))) (.pair (.int .i64) .unit)))]) (m := 82) (g := z7o N) [2, 3] (z7 hb N (zfb N) z17 zd (TabOk.cons (ze8 hb) TabOk.nil) [0, 1] _ rfl) (fun x K => by kernel_rfl)

def z40 (N : Nat) (a : ((List ((List UInt8) × (Int × (Int × ((List (Int × ((List UInt8) × Unit))) × Unit))))) × (Int × Unit))) (b : ((List ((List UInt8) × (Int × (Int × ((List (Int × ((List UInt8) × Unit))) × Unit))))) × (Int × Unit))) (i : Int) (x6 : ((List UInt8) × (Int × (Int × ((List (Int × ((List UInt8) × Unit))) × Unit))))) (y : ((List UInt8) × (Int × (Int × ((List (Int × ((List UInt8) × Unit))) × Unit))))) (k0 : Bool -> Option Bool) : Option Bool :=
 cond (!(x6.1 == y.1))
 (k0 true)
 (cond (x6.2.1 != y.2.1)
 (k0 true)
 (cond (x6.2.2.1 != y.2.2.1)
 (k0 true)
 (k0 ((((List.length x6.2.2.2.1) : Nat) : Int) != (((List.length y.2.2.2.1) : Nat) : Int)))))

def z7j (N : Nat) (x : z2b [(2, .box (.pair (.sl (.pair .str (.pair (.int .i64) (.pair (.int .i64) (.pair (.sl (.pair (.int .i64) (.pair .str .unit))) .unit))))) (.pair (.int .i64) .unit))), (0, .box (.pair (.sl (.pair .str (.pair (.int .i64) (.pair (.int .i64) (.pair (.sl (.pair (.int .i64) (.pair .str .unit))) .unit))))) (.pair (.int .i64) .unit))), (1, .v (.int .i64)), (0, .box (.pair .str (.pair (.int .i64) (.pair (.int .i64) (.pair (.sl (.pair (.int .i64) (.pair .str .unit))) .unit))))), (0, .box (.pair .str (.pair (.int .i64) (.pair (.int .i64) (.pair (.sl (.pair (.int .i64) (.pair .str .unit))) .unit)))))]) (K : Ex -> List A -> Option Bool) : Option Bool :=
 z40 N x.1 x.2.1 x.2.2.1 x.2.2.2.1 x.2.2.2.2.1 (fun a5 => (K .normal (mkS [(2, .box (.pair (.sl (.pair .str (.pair (.int .i64) (.pair (.int .i64) (.pair (.sl (.pair (.int .i64) (.pair .str .unit))) .unit))))) (.pair (.int .i64) .unit))), (0, .box (.pair (.sl (.pair .str (.pair (.int .i64) (.pair (.int .i64) (.pair (.sl (.pair (.int .i64) (.pair .str .unit))) .unit))))) (.pair (.int .i64) .unit))), (1, .v (.int .i64)), (0, .box (.pair .str (.pair (.int .i64) (.pair (.int .i64) (.pair (.sl (.pair (.int .i64) (.pair .str .unit))) .unit))))), (0, .box (.pair .str (.pair (.int .i64) (.pair (.int .i64) (.pair (.sl (.pair (.int .i64) (.pair .str .unit))) .unit))))), (59, .v .bool)] 18 (x.1, x.2.1, x.2.2.1, x.2.2.2.1, x.2.2.2.2.1, a5, ()))))

def z7c (N : Nat) : Hd Bool := fun st K => (unS [(2, .box (.pair (.sl (.pair .str (.pair (.int .i64) (.pair (.int .i64) (.pair (.sl (.pair (.int .i64) (.pair .str .unit))) .unit))))) (.pair (.int .i64) .unit))), (0, .box (.pair (.sl (.pair .str (.pair (.int .i64) (.pair (.int .i64) (.pair (.sl (.pair (.int .i64) (.pair .str .unit))) .unit))))) (.pair (.int .i64) .unit))), (1, .v (.int .i64)), (0, .box (.pair .str (.pair (.int .i64) (.pair (.int .i64) (.pair (.sl (.pair (.int .i64) (.pair .str .unit))) .unit))))), (0, .box (.pair .str (.pair (.int .i64) (.pair (.int .i64) (.pair (.sl (.pair (.int .i64) (.pair .str .unit))) .unit)))))] 78 (restr [6, 7, 5, 2, 3] 0 st)).bind fun x => z7j N x K

def zf6 (N : Nat) : Tab Bool := []

theorem ze4 {N : Nat} {c : Ctx} (hb : Base Go.Proofs.Try.prog (z11 N) c) : zu Go.Proofs.Try.prog c (zf zd [0, 0, 1, 0, 0, 1, 0, 0, 1, 0, 1, 1]) (z7c N) :=
  zp (s := [(2, .box (.pair (.sl (.pair .str (.pair (.int .i64) (.pair (.int .i64) (.pair (.sl (.pair (.int .i64) (.pair .str .unit))) .unit))))) (.pair (.int .i64) .unit))), (0, .box (.pair (.sl (.pair .str (.pair (.int .i64) (.pair (.int .i64) (.pair (.sl (.pair (.int .i64) (.pair .str .unit))) .unit))))) (.pair (.int .i64) .unit))), (1, .v (.int .i64)), (0, .box (.pair .str (.pair (.int .i64) (.pair (.int .i64) (.pair (.sl (.pair (.int .i64) (.pair .str .unit))) .unit))))), (0, .box (.pair .str (.pair (.int .i64) (.pair (.int .i64) (.pair (.sl (.pair (.int .i64) (.pair .str .unit))) .unit)))))]) (m := 78) (g := z7j N) [6, 7, 5, 2, 3] (z7 hb N (zf6 N) z17 zd TabOk.nil [0, 0, 1, 0, 0, 1, 0, 0, 1, 0, 1, 1] _ rfl) (fun x K => by kernel_rfl)

def z41 (N : Nat) (a : ((List ((List UInt8) × (Int × (Int × ((List (Int × ((List UInt8) × Unit))) × Unit))))) × (Int × Unit))) (b : ((List ((List UInt8) × (Int × (Int × ((List (Int × ((List UInt8) × Unit))) × Unit))))) × (Int × Unit))) (i : Int) (x6 : ((List UInt8) × (Int × (Int × ((List (Int × ((List UInt8) × Unit))) × Unit))))) (y : ((List UInt8) × (Int × (Int × ((List (Int × ((List UInt8) × Unit))) × Unit))))) (k0 : Bool -> Option Bool) (k1 : Option Bool) : Option Bool :=
 z40 N a b i x6 y
 (fun x67 => cond x67
 (k0 false)
 (k1))

def z7k (N : Nat) (x : z2b [(2, .box (.pair (.sl (.pair .str (.pair (.int .i64) (.pair (.int .i64) (.pair (.sl (.pair (.int .i64) (.pair .str .unit))) .unit))))) (.pair (.int .i64) .unit))), (0, .box (.pair (.sl (.pair .str (.pair (.int .i64) (.pair (.int .i64) (.pair (.sl (.pair (.int .i64) (.pair .str .unit))) .unit))))) (.pair (.int .i64) .unit))), (1, .v (.int .i64)), (0, .box (.pair .str (.pair (.int .i64) (.pair (.int .i64) (.pair (.sl (.pair (.int .i64) (.pair .str .unit))) .unit))))), (0, .box (.pair .str (.pair (.int .i64) (.pair (.int .i64) (.pair (.sl (.pair (.int .i64) (.pair .str .unit))) .unit)))))]) (K : Ex -> List A -> Option Bool) : Option Bool :=
 z41 N x.1 x.2.1 x.2.2.1 x.2.2.2.1 x.2.2.2.2.1 (fun a0 => (K .ret (mkS [(4, .v .bool)] 81 (a0, ())))) (K .normal (mkS [(2, .box (.pair (.sl (.pair .str (.pair (.int .i64) (.pair (.int .i64) (.pair (.sl (.pair (.int .i64) (.pair .str .unit))) .unit))))) (.pair (.int .i64) .unit))), (0, .box (.pair (.sl (.pair .str (.pair (.int .i64) (.pair (.int .i64) (.pair (.sl (.pair (.int .i64) (.pair .str .unit))) .unit))))) (.pair (.int .i64) .unit))), (1, .v (.int .i64)), (0, .box (.pair .str (.pair (.int .i64) (.pair (.int .i64) (.pair (.sl (.pair (.int .i64) (.pair .str .unit))) .unit))))), (0, .box (.pair .str (.pair (.int .i64) (.pair (.int .i64) (.pair (.sl (.pair (.int .i64) (.pair .str .unit))) .unit)))))] 78 (x.1, x.2.1, x.2.2.1, x.2.2.2.1, x.2.2.2.2.1, ())))

def z7d (N : Nat) : Hd Bool := fun st K => (unS [(2, .box (.pair (.sl (.pair .str (.pair (.int .i64) (.pair (.int .i64) (.pair (.sl (.pair (.int .i64) (.pair .str .unit))) .unit))))) (.pair (.int .i64) .unit))), (0, .box (.pair (.sl (.pair .str (.pair (.int .i64) (.pair (.int .i64) (.pair (.sl (.pair (.int .i64) (.pair .str .unit))) .unit))))) (.pair (.int .i64) .unit))), (1, .v (.int .i64)), (0, .box (.pair .str (.pair (.int .i64) (.pair (.int .i64) (.pair (.sl (.pair (.int .i64) (.pair .str .unit))) .unit))))), (0, .box (.pair .str (.pair (.int .i64) (.pair (.int .i64) (.pair (.sl (.pair (.int .i64) (.pair .str .unit))) .unit)))))] 78 (restr [6, 7, 5, 2, 3] 0 st)).bind fun x => z7k N x K

def zf7 (N : Nat) : Tab Bool := [([0, 0, 1, 0, 0, 1, 0, 0, 1, 0, 1, 1], z7c N)]

theorem ze5 {N : Nat} {c : Ctx} (hb : Base Go.Proofs.Try.prog (z11 N) c) : zu Go.Proofs.Try.prog c (zf zd [0, 1, 0, 0, 1, 0, 0, 1, 0, 1, 1]) (z7d N) :=
  zp (s := [(2, .box (.pair (.sl (.pair .str (.pair (.int .i64) (.pair (.int .i64) (.pair (.sl (.pair (.int .i64) (.pair .str .unit))) .unit))))) (.pair (.int .i64) .unit))), (0, .box (.pair (.sl (.pair .str (.pair (.int .i64) (.pair (.int .i64) (.pair (.sl (.pair (.int .i64) (.pair .str .unit))) .unit))))) (.pair (.int .i64) .unit))), (1, .v (.int .i64)), (0, .box (.pair .str (.pair (.int .i64) (.pair (.int .i64) (.pair (.sl (.pair (.int .i64) (.pair .str .unit))) .unit))))), (0, .box (.pair .str (.pair (.int .i64) (.pair (.int .i64) (.pair (.sl (.pair (.int .i64) (.pair .str .unit))) .unit)))))]) (m := 78) (g := z7k N) [6, 7, 5, 2, 3] (z7 hb N (zf7 N) z17 zd (TabOk.cons (ze4 hb) TabOk.nil) [0, 1, 0, 0, 1, 0, 0, 1, 0, 1, 1] _ rfl) (fun x K => by kernel_rfl)

def z3y (N : Nat) (a : ((List ((List UInt8) × (Int × (Int × ((List (Int × ((List UInt8) × Unit))) × Unit))))) × (Int × Unit))) (b : ((List ((List UInt8) × (Int × (Int × ((List (Int × ((List UInt8) × Unit))) × Unit))))) × (Int × Unit))) (i : Int) (x6 : ((List UInt8) × (Int × (Int × ((List (Int × ((List UInt8) × Unit))) × Unit))))) (y : ((List UInt8) × (Int × (Int × ((List (Int × ((List UInt8) × Unit))) × Unit))))) (k : Int) (rec : Int -> Option Bool) (k0 : Bool -> Option Bool) (k1 : Option Bool) : Option Bool :=
 cond (decide (k < (((List.length x6.2.2.2.1) : Nat) : Int)))
 (cond (Go.Lift.inR k (List.length x6.2.2.2.1))
 (cond (Go.Lift.inR k (List.length y.2.2.2.1))
 (cond (!(Go.Lift.eqD (Go.Lift.unT (Go.Lift.T.pair (Go.Lift.T.int Go.IntKind.i64) (Go.Lift.T.pair Go.Lift.T.str Go.Lift.T.unit))) (List.getD x6.2.2.2.1 (Int.toNat k) ((0 : Int), (([] : List UInt8), ()))) (List.getD y.2.2.2.1 (Int.toNat k) ((0 : Int), (([] : List UInt8), ())))))
 (k0 false)
 (rec (Go.IntKind.wrap Go.IntKind.i64 (k + (1 : Int)))))
 (none))
 (none))
 (k1)

def z79 (N : Nat) (a : ((List ((List UInt8) × (Int × (Int × ((List (Int × ((List UInt8) × Unit))) × Unit))))) × (Int × Unit))) (b : ((List ((List UInt8) × (Int × (Int × ((List (Int × ((List UInt8) × Unit))) × Unit))))) × (Int × Unit))) (i : Int) (x6 : ((List UInt8) × (Int × (Int × ((List (Int × ((List UInt8) × Unit))) × Unit))))) (y : ((List UInt8) × (Int × (Int × ((List (Int × ((List UInt8) × Unit))) × Unit))))) (k : Int) (k0 : Bool -> Option Bool) (k1 : Option Bool) : Option Bool :=
 iter (fun (v : Int) r => z3y N a b i x6 y v (fun k => (r k)) k0 k1) N k

def z7i (N : Nat) (i : (((List ((List UInt8) × (Int × (Int × ((List (Int × ((List UInt8) × Unit))) × Unit))))) × (Int × Unit)) × ((List ((List UInt8) × (Int × (Int × ((List (Int × ((List UInt8) × Unit))) × Unit))))) × (Int × Unit)) × Int × ((List UInt8) × (Int × (Int × ((List (Int × ((List UInt8) × Unit))) × Unit)))) × ((List UInt8) × (Int × (Int × ((List (Int × ((List UInt8) × Unit))) × Unit)))))) (v : Int) (r : Int -> Option Bool) (K : Ex -> List A -> Option Bool) : Option Bool :=
 z3y N i.1 i.2.1 i.2.2.1 i.2.2.2.1 i.2.2.2.2 v (fun k => (r k)) (fun a0 => (K .ret (mkS [(4, .v .bool)] 81 (a0, ())))) (K (.exit 2) (mkS [(2, .box (.pair (.sl (.pair .str (.pair (.int .i64) (.pair (.int .i64) (.pair (.sl (.pair (.int .i64) (.pair .str .unit))) .unit))))) (.pair (.int .i64) .unit))), (0, .box (.pair (.sl (.pair .str (.pair (.int .i64) (.pair (.int .i64) (.pair (.sl (.pair (.int .i64) (.pair .str .unit))) .unit))))) (.pair (.int .i64) .unit))), (1, .v (.int .i64))] 80 (i.1, i.2.1, i.2.2.1, ())))

def z7b (N : Nat) : Hd Bool := fun st K => (unS [(2, .box (.pair (.sl (.pair .str (.pair (.int .i64) (.pair (.int .i64) (.pair (.sl (.pair (.int .i64) (.pair .str .unit))) .unit))))) (.pair (.int .i64) .unit))), (0, .box (.pair (.sl (.pair .str (.pair (.int .i64) (.pair (.int .i64) (.pair (.sl (.pair (.int .i64) (.pair .str .unit))) .unit))))) (.pair (.int .i64) .unit))), (1, .v (.int .i64)), (0, .box (.pair .str (.pair (.int .i64) (.pair (.int .i64) (.pair (.sl (.pair (.int .i64) (.pair .str .unit))) .unit))))), (0, .box (.pair .str (.pair (.int .i64) (.pair (.int .i64) (.pair (.sl (.pair (.int .i64) (.pair .str .unit))) .unit))))), (0, .v (.int .i64))] 77 (restr [8, 6, 7, 5, 2, 3] 0 st)).bind fun x => iter (fun v r => z7i N ((fun x => (x.1, x.2.1, x.2.2.1, x.2.2.2.1, x.2.2.2.2.1)) x) v r K) N ((fun x => x.2.2.2.2.2.1) x)

def zf5 (N : Nat) : Tab Bool := []

theorem ze3 {N : Nat} {c : Ctx} (hb : Base Go.Proofs.Try.prog (z11 N) c) : zu Go.Proofs.Try.prog c (zf zd [0, 1, 1, 1, 0, 0, 1, 0, 0, 1, 0, 1, 1]) (z7b N) :=
  z4x (s := [(2, .box (.pair (.sl (.pair .str (.pair (.int .i64) (.pair (.int .i64) (.pair (.sl (.pair (.int .i64) (.pair .str .unit))) .unit))))) (.pair (.int .i64) .unit))), (0, .box (.pair (.sl (.pair .str (.pair (.int .i64) (.pair (.int .i64) (.pair (.sl (.pair (.int .i64) (.pair .str .unit))) .unit))))) (.pair (.int .i64) .unit))), (1, .v (.int .i64)), (0, .box (.pair .str (.pair (.int .i64) (.pair (.int .i64) (.pair (.sl (.pair (.int .i64) (.pair .str .unit))) .unit))))), (0, .box (.pair .str (.pair (.int .i64) (.pair (.int .i64) (.pair (.sl (.pair (.int .i64) (.pair .str .unit))) .unit))))), (0, .v (.int .i64))]) (m := 77) (z7i N) [8, 6, 7, 5, 2, 3] N (fun x => (x.1, x.2.1, x.2.2.1, x.2.2.2.1, x.2.2.2.2.1)) (fun x => x.2.2.2.2.2.1) (fun i v => (i.1, i.2.1, i.2.2.1, i.2.2.2.1, i.2.2.2.2, v, ())) (fun _ => rfl) (z7 hb N (zf5 N) z17 zd TabOk.nil [0, 0, 1, 1, 1, 0, 0, 1, 0, 0, 1, 0, 1, 1] _ rfl) (fun i v r K => by kernel_rfl)

def z42 (N : Nat) (a : ((List ((List UInt8) × (Int × (Int × ((List (Int × ((List UInt8) × Unit))) × Unit))))) × (Int × Unit))) (b : ((List ((List UInt8) × (Int × (Int × ((List (Int × ((List UInt8) × Unit))) × Unit))))) × (Int × Unit))) (i : Int) (k0 : Bool -> Option Bool) (k1 : Option Bool) : Option Bool :=
 cond (Go.Lift.inR i (List.length a.1))
 (cond (Go.Lift.inR i (List.length b.1))
 (z41 N a b i (List.getD a.1 (Int.toNat i) (([] : List UInt8), ((0 : Int), ((0 : Int), (([] : List (Int × ((List UInt8) × Unit))), ()))))) (List.getD b.1 (Int.toNat i) (([] : List UInt8), ((0 : Int), ((0 : Int), (([] : List (Int × ((List UInt8) × Unit))), ())))))
 (fun x4 => k0 x4)
 (z79 N a b i (List.getD a.1 (Int.toNat i) (([] : List UInt8), ((0 : Int), ((0 : Int), (([] : List (Int × ((List UInt8) × Unit))), ()))))) (List.getD b.1 (Int.toNat i) (([] : List UInt8), ((0 : Int), ((0 : Int), (([] : List (Int × ((List UInt8) × Unit))), ()))))) (0 : Int)
 (fun x41 => k0 x41)
 (k1)))
 (none))
 (none)

def z7l (N : Nat) (x : z2b [(2, .box (.pair (.sl (.pair .str (.pair (.int .i64) (.pair (.int .i64) (.pair (.sl (.pair (.int .i64) (.pair .str .unit))) .unit))))) (.pair (.int .i64) .unit))), (0, .box (.pair (.sl (.pair .str (.pair (.int .i64) (.pair (.int .i64) (.pair (.sl (.pair (.int .i64) (.pair .str .unit))) .unit))))) (.pair (.int .i64) .unit))), (1, .v (.int .i64))]) (K : Ex -> List A -> Option Bool) : Option Bool :=
 z42 N x.1 x.2.1 x.2.2.1 (fun a0 => (K .ret (mkS [(4, .v .bool)] 81 (a0, ())))) (K .normal (mkS [(2, .box (.pair (.sl (.pair .str (.pair (.int .i64) (.pair (.int .i64) (.pair (.sl (.pair (.int .i64) (.pair .str .unit))) .unit))))) (.pair (.int .i64) .unit))), (0, .box (.pair (.sl (.pair .str (.pair (.int .i64) (.pair (.int .i64) (.pair (.sl (.pair (.int .i64) (.pair .str .unit))) .unit))))) (.pair (.int .i64) .unit))), (1, .v (.int .i64))] 80 (x.1, x.2.1, x.2.2.1, ())))

def z7e (N : Nat) : Hd Bool := fun st K => (unS [(2, .box (.pair (.sl (.pair .str (.pair (.int .i64) (.pair (.int .i64) (.pair (.sl (.pair (.int .i64) (.pair .str .unit))) .unit))))) (.pair (.int .i64) .unit))), (0, .box (.pair (.sl (.pair .str (.pair (.int .i64) (.pair (.int .i64) (.pair (.sl (.pair (.int .i64) (.pair .str .unit))) .unit))))) (.pair (.int .i64) .unit))), (1, .v (.int .i64))] 80 (restr [2, 5, 3] 0 st)).bind fun x => z7l N x K

def zf8 (N : Nat) : Tab Bool := [([0, 1, 0, 0, 1, 0, 0, 1, 0, 1, 1], z7d N), ([0, 1, 1, 1, 0, 0, 1, 0, 0, 1, 0, 1, 1], z7b N)]

theorem ze6 {N : Nat} {c : Ctx} (hb : Base Go.Proofs.Try.prog (z11 N) c) : zu Go.Proofs.Try.prog c (zf zd [0, 1, 0, 0, 1, 0, 1, 1]) (z7e N) :=
  zp (s := [(2, .box (.pair (.sl (.pair .str (.pair (.int .i64) (.pair (.int .i64) (.pair (.sl (.pair (.int .i64) (.pair .str .unit))) .unit))))) (.pair (.int .i64) .unit))), (0, .box (.pair (.sl (.pair .str (.pair (.int .i64) (.pair (.int .i64) (.pair (.sl (.pair (.int .i64) (.pair .str .unit))) .unit))))) (.pair (.int .i64) .unit))), (1, .v (.int .i64))]) (m := 80) (g := z7l N) [2, 5, 3] (z7 hb N (zf8 N) z17 zd (TabOk.cons (ze5 hb) (TabOk.cons (ze3 hb) TabOk.nil)) [0, 1, 0, 0, 1, 0, 1, 1] _ rfl) (fun x K => by kernel_rfl)

def z3z (N : Nat) (a : ((List ((List UInt8) × (Int × (Int × ((List (Int × ((List UInt8) × Unit))) × Unit))))) × (Int × Unit))) (b : ((List ((List UInt8) × (Int × (Int × ((List (Int × ((List UInt8) × Unit))) × Unit))))) × (Int × Unit))) (i : Int) (rec : Int -> Option Bool) (k0 : Bool -> Option Bool) (k1 : Option Bool) : Option Bool :=
 cond (decide (i < (((List.length a.1) : Nat) : Int)))
 (z42 N a b i
 (fun x4 => k0 x4)
 (rec (Go.IntKind.wrap Go.IntKind.i64 (i + (1 : Int)))))
 (k1)

def z7a (N : Nat) (a : ((List ((List UInt8) × (Int × (Int × ((List (Int × ((List UInt8) × Unit))) × Unit))))) × (Int × Unit))) (b : ((List ((List UInt8) × (Int × (Int × ((List (Int × ((List UInt8) × Unit))) × Unit))))) × (Int × Unit))) (i : Int) (k0 : Bool -> Option Bool) (k1 : Option Bool) : Option Bool :=
 iter (fun (v : Int) r => z3z N a b v (fun i => (r i)) k0 k1) N i

def z7m (N : Nat) (i : (((List ((List UInt8) × (Int × (Int × ((List (Int × ((List UInt8) × Unit))) × Unit))))) × (Int × Unit)) × ((List ((List UInt8) × (Int × (Int × ((List (Int × ((List UInt8) × Unit))) × Unit))))) × (Int × Unit)))) (v : Int) (r : Int -> Option Bool) (K : Ex -> List A -> Option Bool) : Option Bool :=
 z3z N i.1 i.2 v (fun i => (r i)) (fun a0 => (K .ret (mkS [(4, .v .bool)] 81 (a0, ())))) (K (.exit 0) (mkS [] 86 ()))

def z7f (N : Nat) : Hd Bool := fun st K => (unS [(2, .box (.pair (.sl (.pair .str (.pair (.int .i64) (.pair (.int .i64) (.pair (.sl (.pair (.int .i64) (.pair .str .unit))) .unit))))) (.pair (.int .i64) .unit))), (0, .box (.pair (.sl (.pair .str (.pair (.int .i64) (.pair (.int .i64) (.pair (.sl (.pair (.int .i64) (.pair .str .unit))) .unit))))) (.pair (.int .i64) .unit))), (1, .v (.int .i64))] 80 (restr [5, 2, 3] 0 st)).bind fun x => iter (fun v r => z7m N ((fun x => (x.1, x.2.1)) x) v r K) N ((fun x => x.2.2.1) x)

def zf9 (N : Nat) : Tab Bool := [([0, 1, 0, 0, 1, 0, 1, 1], z7e N)]

theorem ze7 {N : Nat} {c : Ctx} (hb : Base Go.Proofs.Try.prog (z11 N) c) : zu Go.Proofs.Try.prog c (zf zd [0, 1, 0, 1, 1]) (z7f N) :=
  z4x (s := [(2, .box (.pair (.sl (.pair .str (.pair (.int .i64) (.pair (.int .i64) (.pair (.sl (.pair (.int .i64) (.pair .str .unit))) .unit))))) (.pair (.int .i64) .unit))), (0, .box (.pair (.sl (.pair .str (.pair (.int .i64) (.pair (.int .i64) (.pair (.sl (.pair (.int .i64) (.pair .str .unit))) .unit))))) (.pair (.int .i64) .unit))), (1, .v (.int .i64))]) (m := 80) (z7m N) [5, 2, 3] N (fun x => (x.1, x.2.1)) (fun x => x.2.2.1) (fun i v => (i.1, i.2, v, ())) (fun _ => rfl) (z7 hb N (zf9 N) z17 zd (TabOk.cons (ze6 hb) TabOk.nil) [0, 0, 1, 0, 1, 1] _ rfl) (fun i v r K => by kernel_rfl)

def z2a (N : Nat) (a : ((List ((List UInt8) × (Int × (Int × ((List (Int × ((List UInt8) × Unit))) × Unit))))) × (Int × Unit))) (b : ((List ((List UInt8) × (Int × (Int × ((List (Int × ((List UInt8) × Unit))) × Unit))))) × (Int × Unit))) : Option Bool :=
 z44 N a b
 (fun x4 => some x4)
 (z7a N a b (0 : Int)
 (fun x41 => some x41)
 (some true))

def z87 (N : Nat) : Tab Bool := [([0, 1], z7h N), ([0, 1, 0, 1, 1], z7f N)]

theorem zdf (N : Nat) (x : z2b [(0, .v (.pair (.sl (.pair .str (.pair (.int .i64) (.pair (.int .i64) (.pair (.sl (.pair (.int .i64) (.pair .str .unit))) .unit))))) (.pair (.int .i64) .unit))), (0, .v (.pair (.sl (.pair .str (.pair (.int .i64) (.pair (.int .i64) (.pair (.sl (.pair (.int .i64) (.pair .str .unit))) .unit))))) (.pair (.int .i64) .unit)))]) : zej (z11 N) N (z87 N) z17 Go.Proofs.Try.f14 (mkS [(0, .v (.pair (.sl (.pair .str (.pair (.int .i64) (.pair (.int .i64) (.pair (.sl (.pair (.int .i64) (.pair .str .unit))) .unit))))) (.pair (.int .i64) .unit))), (0, .v (.pair (.sl (.pair .str (.pair (.int .i64) (.pair (.int .i64) (.pair (.sl (.pair (.int .i64) (.pair .str .unit))) .unit))))) (.pair (.int .i64) .unit)))] 0 x) (z5b (.v .bool) 2) = z2a N x.1 x.2.1 := by kernel_rfl

def z6u (N : Nat) : List A -> Res := z2r [(0, .v (.pair (.sl (.pair .str (.pair (.int .i64) (.pair (.int .i64) (.pair (.sl (.pair (.int .i64) (.pair .str .unit))) .unit))))) (.pair (.int .i64) .unit))), (0, .v (.pair (.sl (.pair .str (.pair (.int .i64) (.pair (.int .i64) (.pair (.sl (.pair (.int .i64) (.pair .str .unit))) .unit))))) (.pair (.int .i64) .unit)))] (fun x => z2a N x.1 x.2.1) (zfe (.v .bool) 2)

theorem zfc (N : Nat) : Contract Go.Proofs.Try.prog z10 14 (z6u N) :=
  Contract.of (E := z11 N) (H := z87 N) (L := z17) (N := N) (body := zd) (K := (z5b (.v .bool) 2)) (zea N) Go.Proofs.Try.func14 (by kernel_rfl) (by decide) (fun _ hb => (TabOk.cons (ze9 hb) (TabOk.cons (ze7 hb) TabOk.nil))) (fun x y h => by rw [zdf]; exact h) (z1q (s := (.v .bool)) (m := 2))

end
end Go.Proofs.YtobbmaplbpdniaaLg
