import Derived.Test.YtobbmaplbpdniaaLgW
import Derived.Test.YtobbmaplbpdniaaLgPrRr1
import Derived.WalkKit
import Derived.Tactics
import Derived.Tactics2
import Derived.Lib.Hide
import Derived.Below
import Derived.WalkSmall
import Derived.LoopN
import Derived.Deep.RegionHeld3
import Derived.Laws.IdiomStrings
import Derived.Test.YtobbmaplbpdniaaChecked
import Derived.KernelRfl
set_option linter.all false
set_option maxRecDepth 100000
namespace Go.Proofs.YtobbmaplbpdniaaLg
noncomputable section
open Go Go.Lift

def ty3 : TyI := ⟨(Go.TypeDesc.int Go.IntKind.i64), 1, 8, (.int .i64), (0 : Int), false⟩

theorem zyi : TyOk Go.Proofs.Try.prog 3 ty3 := TyOk.of (by kernel_rfl) (by kernel_rfl) (by kernel_rfl) (by kernel_rfl)

def ty4 : TyI := ⟨Go.TypeDesc.bool, 1, 1, .bool, false, false⟩

theorem zyh : TyOk Go.Proofs.Try.prog 4 ty4 := TyOk.of (by kernel_rfl) (by kernel_rfl) (by kernel_rfl) (by kernel_rfl)

def ty5 : TyI := ⟨(Go.TypeDesc.int Go.IntKind.u8), 1, 1, (.int .u8), (0 : Int), false⟩

theorem zyg : TyOk Go.Proofs.Try.prog 5 ty5 := TyOk.of (by kernel_rfl) (by kernel_rfl) (by kernel_rfl) (by kernel_rfl)

def ty9 : TyI := ⟨Go.TypeDesc.string, 1, 16, .str, ([] : List UInt8), false⟩

theorem zyf : TyOk Go.Proofs.Try.prog 9 ty9 := TyOk.of (by kernel_rfl) (by kernel_rfl) (by kernel_rfl) (by kernel_rfl)

def ty21 : TyI := ⟨(Go.TypeDesc.int Go.IntKind.i32), 1, 4, (.int .i32), (0 : Int), false⟩

theorem zxn : TyOk Go.Proofs.Try.prog 21 ty21 := TyOk.of (by kernel_rfl) (by kernel_rfl) (by kernel_rfl) (by kernel_rfl)

def ty22 : TyI := ⟨(Go.TypeDesc.slice 47), 1, 24, (.sl (.pair .str (.pair (.int .i64) (.pair (.int .i64) (.pair (.sl (.pair (.int .i64) (.pair .str .unit))) .unit))))), ([] : List ((List UInt8) × (Int × (Int × ((List (Int × ((List UInt8) × Unit))) × Unit))))), false⟩

theorem zxm : TyOk Go.Proofs.Try.prog 22 ty22 := TyOk.of (by kernel_rfl) (by kernel_rfl) (by kernel_rfl) (by kernel_rfl)

def ty24 : TyI := ⟨(Go.TypeDesc.struct (List.toArray ([(Go.Field.mk "Tenants" 22 0 false "" "" 0), (Go.Field.mk "Serial" 3 1 false "" "" 24)] : List Go.Field))), 2, 32, (.pair (.sl (.pair .str (.pair (.int .i64) (.pair (.int .i64) (.pair (.sl (.pair (.int .i64) (.pair .str .unit))) .unit))))) (.pair (.int .i64) .unit)), (([] : List ((List UInt8) × (Int × (Int × ((List (Int × ((List UInt8) × Unit))) × Unit))))), (0 : Int), ()), true⟩

theorem zxl : TyOk Go.Proofs.Try.prog 24 ty24 := TyOk.of (by kernel_rfl) (by kernel_rfl) (by kernel_rfl) (by kernel_rfl)

def ty26 : TyI := ⟨(Go.TypeDesc.struct (List.toArray ([(Go.Field.mk "Kind" 3 0 false "" "" 0), (Go.Field.mk "Tenant" 9 1 false "" "" 8), (Go.Field.mk "Num" 3 2 false "" "" 24), (Go.Field.mk "Epoch" 3 3 false "" "" 32), (Go.Field.mk "Text" 9 4 false "" "" 40)] : List Go.Field))), 5, 56, (.pair (.int .i64) (.pair .str (.pair (.int .i64) (.pair (.int .i64) (.pair .str .unit))))), ((0 : Int), ([] : List UInt8), (0 : Int), (0 : Int), ([] : List UInt8), ()), true⟩

theorem zxk : TyOk Go.Proofs.Try.prog 26 ty26 := TyOk.of (by kernel_rfl) (by kernel_rfl) (by kernel_rfl) (by kernel_rfl)

def ty29 : TyI := ⟨(Go.TypeDesc.int Go.IntKind.i64), 1, 8, (.int .i64), (0 : Int), false⟩

theorem zxj : TyOk Go.Proofs.Try.prog 29 ty29 := TyOk.of (by kernel_rfl) (by kernel_rfl) (by kernel_rfl) (by kernel_rfl)

def ty35 : TyI := ⟨(Go.TypeDesc.slice 26), 1, 24, (.sl (.pair (.int .i64) (.pair .str (.pair (.int .i64) (.pair (.int .i64) (.pair .str .unit)))))), ([] : List (Int × ((List UInt8) × (Int × (Int × ((List UInt8) × Unit)))))), false⟩

theorem zxi : TyOk Go.Proofs.Try.prog 35 ty35 := TyOk.of (by kernel_rfl) (by kernel_rfl) (by kernel_rfl) (by kernel_rfl)

def ty40 : TyI := ⟨(Go.TypeDesc.struct (List.toArray ([(Go.Field.mk "Num" 3 0 false "" "" 0), (Go.Field.mk "Text" 9 1 false "" "" 8)] : List Go.Field))), 2, 24, (.pair (.int .i64) (.pair .str .unit)), ((0 : Int), ([] : List UInt8), ()), true⟩

theorem ty40_ok : TyOk Go.Proofs.Try.prog 40 ty40 := TyOk.of (by kernel_rfl) (by kernel_rfl) (by kernel_rfl) (by kernel_rfl)

def ty45 : TyI := ⟨(Go.TypeDesc.slice 40), 1, 24, (.sl (.pair (.int .i64) (.pair .str .unit))), ([] : List (Int × ((List UInt8) × Unit))), false⟩

theorem zxh : TyOk Go.Proofs.Try.prog 45 ty45 := TyOk.of (by kernel_rfl) (by kernel_rfl) (by kernel_rfl) (by kernel_rfl)

def ty47 : TyI := ⟨(Go.TypeDesc.struct (List.toArray ([(Go.Field.mk "Name" 9 0 false "" "" 0), (Go.Field.mk "Epoch" 3 1 false "" "" 16), (Go.Field.mk "Next" 3 2 false "" "" 24), (Go.Field.mk "Keys" 45 3 false "" "" 32)] : List Go.Field))), 4, 56, (.pair .str (.pair (.int .i64) (.pair (.int .i64) (.pair (.sl (.pair (.int .i64) (.pair .str .unit))) .unit)))), (([] : List UInt8), (0 : Int), (0 : Int), ([] : List (Int × ((List UInt8) × Unit))), ()), true⟩

theorem ty47_ok : TyOk Go.Proofs.Try.prog 47 ty47 := TyOk.of (by kernel_rfl) (by kernel_rfl) (by kernel_rfl) (by kernel_rfl)

def ty55 : TyI := ⟨(Go.TypeDesc.func (List.toArray ([47] : List Nat)) (List.toArray ([4] : List Nat)) false), 1, 8, .opq, Go.Value.nilFunc, false⟩

theorem zxg : TyOk Go.Proofs.Try.prog 55 ty55 := TyOk.of (by kernel_rfl) (by kernel_rfl) (by kernel_rfl) (by kernel_rfl)

def ty64 : TyI := ⟨(Go.TypeDesc.func (List.toArray ([21, 4] : List Nat)) (List.toArray ([4] : List Nat)) false), 1, 8, .opq, Go.Value.nilFunc, false⟩

theorem zxf : TyOk Go.Proofs.Try.prog 64 ty64 := TyOk.of (by kernel_rfl) (by kernel_rfl) (by kernel_rfl) (by kernel_rfl)

def ty66 : TyI := ⟨(Go.TypeDesc.func (List.toArray ([40] : List Nat)) (List.toArray ([4] : List Nat)) false), 1, 8, .opq, Go.Value.nilFunc, false⟩

theorem zxe : TyOk Go.Proofs.Try.prog 66 ty66 := TyOk.of (by kernel_rfl) (by kernel_rfl) (by kernel_rfl) (by kernel_rfl)

def tys : List (Nat × TyI) := [(3, ty3), (4, ty4), (5, ty5), (9, ty9), (21, ty21), (22, ty22), (24, ty24), (26, ty26), (29, ty29), (35, ty35), (40, ty40), (45, ty45), (47, ty47), (55, ty55), (64, ty64), (66, ty66)]

theorem z3t : TysOk Go.Proofs.Try.prog tys := TysOk.cons zyi (TysOk.cons zyh (TysOk.cons zyg (TysOk.cons zyf (TysOk.cons zxn (TysOk.cons zxm (TysOk.cons zxl (TysOk.cons zxk (TysOk.cons zxj (TysOk.cons zxi (TysOk.cons ty40_ok (TysOk.cons zxh (TysOk.cons ty47_ok (TysOk.cons zxg (TysOk.cons zxf (TysOk.cons zxe (TysOk.nil))))))))))))))))

theorem mixed : Go.Proofs.Try.prog.follows .mixedOrders = true := by kernel_rfl

def zhc : Code := (Go.Proofs.Try.f28.body).getD .skip

def zeg : List (List Nat × List Nat) := [([0], [0, 1]), ([0, 1], [4]), ([1, 1], [4])]

def z9s (N : Nat) : Env := z7s tys z1c [] [] [] [] false [] []

theorem zi8 (N : Nat) : EnvOk Go.Proofs.Try.prog (z9s N) := z1v mixed z3t (FnsOk.nil) (ItsOk.nil)

def z27 (N : Nat) (n : Int) (low : Int) : Option Bool :=
 cond (decide (low <= n))
 (some (decide (n <= (1099511627776 : Int))))
 (some false)

def zef (N : Nat) : Tab Bool := []

theorem zhb (N : Nat) (x : z2m [(0, .v (.int .i64)), (0, .v (.int .i64))]) : zgb (z9s N) N (zef N) zeg Go.Proofs.Try.f28 (mkS [(0, .v (.int .i64)), (0, .v (.int .i64))] 0 x) (z8o (.v .bool) 2) = z27 N x.1 x.2.1 := by kernel_rfl

def z4y (N : Nat) : List A -> Res := z38 [(0, .v (.int .i64)), (0, .v (.int .i64))] (fun x => z27 N x.1 x.2.1) (zgv (.v .bool) 2)

theorem z83 (N : Nat) : Contract Go.Proofs.Try.prog z1c 28 (z4y N) :=
  Contract.of (E := z9s N) (H := zef N) (L := zeg) (N := N) (body := zhc) (K := (z8o (.v .bool) 2)) (zi8 N) Go.Proofs.Try.func28 (by kernel_rfl) (by decide) (fun _ hb => TabOk.nil) (fun x y h => by rw [zhb]; exact h) (z2l (s := (.v .bool)) (m := 2))

def zj6 : Code := (Go.Proofs.Try.f48.body).getD .skip

def zgx : List (List Nat × List Nat) := [([0], [0]), ([0, 1], [2]), ([1, 1], [2])]

def zbx (N : Nat) : Env := z7s tys z1c [] [] [] [] false [] []

theorem zkk (N : Nat) : EnvOk Go.Proofs.Try.prog (zbx N) := z1v mixed z3t (FnsOk.nil) (ItsOk.nil)

def zcl (N : Nat) (c : Int) : Option Bool :=
 cond (decide ((48 : Int) <= c))
 (some (decide (c <= (57 : Int))))
 (some false)

def zgw (N : Nat) : Tab Bool := []

theorem zj5 (N : Nat) (x : z2m [(0, .v (.int .i32))]) : zgb (zbx N) N (zgw N) zgx Go.Proofs.Try.f48 (mkS [(0, .v (.int .i32))] 0 x) (z8o (.v .bool) 1) = zcl N x.1 := by kernel_rfl

def zdd (N : Nat) : List A -> Res := z38 [(0, .v (.int .i32))] (fun x => zcl N x.1) (zgv (.v .bool) 1)

theorem zmn (N : Nat) : Contract Go.Proofs.Try.prog z1c 48 (zdd N) :=
  Contract.of (E := zbx N) (H := zgw N) (L := zgx) (N := N) (body := zj6) (K := (z8o (.v .bool) 1)) (zkk N) Go.Proofs.Try.func48 (by kernel_rfl) (by decide) (fun _ hb => TabOk.nil) (fun x y h => by rw [zj5]; exact h) (z2l (s := (.v .bool)) (m := 1))

def z5h : Code := (Go.Proofs.Try.f42.body).getD .skip

def z7i : List (List Nat × List Nat) := [([0], [0, 1]), ([0, 1], [5, 0, 1]), ([0, 1, 1], [4]), ([1, 1, 1], [4])]

def z5i (N : Nat) : Env := z7s tys z1c [(48, zdd N)] [] [] [] false [] []

theorem zfv (N : Nat) : EnvOk Go.Proofs.Try.prog (z5i N) := z1v mixed z3t (FnsOk.cons (zmn N) (FnsOk.nil)) (ItsOk.nil)

def z6c (N : Nat) (c : Int) (first : Bool) (k0 : Bool -> Option Bool) : Option Bool :=
 cond (decide ((97 : Int) <= c))
 (k0 (decide (c <= (122 : Int))))
 (k0 false)

def zat (N : Nat) (x : z2m [(0, .v (.int .i32)), (0, .v .bool)]) (K : Ex -> List A -> Option Bool) : Option Bool :=
 z6c N x.1 x.2.1 (fun a2 => (K .normal (mkS [(0, .v (.int .i32)), (0, .v .bool), (3, .v .bool)] 19 (x.1, x.2.1, a2, ()))))

def zas (N : Nat) : Hd Bool := fun st K => (unS [(0, .v (.int .i32)), (0, .v .bool)] 23 (restr [0, 1] 0 st)).bind fun x => zat N x K

def zhg (N : Nat) : Tab Bool := []

theorem zfu {N : Nat} {c : Ctx} (hb : Base Go.Proofs.Try.prog (z5i N) c) : z1a Go.Proofs.Try.prog c (zp z5h [0, 1]) (zas N) :=
  z1e (s := [(0, .v (.int .i32)), (0, .v .bool)]) (m := 23) (g := zat N) [0, 1] (zo hb N (zhg N) z7i z5h TabOk.nil [0, 1] _ rfl) (fun x K => by kernel_rfl)

def z5j (N : Nat) (c : Int) (first : Bool) : Option Bool :=
 z6c N c first
 (fun letter => cond letter
 (some true)
 ((zcl N c).bind fun y =>
 cond y
 (some (!first))
 (cond (c == (45 : Int))
 (some (!first))
 (some false))))

def zbw (N : Nat) : Tab Bool := [([0, 1], zas N)]

theorem zf0 (N : Nat) (x : z2m [(0, .v (.int .i32)), (0, .v .bool)]) : zgb (z5i N) N (zbw N) z7i Go.Proofs.Try.f42 (mkS [(0, .v (.int .i32)), (0, .v .bool)] 0 x) (z8o (.v .bool) 2) = z5j N x.1 x.2.1 := by kernel_rfl

def z5v (N : Nat) : List A -> Res := z38 [(0, .v (.int .i32)), (0, .v .bool)] (fun x => z5j N x.1 x.2.1) (zgv (.v .bool) 2)

theorem zau (N : Nat) : Contract Go.Proofs.Try.prog z1c 42 (z5v N) :=
  Contract.of (E := z5i N) (H := zbw N) (L := z7i) (N := N) (body := z5h) (K := (z8o (.v .bool) 2)) (zfv N) Go.Proofs.Try.func42 (by kernel_rfl) (by decide) (fun _ hb => (TabOk.cons (zfu hb) TabOk.nil)) (fun x y h => by rw [zf0]; exact h) (z2l (s := (.v .bool)) (m := 2))

def z1p : Code := (Go.Proofs.Try.f41.body).getD .skip

def z3f : List (List Nat × List Nat) := [([0], [0, 1]), ([0, 0, 1], [13, 0, 1]), ([1, 0, 1], [0, 1]), ([0, 0, 1, 0, 1], [4]), ([1, 0, 1, 0, 1], [4]), ([0, 0, 1, 1], [15, 1]), ([0, 1, 0, 1, 1], [15, 1]), ([0, 0, 0, 1, 0, 1, 1], [17, 16, 1, 15]), ([0, 1, 0, 0, 1, 0, 1, 1], [16, 1, 15]), ([1, 0, 1, 0, 0, 1, 0, 1, 1], []), ([0, 0, 1, 1, 0, 0, 1, 0, 1, 1], [1, 6, 5, 15]), ([0, 1, 0, 1, 1, 0, 0, 1, 0, 1, 1], [25, 15, 1]), ([1, 1, 0, 1, 1, 0, 0, 1, 0, 1, 1], [15, 1]), ([0, 0, 1, 1, 0, 1, 1, 0, 0, 1, 0, 1, 1], [4]), ([1, 0, 1, 1, 0, 1, 1, 0, 0, 1, 0, 1, 1], [4]), ([1, 1, 0, 0, 1, 0, 1, 1], [15, 1]), ([1, 0, 1, 1], []), ([0, 1, 1, 1], [4]), ([1, 1, 1, 1], [4])]

def z2k (N : Nat) : Env := z7s tys z1c [(42, z5v N)] [] [] [] false [] []

theorem zfz (N : Nat) : EnvOk Go.Proofs.Try.prog (z2k N) := z1v mixed z3t (FnsOk.cons (zau N) (FnsOk.nil)) (ItsOk.nil)

def z6e (N : Nat) (s : (List UInt8)) (k0 : Bool -> Option Bool) : Option Bool :=
 cond (s == ([] : List UInt8))
 (k0 true)
 (k0 (decide ((32 : Int) < (((List.length s) : Nat) : Int))))

def zb0 (N : Nat) (x : z2m [(0, .v .str), (0, .fnc 42)]) (K : Ex -> List A -> Option Bool) : Option Bool :=
 z6e N x.1 (fun a1 => (K .normal (mkS [(0, .v .str), (0, .fnc 42), (11, .v .bool)] 12 (x.1, (), a1, ()))))

def zax (N : Nat) : Hd Bool := fun st K => (unS [(0, .v .str), (0, .fnc 42)] 24 (restr [0, 1] 0 st)).bind fun x => zb0 N x K

def zhi (N : Nat) : Tab Bool := []

theorem zfx {N : Nat} {c : Ctx} (hb : Base Go.Proofs.Try.prog (z2k N) c) : z1a Go.Proofs.Try.prog c (zp z1p [0, 0, 1]) (zax N) :=
  z1e (s := [(0, .v .str), (0, .fnc 42)]) (m := 24) (g := zb0 N) [0, 1] (zo hb N (zhi N) z3f z1p TabOk.nil [0, 0, 1] _ rfl) (fun x K => by kernel_rfl)

def z6f (N : Nat) (s : (List UInt8)) (k0 : Bool -> Option Bool) (k1 : Option Bool) : Option Bool :=
 z6e N s
 (fun x13 => cond x13
 (k0 false)
 (k1))

def zb1 (N : Nat) (x : z2m [(0, .v .str), (0, .fnc 42)]) (K : Ex -> List A -> Option Bool) : Option Bool :=
 z6f N x.1 (fun a0 => (K .ret (mkS [(4, .v .bool)] 21 (a0, ())))) (K .normal (mkS [(0, .v .str), (0, .fnc 42)] 24 (x.1, (), ())))

def zay (N : Nat) : Hd Bool := fun st K => (unS [(0, .v .str), (0, .fnc 42)] 24 (restr [0, 1] 0 st)).bind fun x => zb1 N x K

def zhj (N : Nat) : Tab Bool := [([0, 0, 1], zax N)]

theorem zfy {N : Nat} {c : Ctx} (hb : Base Go.Proofs.Try.prog (z2k N) c) : z1a Go.Proofs.Try.prog c (zp z1p [0, 1]) (zay N) :=
  z1e (s := [(0, .v .str), (0, .fnc 42)]) (m := 24) (g := zb1 N) [0, 1] (zo hb N (zhj N) z3f z1p (TabOk.cons (zfx hb) TabOk.nil) [0, 1] _ rfl) (fun x K => by kernel_rfl)

def z6d (N : Nat) (x15 : (List UInt8 × Nat)) (rec : (List UInt8 × Nat) -> Option Bool) (k0 : Bool -> Option Bool) (k1 : Option Bool) : Option Bool :=
 cond (decide (x15.2 < (List.length x15.1)))
 ((z5j N (((Go.Lift.runeAt x15.1 x15.2).1 : Nat) : Int) (((x15.2 : Nat) : Int) == (0 : Int))).bind fun y =>
 cond (!y)
 (k0 false)
 (rec (x15.1, (x15.2 + (Go.Lift.runeAt x15.1 x15.2).2))))
 (k1)

def zav (N : Nat) (x15 : (List UInt8 × Nat)) (k0 : Bool -> Option Bool) (k1 : Option Bool) : Option Bool :=
 iter (fun (v : (List UInt8 × Nat)) r => z6d N v (fun x15 => (r x15)) k0 k1) N x15

def zaz (N : Nat) (i : Unit) (v : (List UInt8 × Nat)) (r : (List UInt8 × Nat) -> Option Bool) (K : Ex -> List A -> Option Bool) : Option Bool :=
 z6d N v (fun x15 => (r x15)) (fun a0 => (K .ret (mkS [(4, .v .bool)] 21 (a0, ())))) (K (.exit 0) (mkS [] 26 ()))

def zaw (N : Nat) : Hd Bool := fun st K => (unS [(1, .fnc 42), (13, .iter)] 10 (restr [15, 1] 0 st)).bind fun x => iter (fun v r => zaz N ((fun x => ()) x) v r K) N ((fun x => x.2.1) x)

def zhh (N : Nat) : Tab Bool := []

theorem zfw {N : Nat} {c : Ctx} (hb : Base Go.Proofs.Try.prog (z2k N) c) : z1a Go.Proofs.Try.prog c (zp z1p [0, 1, 0, 1, 1]) (zaw N) :=
  z8j (s := [(1, .fnc 42), (13, .iter)]) (m := 10) (zaz N) [15, 1] N (fun x => ()) (fun x => x.2.1) (fun i v => ((), v, ())) (fun _ => rfl) (zo hb N (zhh N) z3f z1p TabOk.nil [0, 0, 1, 0, 1, 1] _ rfl) (fun i v r K => by kernel_rfl)

def z5k (N : Nat) (s : (List UInt8)) : Option Bool :=
 z6f N s
 (fun x4 => some x4)
 (zav N (s, 0)
 (fun x41 => some x41)
 (some true))

def zby (N : Nat) : Tab Bool := [([0, 1], zay N), ([0, 1, 0, 1, 1], zaw N)]

theorem zf1 (N : Nat) (x : z2m [(0, .v .str), (0, .fnc 42)]) : zgb (z2k N) N (zby N) z3f Go.Proofs.Try.f41 (mkS [(0, .v .str), (0, .fnc 42)] 0 x) (z8o (.v .bool) 2) = z5k N x.1 := by kernel_rfl

def z9f (N : Nat) : List A -> Res := z38 [(0, .v .str), (0, .fnc 42)] (fun x => z5k N x.1) (zgv (.v .bool) 2)

theorem zhk (N : Nat) : Contract Go.Proofs.Try.prog z1c 41 (z9f N) :=
  Contract.of (E := z2k N) (H := zby N) (L := z3f) (N := N) (body := z1p) (K := (z8o (.v .bool) 2)) (zfz N) Go.Proofs.Try.func41 (by kernel_rfl) (by decide) (fun _ hb => (TabOk.cons (zfy hb) (TabOk.cons (zfw hb) TabOk.nil))) (fun x y h => by rw [zf1]; exact h) (z2l (s := (.v .bool)) (m := 2))

def zkm : Code := (Go.Proofs.Try.f33.body).getD .skip

def zj8 : List (List Nat × List Nat) := [([0], [0]), ([0, 1], [2]), ([1, 1], [2])]

def zdw (N : Nat) : Env := z7s tys z1c [(41, z9f N), (42, z5v N)] [] [] [] false [] []

theorem zmo (N : Nat) : EnvOk Go.Proofs.Try.prog (zdw N) := z1v mixed z3t (FnsOk.cons (zhk N) (FnsOk.cons (zau N) (FnsOk.nil))) (ItsOk.nil)

def z9g (N : Nat) (s : (List UInt8)) : Option Bool :=
 (z5k N s).bind fun y =>
 some y

def zj7 (N : Nat) : Tab Bool := []

theorem zkl (N : Nat) (x : z2m [(0, .v .str)]) : zgb (zdw N) N (zj7 N) zj8 Go.Proofs.Try.f33 (mkS [(0, .v .str)] 0 x) (z8o (.v .bool) 1) = z9g N x.1 := by kernel_rfl

def zad (N : Nat) : List A -> Res := z38 [(0, .v .str)] (fun x => z9g N x.1) (zgv (.v .bool) 1)

theorem zgy (N : Nat) : Contract Go.Proofs.Try.prog z1c 33 (zad N) :=
  Contract.of (E := zdw N) (H := zj7 N) (L := zj8) (N := N) (body := zkm) (K := (z8o (.v .bool) 1)) (zmo N) Go.Proofs.Try.func33 (by kernel_rfl) (by decide) (fun _ hb => TabOk.nil) (fun x y h => by rw [zkl]; exact h) (z2l (s := (.v .bool)) (m := 1))

def zia : Code := (Go.Proofs.Try.f40.body).getD .skip

def zgj : List (List Nat × List Nat) := [([0], [0, 1, 2]), ([0, 1], [0, 1, 5, 2]), ([0, 1, 1], [5, 0, 2, 1]), ([0, 1, 1, 1], [4, 1, 2]), ([1, 1, 1, 1], [4, 1, 2])]

def zbf (N : Nat) : Env := z7s tys z1c [] [] [] [1, 2] false [] []

theorem zk4 (N : Nat) : EnvOk Go.Proofs.Try.prog (zbf N) := z1v mixed z3t (FnsOk.nil) (ItsOk.nil)

def zci (N : Nat) (n : Int) (x1 : Int) (x2 : ((List UInt8) × (Int × (Int × ((List (Int × ((List UInt8) × Unit))) × Unit))))) : Option (Bool × (Int × ((List UInt8) × (Int × (Int × ((List (Int × ((List UInt8) × Unit))) × Unit)))) × Unit)) :=
 cond (decide (x1 < n))
 (some ((decide (n < x2.2.2.1)), (n, (x2, ()))))
 (some (false, (n, (x2, ()))))

def zgi (N : Nat) : Tab (Bool × (Int × ((List UInt8) × (Int × (Int × ((List (Int × ((List UInt8) × Unit))) × Unit)))) × Unit)) := []

theorem zi9 (N : Nat) (x : z2m [(0, .v (.int .i64)), (0, .box (.int .i64)), (0, .box (.pair .str (.pair (.int .i64) (.pair (.int .i64) (.pair (.sl (.pair (.int .i64) (.pair .str .unit))) .unit)))))]) : zgb (zbf N) N (zgi N) zgj Go.Proofs.Try.f40 (mkS [(0, .v (.int .i64)), (0, .box (.int .i64)), (0, .box (.pair .str (.pair (.int .i64) (.pair (.int .i64) (.pair (.sl (.pair (.int .i64) (.pair .str .unit))) .unit)))))] 0 x) (zw5 (.v .bool) [(1, .box (.int .i64)), (0, .box (.pair .str (.pair (.int .i64) (.pair (.int .i64) (.pair (.sl (.pair (.int .i64) (.pair .str .unit))) .unit)))))] 0) = zci N x.1 x.2.1 x.2.2.1 := by kernel_rfl

def zd3 (N : Nat) : List A -> Res := z38 [(0, .v (.int .i64)), (0, .box (.int .i64)), (0, .box (.pair .str (.pair (.int .i64) (.pair (.int .i64) (.pair (.sl (.pair (.int .i64) (.pair .str .unit))) .unit)))))] (fun x => zci N x.1 x.2.1 x.2.2.1) (zyp (.v .bool) [(1, .box (.int .i64)), (0, .box (.pair .str (.pair (.int .i64) (.pair (.int .i64) (.pair (.sl (.pair (.int .i64) (.pair .str .unit))) .unit)))))] 0)

theorem zm4 (N : Nat) : Contract Go.Proofs.Try.prog z1c 40 (zd3 N) :=
  Contract.of (E := zbf N) (H := zgi N) (L := zgj) (N := N) (body := zia) (K := (zw5 (.v .bool) [(1, .box (.int .i64)), (0, .box (.pair .str (.pair (.int .i64) (.pair (.int .i64) (.pair (.sl (.pair (.int .i64) (.pair .str .unit))) .unit)))))] 0)) (zk4 N) Go.Proofs.Try.func40 (by kernel_rfl) (by decide) (fun _ hb => TabOk.nil) (fun x y h => by rw [zi9]; exact h) (zw4 (s := (.v .bool)) (os := [(1, .box (.int .i64)), (0, .box (.pair .str (.pair (.int .i64) (.pair (.int .i64) (.pair (.sl (.pair (.int .i64) (.pair .str .unit))) .unit)))))]) (m := 0))

def z14 : Code := (Go.Proofs.Try.f29.body).getD .skip

def z1y : List (List Nat × List Nat) := [([0], [1]), ([0, 0, 1], [28, 1]), ([1, 0, 1], [1]), ([0, 0, 1, 0, 1], [2]), ([1, 0, 1, 0, 1], [2]), ([0, 1, 1], [3, 1]), ([0, 1, 1, 1], [1, 4, 3]), ([0, 0, 1, 1, 1, 1], [33, 32, 31, 4, 3, 1]), ([0, 1, 0, 1, 1, 1, 1], [33, 32, 31, 4, 3, 1]), ([0, 0, 0, 1, 0, 1, 1, 1, 1], [34, 31, 33, 4, 32, 3, 1]), ([0, 1, 0, 0, 1, 0, 1, 1, 1, 1], [31, 33, 4, 32, 3, 1]), ([1, 0, 1, 0, 0, 1, 0, 1, 1, 1, 1], []), ([0, 0, 0, 1, 1, 0, 0, 1, 0, 1, 1, 1, 1], [4, 6, 33, 32, 31, 3, 1]), ([0, 1, 0, 0, 1, 1, 0, 0, 1, 0, 1, 1, 1, 1], [47, 33, 32, 31, 4, 3, 1]), ([1, 1, 0, 0, 1, 1, 0, 0, 1, 0, 1, 1, 1, 1], [33, 32, 31, 4, 3, 1]), ([0, 0, 1, 1, 0, 0, 1, 1, 0, 0, 1, 0, 1, 1, 1, 1], [2]), ([1, 0, 1, 1, 0, 0, 1, 1, 0, 0, 1, 0, 1, 1, 1, 1], [2]), ([0, 1, 1, 0, 0, 1, 0, 1, 1, 1, 1], [33, 32, 31, 4, 3, 1]), ([1, 1, 1, 0, 0, 1, 0, 1, 1, 1, 1], [33, 32, 31, 4, 3, 1]), ([1, 0, 1, 1, 1, 1], []), ([0, 1, 1, 1, 1, 1], [2]), ([1, 1, 1, 1, 1, 1], [2])]

def z1n (N : Nat) : Env := z7s tys z1c [(40, zd3 N), (33, zad N), (28, z4y N)] [(4, .unit)] [] [] false [] []

theorem zcv (N : Nat) : EnvOk Go.Proofs.Try.prog (z1n N) := z1v mixed z3t (FnsOk.cons (zm4 N) (FnsOk.cons (zgy N) (FnsOk.cons (z83 N) (FnsOk.nil)))) (ItsOk.nil)

def z43 (N : Nat) (t : ((List UInt8) × (Int × (Int × ((List (Int × ((List UInt8) × Unit))) × Unit))))) (k0 : Bool -> Option Bool) : Option Bool :=
 (z9g N t.1).bind fun y =>
 cond (!y)
 (k0 true)
 ((z27 N t.2.1 (0 : Int)).bind fun y1 =>
 cond (!y1)
 (k0 true)
 ((z27 N t.2.2.1 (1 : Int)).bind fun y2 =>
 cond (!y2)
 (k0 true)
 (k0 (decide ((8 : Int) < (((List.length t.2.2.2.1) : Nat) : Int))))))

def z79 (N : Nat) (x : z2m [(1, .box (.pair .str (.pair (.int .i64) (.pair (.int .i64) (.pair (.sl (.pair (.int .i64) (.pair .str .unit))) .unit)))))]) (K : Ex -> List A -> Option Bool) : Option Bool :=
 z43 N x.1 (fun a1 => (K .normal (mkS [(1, .box (.pair .str (.pair (.int .i64) (.pair (.int .i64) (.pair (.sl (.pair (.int .i64) (.pair .str .unit))) .unit))))), (26, .v .bool)] 20 (x.1, a1, ()))))

def z75 (N : Nat) : Hd Bool := fun st K => (unS [(1, .box (.pair .str (.pair (.int .i64) (.pair (.int .i64) (.pair (.sl (.pair (.int .i64) (.pair .str .unit))) .unit)))))] 47 (restr [1] 0 st)).bind fun x => z79 N x K

def zdp (N : Nat) : Tab Bool := []

theorem zct {N : Nat} {c : Ctx} (hb : Base Go.Proofs.Try.prog (z1n N) c) : z1a Go.Proofs.Try.prog c (zp z14 [0, 0, 1]) (z75 N) :=
  z1e (s := [(1, .box (.pair .str (.pair (.int .i64) (.pair (.int .i64) (.pair (.sl (.pair (.int .i64) (.pair .str .unit))) .unit)))))]) (m := 47) (g := z79 N) [1] (zo hb N (zdp N) z1y z14 TabOk.nil [0, 0, 1] _ rfl) (fun x K => by kernel_rfl)

def z44 (N : Nat) (t : ((List UInt8) × (Int × (Int × ((List (Int × ((List UInt8) × Unit))) × Unit))))) (k0 : Bool -> Option Bool) (k1 : Option Bool) : Option Bool :=
 z43 N t
 (fun x28 => cond x28
 (k0 false)
 (k1))

def z7a (N : Nat) (x : z2m [(1, .box (.pair .str (.pair (.int .i64) (.pair (.int .i64) (.pair (.sl (.pair (.int .i64) (.pair .str .unit))) .unit)))))]) (K : Ex -> List A -> Option Bool) : Option Bool :=
 z44 N x.1 (fun a0 => (K .ret (mkS [(2, .v .bool)] 46 (a0, ())))) (K .normal (mkS [(1, .box (.pair .str (.pair (.int .i64) (.pair (.int .i64) (.pair (.sl (.pair (.int .i64) (.pair .str .unit))) .unit)))))] 47 (x.1, ())))

def z76 (N : Nat) : Hd Bool := fun st K => (unS [(1, .box (.pair .str (.pair (.int .i64) (.pair (.int .i64) (.pair (.sl (.pair (.int .i64) (.pair .str .unit))) .unit)))))] 47 (restr [1] 0 st)).bind fun x => z7a N x K

def zdq (N : Nat) : Tab Bool := [([0, 0, 1], z75 N)]

theorem zcu {N : Nat} {c : Ctx} (hb : Base Go.Proofs.Try.prog (z1n N) c) : z1a Go.Proofs.Try.prog c (zp z14 [0, 1]) (z76 N) :=
  z1e (s := [(1, .box (.pair .str (.pair (.int .i64) (.pair (.int .i64) (.pair (.sl (.pair (.int .i64) (.pair .str .unit))) .unit)))))]) (m := 47) (g := z7a N) [1] (zo hb N (zdq N) z1y z14 (TabOk.cons (zct hb) TabOk.nil) [0, 1] _ rfl) (fun x K => by kernel_rfl)

def z41 (N : Nat) (t : ((List UInt8) × (Int × (Int × ((List (Int × ((List UInt8) × Unit))) × Unit))))) (last : Int) (k : (Int × ((List UInt8) × Unit))) (x31 : (List (Int × ((List UInt8) × Unit)))) (x32 : Int) (x33 : Int) (k0 : ((List UInt8) × (Int × (Int × ((List (Int × ((List UInt8) × Unit))) × Unit)))) -> Int -> Bool -> Option Bool) : Option Bool :=
 (zci N k.1 last t).bind fun y =>
 cond (!y.1)
 (k0 y.2.2.1 y.2.1 true)
 (k0 y.2.2.1 y.2.1 ((((List.length k.2.1) : Nat) : Int) != (32 : Int)))

def z77 (N : Nat) (x : z2m [(1, .box (.pair .str (.pair (.int .i64) (.pair (.int .i64) (.pair (.sl (.pair (.int .i64) (.pair .str .unit))) .unit))))), (1, .box (.int .i64)), (0, .clo 40 [3, 1]), (1, .box (.pair (.int .i64) (.pair .str .unit))), (24, .v (.sl (.pair (.int .i64) (.pair .str .unit)))), (0, .v (.int .i64)), (0, .v (.int .i64))]) (K : Ex -> List A -> Option Bool) : Option Bool :=
 z41 N x.1 x.2.1 x.2.2.2.1 x.2.2.2.2.1 x.2.2.2.2.2.1 x.2.2.2.2.2.2.1 (fun a0 a1 a5 => (K .normal (mkS [(1, .box (.pair .str (.pair (.int .i64) (.pair (.int .i64) (.pair (.sl (.pair (.int .i64) (.pair .str .unit))) .unit))))), (1, .box (.int .i64)), (0, .clo 40 [3, 1]), (26, .v (.sl (.pair (.int .i64) (.pair .str .unit)))), (0, .v (.int .i64)), (0, .v (.int .i64)), (13, .v .bool)] 1 (a0, a1, (), x.2.2.2.2.1, x.2.2.2.2.2.1, x.2.2.2.2.2.2.1, a5, ()))))

def z73 (N : Nat) : Hd Bool := fun st K => (unS [(1, .box (.pair .str (.pair (.int .i64) (.pair (.int .i64) (.pair (.sl (.pair (.int .i64) (.pair .str .unit))) .unit))))), (1, .box (.int .i64)), (0, .clo 40 [3, 1]), (1, .box (.pair (.int .i64) (.pair .str .unit))), (24, .v (.sl (.pair (.int .i64) (.pair .str .unit)))), (0, .v (.int .i64)), (0, .v (.int .i64))] 15 (restr [4, 6, 33, 32, 31, 3, 1] 0 st)).bind fun x => z77 N x K

def zdn (N : Nat) : Tab Bool := []

theorem zcr {N : Nat} {c : Ctx} (hb : Base Go.Proofs.Try.prog (z1n N) c) : z1a Go.Proofs.Try.prog c (zp z14 [0, 1, 0, 0, 1, 1, 0, 0, 1, 0, 1, 1, 1, 1]) (z73 N) :=
  z1e (s := [(1, .box (.pair .str (.pair (.int .i64) (.pair (.int .i64) (.pair (.sl (.pair (.int .i64) (.pair .str .unit))) .unit))))), (1, .box (.int .i64)), (0, .clo 40 [3, 1]), (1, .box (.pair (.int .i64) (.pair .str .unit))), (24, .v (.sl (.pair (.int .i64) (.pair .str .unit)))), (0, .v (.int .i64)), (0, .v (.int .i64))]) (m := 15) (g := z77 N) [4, 6, 33, 32, 31, 3, 1] (zo hb N (zdn N) z1y z14 TabOk.nil [0, 1, 0, 0, 1, 1, 0, 0, 1, 0, 1, 1, 1, 1] _ rfl) (fun x K => by kernel_rfl)

def z40 (N : Nat) (x31 : (List (Int × ((List UInt8) × Unit)))) (x32 : Int) (t : ((List UInt8) × (Int × (Int × ((List (Int × ((List UInt8) × Unit))) × Unit))))) (last : Int) (x33 : Int) (rec : ((List UInt8) × (Int × (Int × ((List (Int × ((List UInt8) × Unit))) × Unit)))) -> Int -> Int -> Option Bool) (k0 : Bool -> Option Bool) (k1 : Option Bool) : Option Bool :=
 cond (decide (x33 < x32))
 (cond (Go.Lift.inR x33 (List.length x31))
 (z41 N t last (List.getD x31 (Int.toNat x33) ((0 : Int), (([] : List UInt8), ()))) x31 x32 x33
 (fun t1 last1 x47 => cond x47
 (k0 false)
 (rec t1 last1 (Go.IntKind.wrap Go.IntKind.i64 (x33 + (1 : Int))))))
 (none))
 (k1)

def z42 (N : Nat) (t : ((List UInt8) × (Int × (Int × ((List (Int × ((List UInt8) × Unit))) × Unit))))) (last : Int) (x31 : (List (Int × ((List UInt8) × Unit)))) (x32 : Int) (x33 : Int) (k0 : Bool -> Option Bool) (k1 : Option Bool) : Option Bool :=
 iter (fun (v : (((List UInt8) × (Int × (Int × ((List (Int × ((List UInt8) × Unit))) × Unit)))) × Int × Int)) r => z40 N x31 x32 v.1 v.2.1 v.2.2 (fun t last x33 => (r (t, last, x33))) k0 k1) N (t, last, x33)

def z78 (N : Nat) (i : ((List (Int × ((List UInt8) × Unit))) × Int)) (v : (((List UInt8) × (Int × (Int × ((List (Int × ((List UInt8) × Unit))) × Unit)))) × Int × Int)) (r : (((List UInt8) × (Int × (Int × ((List (Int × ((List UInt8) × Unit))) × Unit)))) × Int × Int) -> Option Bool) (K : Ex -> List A -> Option Bool) : Option Bool :=
 z40 N i.1 i.2 v.1 v.2.1 v.2.2 (fun t last x33 => (r (t, last, x33))) (fun a0 => (K .ret (mkS [(2, .v .bool)] 46 (a0, ())))) (K (.exit 0) (mkS [] 49 ()))

def z74 (N : Nat) : Hd Bool := fun st K => (unS [(1, .box (.pair .str (.pair (.int .i64) (.pair (.int .i64) (.pair (.sl (.pair (.int .i64) (.pair .str .unit))) .unit))))), (1, .box (.int .i64)), (0, .clo 40 [3, 1]), (26, .v (.sl (.pair (.int .i64) (.pair .str .unit)))), (0, .v (.int .i64)), (0, .v (.int .i64))] 15 (restr [33, 32, 31, 4, 3, 1] 0 st)).bind fun x => iter (fun v r => z78 N ((fun x => (x.2.2.2.1, x.2.2.2.2.1)) x) v r K) N ((fun x => (x.1, x.2.1, x.2.2.2.2.2.1)) x)

def zdo (N : Nat) : Tab Bool := [([0, 1, 0, 0, 1, 1, 0, 0, 1, 0, 1, 1, 1, 1], z73 N)]

theorem zcs {N : Nat} {c : Ctx} (hb : Base Go.Proofs.Try.prog (z1n N) c) : z1a Go.Proofs.Try.prog c (zp z14 [0, 1, 0, 1, 1, 1, 1]) (z74 N) :=
  z8j (s := [(1, .box (.pair .str (.pair (.int .i64) (.pair (.int .i64) (.pair (.sl (.pair (.int .i64) (.pair .str .unit))) .unit))))), (1, .box (.int .i64)), (0, .clo 40 [3, 1]), (26, .v (.sl (.pair (.int .i64) (.pair .str .unit)))), (0, .v (.int .i64)), (0, .v (.int .i64))]) (m := 15) (z78 N) [33, 32, 31, 4, 3, 1] N (fun x => (x.2.2.2.1, x.2.2.2.2.1)) (fun x => (x.1, x.2.1, x.2.2.2.2.2.1)) (fun i v => (v.1, v.2.1, (), i.1, i.2, v.2.2, ())) (fun _ => rfl) (zo hb N (zdo N) z1y z14 (TabOk.cons (zcr hb) TabOk.nil) [0, 0, 1, 0, 1, 1, 1, 1] _ rfl) (fun i v r K => by kernel_rfl)

def z26 (N : Nat) (t : ((List UInt8) × (Int × (Int × ((List (Int × ((List UInt8) × Unit))) × Unit))))) : Option Bool :=
 z44 N t
 (fun x2 => some x2)
 (z42 N t (0 : Int) t.2.2.2.1 (((List.length t.2.2.2.1) : Nat) : Int) (0 : Int)
 (fun x21 => some x21)
 (some true))

def z7w (N : Nat) : Tab Bool := [([0, 1], z76 N), ([0, 1, 0, 1, 1, 1, 1], z74 N)]

theorem zbg (N : Nat) (x : z2m [(0, .v (.pair .str (.pair (.int .i64) (.pair (.int .i64) (.pair (.sl (.pair (.int .i64) (.pair .str .unit))) .unit)))))]) : zgb (z1n N) N (z7w N) z1y Go.Proofs.Try.f29 (mkS [(0, .v (.pair .str (.pair (.int .i64) (.pair (.int .i64) (.pair (.sl (.pair (.int .i64) (.pair .str .unit))) .unit)))))] 0 x) (z8o (.v .bool) 1) = z26 N x.1 := by kernel_rfl

def z6i (N : Nat) : List A -> Res := z38 [(0, .v (.pair .str (.pair (.int .i64) (.pair (.int .i64) (.pair (.sl (.pair (.int .i64) (.pair .str .unit))) .unit)))))] (fun x => z26 N x.1) (zgv (.v .bool) 1)

theorem zdr (N : Nat) : Contract Go.Proofs.Try.prog z1c 29 (z6i N) :=
  Contract.of (E := z1n N) (H := z7w N) (L := z1y) (N := N) (body := z14) (K := (z8o (.v .bool) 1)) (zcv N) Go.Proofs.Try.func29 (by kernel_rfl) (by decide) (fun _ hb => (TabOk.cons (zcu hb) (TabOk.cons (zcs hb) TabOk.nil))) (fun x y h => by rw [zbg]; exact h) (z2l (s := (.v .bool)) (m := 1))

def z1o : Code := (Go.Proofs.Try.f10.body).getD .skip

def z4b : List (List Nat × List Nat) := [([0], [1]), ([0, 0, 1], [14, 1]), ([1, 0, 1], [1]), ([0, 0, 1, 0, 1], [2]), ([1, 0, 1, 0, 1], [2]), ([0, 0, 1, 1], [18, 17, 16, 1]), ([0, 1, 0, 1, 1], [18, 17, 16, 1]), ([0, 0, 0, 1, 0, 1, 1], [19, 18, 16, 1, 17]), ([0, 1, 0, 0, 1, 0, 1, 1], [18, 16, 1, 17]), ([1, 0, 1, 0, 0, 1, 0, 1, 1], []), ([0, 0, 0, 1, 1, 0, 0, 1, 0, 1, 1], [3, 4, 1, 18, 17, 16]), ([0, 1, 0, 0, 1, 1, 0, 0, 1, 0, 1, 1], [41, 18, 17, 16, 1]), ([1, 1, 0, 0, 1, 1, 0, 0, 1, 0, 1, 1], [18, 17, 16, 1]), ([0, 0, 1, 1, 0, 0, 1, 1, 0, 0, 1, 0, 1, 1], [2]), ([1, 0, 1, 1, 0, 0, 1, 1, 0, 0, 1, 0, 1, 1], [2]), ([0, 1, 1, 0, 0, 1, 0, 1, 1], [18, 17, 16, 1]), ([1, 1, 1, 0, 0, 1, 0, 1, 1], [18, 17, 16, 1]), ([1, 0, 1, 1], []), ([0, 1, 1, 1], [2]), ([1, 1, 1, 1], [2])]

def z3d (N : Nat) : Env := z7s tys z1c [(29, z6i N), (28, z4y N)] [] [] [] false [] []

theorem zkb (N : Nat) : EnvOk Go.Proofs.Try.prog (z3d N) := z1v mixed z3t (FnsOk.cons (zdr N) (FnsOk.cons (z83 N) (FnsOk.nil))) (ItsOk.nil)

def z9x (N : Nat) (s : ((List ((List UInt8) × (Int × (Int × ((List (Int × ((List UInt8) × Unit))) × Unit))))) × (Int × Unit))) (k0 : Bool -> Option Bool) : Option Bool :=
 cond (decide ((16 : Int) < (((List.length s.1) : Nat) : Int)))
 (k0 true)
 ((z27 N s.2.1 (0 : Int)).bind fun y =>
 k0 (!y))

def zep (N : Nat) (x : z2m [(1, .box (.pair (.sl (.pair .str (.pair (.int .i64) (.pair (.int .i64) (.pair (.sl (.pair (.int .i64) (.pair .str .unit))) .unit))))) (.pair (.int .i64) .unit)))]) (K : Ex -> List A -> Option Bool) : Option Bool :=
 z9x N x.1 (fun a1 => (K .normal (mkS [(1, .box (.pair (.sl (.pair .str (.pair (.int .i64) (.pair (.int .i64) (.pair (.sl (.pair (.int .i64) (.pair .str .unit))) .unit))))) (.pair (.int .i64) .unit))), (12, .v .bool)] 28 (x.1, a1, ()))))

def zel (N : Nat) : Hd Bool := fun st K => (unS [(1, .box (.pair (.sl (.pair .str (.pair (.int .i64) (.pair (.int .i64) (.pair (.sl (.pair (.int .i64) (.pair .str .unit))) .unit))))) (.pair (.int .i64) .unit)))] 41 (restr [1] 0 st)).bind fun x => zep N x K

def zm9 (N : Nat) : Tab Bool := []

theorem zk9 {N : Nat} {c : Ctx} (hb : Base Go.Proofs.Try.prog (z3d N) c) : z1a Go.Proofs.Try.prog c (zp z1o [0, 0, 1]) (zel N) :=
  z1e (s := [(1, .box (.pair (.sl (.pair .str (.pair (.int .i64) (.pair (.int .i64) (.pair (.sl (.pair (.int .i64) (.pair .str .unit))) .unit))))) (.pair (.int .i64) .unit)))]) (m := 41) (g := zep N) [1] (zo hb N (zm9 N) z4b z1o TabOk.nil [0, 0, 1] _ rfl) (fun x K => by kernel_rfl)

def z9y (N : Nat) (s : ((List ((List UInt8) × (Int × (Int × ((List (Int × ((List UInt8) × Unit))) × Unit))))) × (Int × Unit))) (k0 : Bool -> Option Bool) (k1 : Option Bool) : Option Bool :=
 z9x N s
 (fun x14 => cond x14
 (k0 false)
 (k1))

def zer (N : Nat) (x : z2m [(1, .box (.pair (.sl (.pair .str (.pair (.int .i64) (.pair (.int .i64) (.pair (.sl (.pair (.int .i64) (.pair .str .unit))) .unit))))) (.pair (.int .i64) .unit)))]) (K : Ex -> List A -> Option Bool) : Option Bool :=
 z9y N x.1 (fun a0 => (K .ret (mkS [(2, .v .bool)] 40 (a0, ())))) (K .normal (mkS [(1, .box (.pair (.sl (.pair .str (.pair (.int .i64) (.pair (.int .i64) (.pair (.sl (.pair (.int .i64) (.pair .str .unit))) .unit))))) (.pair (.int .i64) .unit)))] 41 (x.1, ())))

def zem (N : Nat) : Hd Bool := fun st K => (unS [(1, .box (.pair (.sl (.pair .str (.pair (.int .i64) (.pair (.int .i64) (.pair (.sl (.pair (.int .i64) (.pair .str .unit))) .unit))))) (.pair (.int .i64) .unit)))] 41 (restr [1] 0 st)).bind fun x => zer N x K

def zma (N : Nat) : Tab Bool := [([0, 0, 1], zel N)]

theorem zka {N : Nat} {c : Ctx} (hb : Base Go.Proofs.Try.prog (z3d N) c) : z1a Go.Proofs.Try.prog c (zp z1o [0, 1]) (zem N) :=
  z1e (s := [(1, .box (.pair (.sl (.pair .str (.pair (.int .i64) (.pair (.int .i64) (.pair (.sl (.pair (.int .i64) (.pair .str .unit))) .unit))))) (.pair (.int .i64) .unit)))]) (m := 41) (g := zer N) [1] (zo hb N (zma N) z4b z1o (TabOk.cons (zk9 hb) TabOk.nil) [0, 1] _ rfl) (fun x K => by kernel_rfl)

def z9v (N : Nat) (s : ((List ((List UInt8) × (Int × (Int × ((List (Int × ((List UInt8) × Unit))) × Unit))))) × (Int × Unit))) (i : Int) (t : ((List UInt8) × (Int × (Int × ((List (Int × ((List UInt8) × Unit))) × Unit))))) (x16 : (List ((List UInt8) × (Int × (Int × ((List (Int × ((List UInt8) × Unit))) × Unit)))))) (x17 : Int) (x18 : Int) (k0 : Bool -> Option Bool) : Option Bool :=
  cond (decide ((0 : Int) < i))
  (cond (Go.Lift.inR (Go.IntKind.wrap Go.IntKind.i64 (i - (1 : Int))) (List.length s.1))
    (cond ((Go.Op.bytesLess t.1 (List.getD s.1 (Int.toNat (Go.IntKind.wrap Go.IntKind.i64 (i - (1 : Int)))) (([] : List UInt8), ((0 : Int), ((0 : Int), (([] : List (Int × ((List UInt8) × Unit))), ()))))).1) || (t.1 == (List.getD s.1 (Int.toNat (Go.IntKind.wrap Go.IntKind.i64 (i - (1 : Int)))) (([] : List UInt8), ((0 : Int), ((0 : Int), (([] : List (Int × ((List UInt8) × Unit))), ()))))).1))
      (k0 true)
      ((z26 N t).bind fun y =>
        k0 (!y)))
    (none))
  ((z26 N t).bind fun y1 =>
    k0 (!y1))

def zen (N : Nat) (x : z2m [(1, .box (.pair (.sl (.pair .str (.pair (.int .i64) (.pair (.int .i64) (.pair (.sl (.pair (.int .i64) (.pair .str .unit))) .unit))))) (.pair (.int .i64) .unit))), (1, .v (.int .i64)), (0, .box (.pair .str (.pair (.int .i64) (.pair (.int .i64) (.pair (.sl (.pair (.int .i64) (.pair .str .unit))) .unit))))), (11, .v (.sl (.pair .str (.pair (.int .i64) (.pair (.int .i64) (.pair (.sl (.pair (.int .i64) (.pair .str .unit))) .unit)))))), (0, .v (.int .i64)), (0, .v (.int .i64))]) (K : Ex -> List A -> Option Bool) : Option Bool :=
 z9v N x.1 x.2.1 x.2.2.1 x.2.2.2.1 x.2.2.2.2.1 x.2.2.2.2.2.1 (fun a4 => (K .normal (mkS [(1, .box (.pair (.sl (.pair .str (.pair (.int .i64) (.pair (.int .i64) (.pair (.sl (.pair (.int .i64) (.pair .str .unit))) .unit))))) (.pair (.int .i64) .unit))), (14, .v (.sl (.pair .str (.pair (.int .i64) (.pair (.int .i64) (.pair (.sl (.pair (.int .i64) (.pair .str .unit))) .unit)))))), (0, .v (.int .i64)), (0, .v (.int .i64)), (22, .v .bool)] 1 (x.1, x.2.2.2.1, x.2.2.2.2.1, x.2.2.2.2.2.1, a4, ()))))

def zej (N : Nat) : Hd Bool := fun st K => (unS [(1, .box (.pair (.sl (.pair .str (.pair (.int .i64) (.pair (.int .i64) (.pair (.sl (.pair (.int .i64) (.pair .str .unit))) .unit))))) (.pair (.int .i64) .unit))), (1, .v (.int .i64)), (0, .box (.pair .str (.pair (.int .i64) (.pair (.int .i64) (.pair (.sl (.pair (.int .i64) (.pair .str .unit))) .unit))))), (11, .v (.sl (.pair .str (.pair (.int .i64) (.pair (.int .i64) (.pair (.sl (.pair (.int .i64) (.pair .str .unit))) .unit)))))), (0, .v (.int .i64)), (0, .v (.int .i64))] 24 (restr [3, 4, 1, 18, 17, 16] 0 st)).bind fun x => zen N x K

def zm7 (N : Nat) : Tab Bool := []

theorem zk7 {N : Nat} {c : Ctx} (hb : Base Go.Proofs.Try.prog (z3d N) c) : z1a Go.Proofs.Try.prog c (zp z1o [0, 1, 0, 0, 1, 1, 0, 0, 1, 0, 1, 1]) (zej N) :=
  z1e (s := [(1, .box (.pair (.sl (.pair .str (.pair (.int .i64) (.pair (.int .i64) (.pair (.sl (.pair (.int .i64) (.pair .str .unit))) .unit))))) (.pair (.int .i64) .unit))), (1, .v (.int .i64)), (0, .box (.pair .str (.pair (.int .i64) (.pair (.int .i64) (.pair (.sl (.pair (.int .i64) (.pair .str .unit))) .unit))))), (11, .v (.sl (.pair .str (.pair (.int .i64) (.pair (.int .i64) (.pair (.sl (.pair (.int .i64) (.pair .str .unit))) .unit)))))), (0, .v (.int .i64)), (0, .v (.int .i64))]) (m := 24) (g := zen N) [3, 4, 1, 18, 17, 16] (zo hb N (zm7 N) z4b z1o TabOk.nil [0, 1, 0, 0, 1, 1, 0, 0, 1, 0, 1, 1] _ rfl) (fun x K => by kernel_rfl)

def z9u (N : Nat) (s : ((List ((List UInt8) × (Int × (Int × ((List (Int × ((List UInt8) × Unit))) × Unit))))) × (Int × Unit))) (x16 : (List ((List UInt8) × (Int × (Int × ((List (Int × ((List UInt8) × Unit))) × Unit)))))) (x17 : Int) (x18 : Int) (rec : Int -> Option Bool) (k0 : Bool -> Option Bool) (k1 : Option Bool) : Option Bool :=
 cond (decide (x18 < x17))
 (cond (Go.Lift.inR x18 (List.length x16))
 (z9v N s x18 (List.getD x16 (Int.toNat x18) (([] : List UInt8), ((0 : Int), ((0 : Int), (([] : List (Int × ((List UInt8) × Unit))), ()))))) x16 x17 x18
 (fun x41 => cond x41
 (k0 false)
 (rec (Go.IntKind.wrap Go.IntKind.i64 (x18 + (1 : Int))))))
 (none))
 (k1)

def z9w (N : Nat) (s : ((List ((List UInt8) × (Int × (Int × ((List (Int × ((List UInt8) × Unit))) × Unit))))) × (Int × Unit))) (x16 : (List ((List UInt8) × (Int × (Int × ((List (Int × ((List UInt8) × Unit))) × Unit)))))) (x17 : Int) (x18 : Int) (k0 : Bool -> Option Bool) (k1 : Option Bool) : Option Bool :=
 iter (fun (v : Int) r => z9u N s x16 x17 v (fun x18 => (r x18)) k0 k1) N x18

def zeo (N : Nat) (i : (((List ((List UInt8) × (Int × (Int × ((List (Int × ((List UInt8) × Unit))) × Unit))))) × (Int × Unit)) × (List ((List UInt8) × (Int × (Int × ((List (Int × ((List UInt8) × Unit))) × Unit))))) × Int)) (v : Int) (r : Int -> Option Bool) (K : Ex -> List A -> Option Bool) : Option Bool :=
 z9u N i.1 i.2.1 i.2.2 v (fun x18 => (r x18)) (fun a0 => (K .ret (mkS [(2, .v .bool)] 40 (a0, ())))) (K (.exit 0) (mkS [] 43 ()))

def zek (N : Nat) : Hd Bool := fun st K => (unS [(1, .box (.pair (.sl (.pair .str (.pair (.int .i64) (.pair (.int .i64) (.pair (.sl (.pair (.int .i64) (.pair .str .unit))) .unit))))) (.pair (.int .i64) .unit))), (14, .v (.sl (.pair .str (.pair (.int .i64) (.pair (.int .i64) (.pair (.sl (.pair (.int .i64) (.pair .str .unit))) .unit)))))), (0, .v (.int .i64)), (0, .v (.int .i64))] 24 (restr [18, 17, 16, 1] 0 st)).bind fun x => iter (fun v r => zeo N ((fun x => (x.1, x.2.1, x.2.2.1)) x) v r K) N ((fun x => x.2.2.2.1) x)

def zm8 (N : Nat) : Tab Bool := [([0, 1, 0, 0, 1, 1, 0, 0, 1, 0, 1, 1], zej N)]

theorem zk8 {N : Nat} {c : Ctx} (hb : Base Go.Proofs.Try.prog (z3d N) c) : z1a Go.Proofs.Try.prog c (zp z1o [0, 1, 0, 1, 1]) (zek N) :=
  z8j (s := [(1, .box (.pair (.sl (.pair .str (.pair (.int .i64) (.pair (.int .i64) (.pair (.sl (.pair (.int .i64) (.pair .str .unit))) .unit))))) (.pair (.int .i64) .unit))), (14, .v (.sl (.pair .str (.pair (.int .i64) (.pair (.int .i64) (.pair (.sl (.pair (.int .i64) (.pair .str .unit))) .unit)))))), (0, .v (.int .i64)), (0, .v (.int .i64))]) (m := 24) (zeo N) [18, 17, 16, 1] N (fun x => (x.1, x.2.1, x.2.2.1)) (fun x => x.2.2.2.1) (fun i v => (i.1, i.2.1, i.2.2, v, ())) (fun _ => rfl) (zo hb N (zm8 N) z4b z1o (TabOk.cons (zk7 hb) TabOk.nil) [0, 0, 1, 0, 1, 1] _ rfl) (fun i v r K => by kernel_rfl)

def z37 (N : Nat) (s : ((List ((List UInt8) × (Int × (Int × ((List (Int × ((List UInt8) × Unit))) × Unit))))) × (Int × Unit))) : Option Bool :=
 z9y N s
 (fun x2 => some x2)
 (z9w N s s.1 (((List.length s.1) : Nat) : Int) (0 : Int)
 (fun x21 => some x21)
 (some true))

def zgm (N : Nat) : Tab Bool := [([0, 1], zem N), ([0, 1, 0, 1, 1], zek N)]

theorem zif (N : Nat) (x : z2m [(0, .v (.pair (.sl (.pair .str (.pair (.int .i64) (.pair (.int .i64) (.pair (.sl (.pair (.int .i64) (.pair .str .unit))) .unit))))) (.pair (.int .i64) .unit)))]) : zgb (z3d N) N (zgm N) z4b Go.Proofs.Try.f10 (mkS [(0, .v (.pair (.sl (.pair .str (.pair (.int .i64) (.pair (.int .i64) (.pair (.sl (.pair (.int .i64) (.pair .str .unit))) .unit))))) (.pair (.int .i64) .unit)))] 0 x) (z8o (.v .bool) 1) = z37 N x.1 := by kernel_rfl

def z5z (N : Nat) : List A -> Res := z38 [(0, .v (.pair (.sl (.pair .str (.pair (.int .i64) (.pair (.int .i64) (.pair (.sl (.pair (.int .i64) (.pair .str .unit))) .unit))))) (.pair (.int .i64) .unit)))] (fun x => z37 N x.1) (zgv (.v .bool) 1)

theorem z6s (N : Nat) : Contract Go.Proofs.Try.prog z1c 10 (z5z N) :=
  Contract.of (E := z3d N) (H := zgm N) (L := z4b) (N := N) (body := z1o) (K := (z8o (.v .bool) 1)) (zkb N) Go.Proofs.Try.func10 (by kernel_rfl) (by decide) (fun _ hb => (TabOk.cons (zka hb) (TabOk.cons (zk8 hb) TabOk.nil))) (fun x y h => by rw [zif]; exact h) (z2l (s := (.v .bool)) (m := 1))

def z84 : Code := (Go.Proofs.Try.f12.body).getD .skip

def zdt : List (List Nat × List Nat) := [([0], [1]), ([0, 1], [1, 3]), ([0, 0, 1, 1], [13, 3, 1]), ([0, 0, 1, 0, 1, 1], [14, 3, 1, 13]), ([1, 0, 1, 0, 1, 1], []), ([0, 1, 1, 0, 1, 0, 1, 1], [27, 3, 1, 13]), ([1, 1, 1, 0, 1, 0, 1, 1], []), ([0, 1, 1, 1, 1, 0, 1, 0, 1, 1], [41, 3, 1, 13]), ([1, 1, 1, 1, 1, 0, 1, 0, 1, 1], []), ([0, 1, 1, 1, 1, 1, 1, 0, 1, 0, 1, 1], [54, 1]), ([1, 1, 1, 1, 1, 1, 1, 0, 1, 0, 1, 1], []), ([0, 0, 1, 1, 1, 1, 1, 1, 1, 0, 1, 0, 1, 1], [2]), ([1, 0, 1, 1, 1, 1, 1, 1, 1, 0, 1, 0, 1, 1], [2]), ([0, 0, 1, 1, 1, 1, 1, 0, 1, 0, 1, 1], [2]), ([1, 0, 1, 1, 1, 1, 1, 0, 1, 0, 1, 1], [2]), ([0, 0, 1, 1, 1, 0, 1, 0, 1, 1], [2]), ([1, 0, 1, 1, 1, 0, 1, 0, 1, 1], [2]), ([0, 0, 1, 0, 1, 0, 1, 1], [2]), ([1, 0, 1, 0, 1, 0, 1, 1], [2]), ([1, 0, 1, 1], []), ([0, 1, 1, 1], [2]), ([1, 1, 1, 1], [2])]

def z9z (N : Nat) : Env := z7s tys z1c [(33, zad N), (28, z4y N)] [] [] [] false [] []

theorem zmd (N : Nat) : EnvOk Go.Proofs.Try.prog (z9z N) := z1v mixed z3t (FnsOk.cons (zgy N) (FnsOk.cons (z83 N) (FnsOk.nil))) (ItsOk.nil)

def zbj (N : Nat) (e : (Int × ((List UInt8) × (Int × (Int × ((List UInt8) × Unit)))))) (k0 : Bool -> Option Bool) : Option Bool :=
 (z9g N e.2.1).bind fun y =>
 cond y
 ((z27 N e.2.2.1 (1 : Int)).bind fun y1 =>
 k0 y1)
 (k0 false)

def zgo (N : Nat) (x : z2m [(1, .box (.pair (.int .i64) (.pair .str (.pair (.int .i64) (.pair (.int .i64) (.pair .str .unit))))))]) (K : Ex -> List A -> Option Bool) : Option Bool :=
 zbj N x.1 (fun a1 => (K .normal (mkS [(1, .box (.pair (.int .i64) (.pair .str (.pair (.int .i64) (.pair (.int .i64) (.pair .str .unit)))))), (1, .v .bool)] 70 (x.1, a1, ()))))

def zgn (N : Nat) : Hd Bool := fun st K => (unS [(1, .box (.pair (.int .i64) (.pair .str (.pair (.int .i64) (.pair (.int .i64) (.pair .str .unit))))))] 72 (restr [1] 0 st)).bind fun x => zgo N x K

def znj (N : Nat) : Tab Bool := []

theorem zmc {N : Nat} {c : Ctx} (hb : Base Go.Proofs.Try.prog (z9z N) c) : z1a Go.Proofs.Try.prog c (zp z84 [0, 1]) (zgn N) :=
  z1e (s := [(1, .box (.pair (.int .i64) (.pair .str (.pair (.int .i64) (.pair (.int .i64) (.pair .str .unit))))))]) (m := 72) (g := zgo N) [1] (zo hb N (znj N) zdt z84 TabOk.nil [0, 1] _ rfl) (fun x K => by kernel_rfl)

def z8t (N : Nat) (e : (Int × ((List UInt8) × (Int × (Int × ((List UInt8) × Unit)))))) : Option Bool :=
 zbj N e
 (fun ofTenant => cond (e.1 == (1 : Int))
 (cond ofTenant
 ((z27 N e.2.2.2.1 (0 : Int)).bind fun y =>
 cond y
 (some (e.2.2.2.2.1 == ([] : List UInt8)))
 (some false))
 (some false))
 (cond (e.1 == (2 : Int))
 (cond ofTenant
 (cond (e.2.2.2.1 == (0 : Int))
 (some ((((List.length e.2.2.2.2.1) : Nat) : Int) == (32 : Int)))
 (some false))
 (some false))
 (cond (e.1 == (3 : Int))
 (cond ofTenant
 (cond (e.2.2.2.1 == (0 : Int))
 (some (e.2.2.2.2.1 == ([] : List UInt8)))
 (some false))
 (some false))
 (cond (e.1 == (4 : Int))
 ((z27 N e.2.2.1 (0 : Int)).bind fun y1 =>
 cond y1
 (cond (e.2.1 == ([] : List UInt8))
 (cond (e.2.2.2.1 == (0 : Int))
 (some (e.2.2.2.2.1 == ([] : List UInt8)))
 (some false))
 (some false))
 (some false))
 (some false)))))

def zij (N : Nat) : Tab Bool := [([0, 1], zgn N)]

theorem zkf (N : Nat) (x : z2m [(0, .v (.pair (.int .i64) (.pair .str (.pair (.int .i64) (.pair (.int .i64) (.pair .str .unit))))))]) : zgb (z9z N) N (zij N) zdt Go.Proofs.Try.f12 (mkS [(0, .v (.pair (.int .i64) (.pair .str (.pair (.int .i64) (.pair (.int .i64) (.pair .str .unit))))))] 0 x) (z8o (.v .bool) 1) = z8t N x.1 := by kernel_rfl

def zmb (N : Nat) : List A -> Res := z38 [(0, .v (.pair (.int .i64) (.pair .str (.pair (.int .i64) (.pair (.int .i64) (.pair .str .unit))))))] (fun x => z8t N x.1) (zgv (.v .bool) 1)

theorem znk (N : Nat) : Contract Go.Proofs.Try.prog z1c 12 (zmb N) :=
  Contract.of (E := z9z N) (H := zij N) (L := zdt) (N := N) (body := z84) (K := (z8o (.v .bool) 1)) (zmd N) Go.Proofs.Try.func12 (by kernel_rfl) (by decide) (fun _ hb => (TabOk.cons (zmc hb) TabOk.nil)) (fun x y h => by rw [zkf]; exact h) (z2l (s := (.v .bool)) (m := 1))

def zin : Code := (Go.Proofs.Try.f36.body).getD .skip

def zgq : List (List Nat × List Nat) := [([0], [2, 1]), ([0, 1], [3]), ([1, 1], [3])]

def zbl (N : Nat) : Env := z7s tys z1c [] [] [] [] false [] []

theorem zki (N : Nat) : EnvOk Go.Proofs.Try.prog (zbl N) := z1v mixed z3t (FnsOk.nil) (ItsOk.nil)

def zl6 (N : Nat) (t : ((List UInt8) × (Int × (Int × ((List (Int × ((List UInt8) × Unit))) × Unit))))) (x1 : (List UInt8)) : Option Bool :=
 some (t.1 == x1)

def zgp (N : Nat) : Tab Bool := []

theorem zim (N : Nat) (x : z2m [(0, .v (.pair .str (.pair (.int .i64) (.pair (.int .i64) (.pair (.sl (.pair (.int .i64) (.pair .str .unit))) .unit))))), (0, .v (.ptr .str))]) : zgb (zbl N) N (zgp N) zgq Go.Proofs.Try.f36 (mkS [(0, .v (.pair .str (.pair (.int .i64) (.pair (.int .i64) (.pair (.sl (.pair (.int .i64) (.pair .str .unit))) .unit))))), (0, .v (.ptr .str))] 0 x) (z8o (.v .bool) 2) = zl6 N x.1 x.2.1 := by kernel_rfl

def z85 (N : Nat) : List A -> Res := z38 [(0, .v (.pair .str (.pair (.int .i64) (.pair (.int .i64) (.pair (.sl (.pair (.int .i64) (.pair .str .unit))) .unit))))), (0, .v (.ptr .str))] (fun x => zl6 N x.1 x.2.1) (zgv (.v .bool) 2)

theorem zet (N : Nat) : Contract Go.Proofs.Try.prog z1c 36 (z85 N) :=
  Contract.of (E := zbl N) (H := zgp N) (L := zgq) (N := N) (body := zin) (K := (z8o (.v .bool) 2)) (zki N) Go.Proofs.Try.func36 (by kernel_rfl) (by decide) (fun _ hb => TabOk.nil) (fun x y h => by rw [zim]; exact h) (z2l (s := (.v .bool)) (m := 2))

def z6g : Code := (Go.Proofs.Try.f35.body).getD .skip

def zal : List (List Nat × List Nat) := [([0], [0, 1]), ([0, 0, 1], [8, 7, 1, 0]), ([0, 1, 0, 1], [8, 7, 1, 0]), ([0, 0, 0, 1, 0, 1], [9, 8, 1, 0, 7]), ([0, 1, 0, 0, 1, 0, 1], [8, 1, 0, 7]), ([1, 0, 1, 0, 0, 1, 0, 1], []), ([0, 0, 0, 1, 1, 0, 0, 1, 0, 1], [1, 0, 5, 8, 7]), ([0, 1, 0, 0, 1, 1, 0, 0, 1, 0, 1], [16, 5, 8, 7, 1, 0]), ([1, 1, 0, 0, 1, 1, 0, 0, 1, 0, 1], [8, 7, 1, 0]), ([0, 0, 1, 1, 0, 0, 1, 1, 0, 0, 1, 0, 1], [4]), ([1, 0, 1, 1, 0, 0, 1, 1, 0, 0, 1, 0, 1], [4]), ([0, 1, 1, 0, 0, 1, 0, 1], [8, 7, 1, 0]), ([1, 1, 1, 0, 0, 1, 0, 1], [8, 7, 1, 0]), ([1, 0, 1], []), ([0, 1, 1], [4]), ([1, 1, 1], [4])]

def z6u (N : Nat) : Env := z7s tys z1c [(36, z85 N)] [] [] [] false [] []

theorem zji (N : Nat) : EnvOk Go.Proofs.Try.prog (z6u N) := z1v mixed z3t (FnsOk.cons (zet N) (FnsOk.nil)) (ItsOk.nil)

def z8l (N : Nat) (s : (List ((List UInt8) × (Int × (Int × ((List (Int × ((List UInt8) × Unit))) × Unit)))))) (f : ((List UInt8) × Unit)) (x7 : Int) (x8 : Int) (rec : Int -> Option Int) (k0 : Int -> Option Int) (k1 : Option Int) : Option Int :=
 cond (decide (x8 < x7))
 (cond (Go.Lift.inR x8 (List.length s))
 (cond ((List.getD s (Int.toNat x8) (([] : List UInt8), ((0 : Int), ((0 : Int), (([] : List (Int × ((List UInt8) × Unit))), ()))))).1 == f.1)
 (k0 x8)
 (rec (Go.IntKind.wrap Go.IntKind.i64 (x8 + (1 : Int)))))
 (none))
 (k1)

def zdf (N : Nat) (s : (List ((List UInt8) × (Int × (Int × ((List (Int × ((List UInt8) × Unit))) × Unit)))))) (f : ((List UInt8) × Unit)) (x7 : Int) (x8 : Int) (k0 : Int -> Option Int) (k1 : Option Int) : Option Int :=
 iter (fun (v : Int) r => z8l N s f x7 v (fun x8 => (r x8)) k0 k1) N x8

def zdh (N : Nat) (i : ((List ((List UInt8) × (Int × (Int × ((List (Int × ((List UInt8) × Unit))) × Unit))))) × ((List UInt8) × Unit) × Int)) (v : Int) (r : Int -> Option Int) (K : Ex -> List A -> Option Int) : Option Int :=
 z8l N i.1 i.2.1 i.2.2 v (fun x8 => (r x8)) (fun a0 => (K .ret (mkS [(4, .v (.int .i64))] 14 (a0, ())))) (K (.exit 0) (mkS [] 19 ()))

def zdg (N : Nat) : Hd Int := fun st K => (unS [(0, .v (.sl (.pair .str (.pair (.int .i64) (.pair (.int .i64) (.pair (.sl (.pair (.int .i64) (.pair .str .unit))) .unit)))))), (0, .v (.fn 36 (.pair (.ptr .str) .unit))), (5, .v (.int .i64)), (0, .v (.int .i64))] 10 (restr [8, 7, 1, 0] 0 st)).bind fun x => iter (fun v r => zdh N ((fun x => (x.1, x.2.1, x.2.2.1)) x) v r K) N ((fun x => x.2.2.2.1) x)

def zkr (N : Nat) : Tab Int := []

theorem zjh {N : Nat} {c : Ctx} (hb : Base Go.Proofs.Try.prog (z6u N) c) : z1a Go.Proofs.Try.prog c (zp z6g [0, 1, 0, 1]) (zdg N) :=
  z8j (s := [(0, .v (.sl (.pair .str (.pair (.int .i64) (.pair (.int .i64) (.pair (.sl (.pair (.int .i64) (.pair .str .unit))) .unit)))))), (0, .v (.fn 36 (.pair (.ptr .str) .unit))), (5, .v (.int .i64)), (0, .v (.int .i64))]) (m := 10) (zdh N) [8, 7, 1, 0] N (fun x => (x.1, x.2.1, x.2.2.1)) (fun x => x.2.2.2.1) (fun i v => (i.1, i.2.1, i.2.2, v, ())) (fun _ => rfl) (zo hb N (zkr N) zal z6g TabOk.nil [0, 0, 1, 0, 1] _ rfl) (fun i v r K => by kernel_rfl)

def z7l (N : Nat) (s : (List ((List UInt8) × (Int × (Int × ((List (Int × ((List UInt8) × Unit))) × Unit)))))) (f : ((List UInt8) × Unit)) : Option Int :=
 zdf N s f (((List.length s) : Nat) : Int) (0 : Int)
 (fun x4 => some x4)
 (some (-(1 : Int)))

def zf6 (N : Nat) : Tab Int := [([0, 1, 0, 1], zdg N)]

theorem zhl (N : Nat) (x : z2m [(0, .v (.sl (.pair .str (.pair (.int .i64) (.pair (.int .i64) (.pair (.sl (.pair (.int .i64) (.pair .str .unit))) .unit)))))), (0, .v (.fn 36 (.pair (.ptr .str) .unit)))]) : zgb (z6u N) N (zf6 N) zal Go.Proofs.Try.f35 (mkS [(0, .v (.sl (.pair .str (.pair (.int .i64) (.pair (.int .i64) (.pair (.sl (.pair (.int .i64) (.pair .str .unit))) .unit)))))), (0, .v (.fn 36 (.pair (.ptr .str) .unit)))] 0 x) (z8o (.v (.int .i64)) 2) = z7l N x.1 x.2.1 := by kernel_rfl

def zc1 (N : Nat) : List A -> Res := z38 [(0, .v (.sl (.pair .str (.pair (.int .i64) (.pair (.int .i64) (.pair (.sl (.pair (.int .i64) (.pair .str .unit))) .unit)))))), (0, .v (.fn 36 (.pair (.ptr .str) .unit)))] (fun x => z7l N x.1 x.2.1) (zgv (.v (.int .i64)) 2)

theorem zkt (N : Nat) : Contract Go.Proofs.Try.prog z1c 35 (zc1 N) :=
  Contract.of (E := z6u N) (H := zf6 N) (L := zal) (N := N) (body := z6g) (K := (z8o (.v (.int .i64)) 2)) (zji N) Go.Proofs.Try.func35 (by kernel_rfl) (by decide) (fun _ hb => (TabOk.cons (zjh hb) TabOk.nil)) (fun x y h => by rw [zhl]; exact h) (z2l (s := (.v (.int .i64))) (m := 2))

def zkh : Code := (Go.Proofs.Try.f21.body).getD .skip

def zil : List (List Nat × List Nat) := [([0], [2, 3]), ([0, 1], [4]), ([1, 1], [4])]

def zdu (N : Nat) : Env := z7s tys z1c [(35, zc1 N), (36, z85 N)] [] [] [] false [] []

theorem zme (N : Nat) : EnvOk Go.Proofs.Try.prog (zdu N) := z1v mixed z3t (FnsOk.cons (zkt N) (FnsOk.cons (zet N) (FnsOk.nil))) (ItsOk.nil)

def z64 (N : Nat) (s : ((List ((List UInt8) × (Int × (Int × ((List (Int × ((List UInt8) × Unit))) × Unit))))) × (Int × Unit))) (tenant : (List UInt8)) : Option Int :=
 (z7l N s.1 (tenant, ())).bind fun y =>
 some y

def zik (N : Nat) : Tab Int := []

theorem zkg (N : Nat) (x : z2m [(0, .v (.pair (.sl (.pair .str (.pair (.int .i64) (.pair (.int .i64) (.pair (.sl (.pair (.int .i64) (.pair .str .unit))) .unit))))) (.pair (.int .i64) .unit))), (0, .v .str)]) : zgb (zdu N) N (zik N) zil Go.Proofs.Try.f21 (mkS [(0, .v (.pair (.sl (.pair .str (.pair (.int .i64) (.pair (.int .i64) (.pair (.sl (.pair (.int .i64) (.pair .str .unit))) .unit))))) (.pair (.int .i64) .unit))), (0, .v .str)] 0 x) (z8o (.v (.int .i64)) 2) = z64 N x.1 x.2.1 := by kernel_rfl

def za0 (N : Nat) : List A -> Res := z38 [(0, .v (.pair (.sl (.pair .str (.pair (.int .i64) (.pair (.int .i64) (.pair (.sl (.pair (.int .i64) (.pair .str .unit))) .unit))))) (.pair (.int .i64) .unit))), (0, .v .str)] (fun x => z64 N x.1 x.2.1) (zgv (.v (.int .i64)) 2)

theorem zbk (N : Nat) : Contract Go.Proofs.Try.prog z1c 21 (za0 N) :=
  Contract.of (E := zdu N) (H := zik N) (L := zil) (N := N) (body := zkh) (K := (z8o (.v (.int .i64)) 2)) (zme N) Go.Proofs.Try.func21 (by kernel_rfl) (by decide) (fun _ hb => TabOk.nil) (fun x y h => by rw [zkg]; exact h) (z2l (s := (.v (.int .i64))) (m := 2))

def zhe : Code := (Go.Proofs.Try.f44.body).getD .skip

def zei : List (List Nat × List Nat) := [([0], [2, 1]), ([0, 1], [3]), ([1, 1], [3])]

def z9t (N : Nat) : Env := z7s tys z1c [] [] [] [] false [] []

theorem zid (N : Nat) : EnvOk Go.Proofs.Try.prog (z9t N) := z1v mixed z3t (FnsOk.nil) (ItsOk.nil)

def zie (N : Nat) (k : (Int × ((List UInt8) × Unit))) (x1 : Int) : Option Bool :=
 some (k.1 == x1)

def zeh (N : Nat) : Tab Bool := []

theorem zhd (N : Nat) (x : z2m [(0, .v (.pair (.int .i64) (.pair .str .unit))), (0, .v (.ptr (.int .i64)))]) : zgb (z9t N) N (zeh N) zei Go.Proofs.Try.f44 (mkS [(0, .v (.pair (.int .i64) (.pair .str .unit))), (0, .v (.ptr (.int .i64)))] 0 x) (z8o (.v .bool) 2) = zie N x.1 x.2.1 := by kernel_rfl

def z7b (N : Nat) : List A -> Res := z38 [(0, .v (.pair (.int .i64) (.pair .str .unit))), (0, .v (.ptr (.int .i64)))] (fun x => zie N x.1 x.2.1) (zgv (.v .bool) 2)

theorem zd4 (N : Nat) : Contract Go.Proofs.Try.prog z1c 44 (z7b N) :=
  Contract.of (E := z9t N) (H := zeh N) (L := zei) (N := N) (body := zhe) (K := (z8o (.v .bool) 2)) (zid N) Go.Proofs.Try.func44 (by kernel_rfl) (by decide) (fun _ hb => TabOk.nil) (fun x y h => by rw [zhd]; exact h) (z2l (s := (.v .bool)) (m := 2))

def zam : Code := (Go.Proofs.Try.f43.body).getD .skip

def zg6 : List (List Nat × List Nat) := [([0], [0, 1]), ([0, 0, 1], [8, 7, 1, 0]), ([0, 1, 0, 1], [8, 7, 1, 0]), ([0, 0, 0, 1, 0, 1], [9, 8, 1, 0, 7]), ([0, 1, 0, 0, 1, 0, 1], [8, 1, 0, 7]), ([1, 0, 1, 0, 0, 1, 0, 1], []), ([0, 0, 0, 1, 1, 0, 0, 1, 0, 1], [1, 0, 5, 8, 7]), ([0, 1, 0, 0, 1, 1, 0, 0, 1, 0, 1], [16, 5, 8, 7, 1, 0]), ([1, 1, 0, 0, 1, 1, 0, 0, 1, 0, 1], [8, 7, 1, 0]), ([0, 0, 1, 1, 0, 0, 1, 1, 0, 0, 1, 0, 1], [4]), ([1, 0, 1, 1, 0, 0, 1, 1, 0, 0, 1, 0, 1], [4]), ([0, 1, 1, 0, 0, 1, 0, 1], [8, 7, 1, 0]), ([1, 1, 1, 0, 0, 1, 0, 1], [8, 7, 1, 0]), ([1, 0, 1], []), ([0, 1, 1], [4]), ([1, 1, 1], [4])]

def zcm (N : Nat) : Env := z7s tys z1c [(44, z7b N)] [] [] [] false [] []

theorem zo2 (N : Nat) : EnvOk Go.Proofs.Try.prog (zcm N) := z1v mixed z3t (FnsOk.cons (zd4 N) (FnsOk.nil)) (ItsOk.nil)

def ze0 (N : Nat) (s : (List (Int × ((List UInt8) × Unit)))) (f : (Int × Unit)) (x7 : Int) (x8 : Int) (rec : Int -> Option Int) (k0 : Int -> Option Int) (k1 : Option Int) : Option Int :=
 cond (decide (x8 < x7))
 (cond (Go.Lift.inR x8 (List.length s))
 (cond ((List.getD s (Int.toNat x8) ((0 : Int), (([] : List UInt8), ()))).1 == f.1)
 (k0 x8)
 (rec (Go.IntKind.wrap Go.IntKind.i64 (x8 + (1 : Int)))))
 (none))
 (k1)

def zjj (N : Nat) (s : (List (Int × ((List UInt8) × Unit)))) (f : (Int × Unit)) (x7 : Int) (x8 : Int) (k0 : Int -> Option Int) (k1 : Option Int) : Option Int :=
 iter (fun (v : Int) r => ze0 N s f x7 v (fun x8 => (r x8)) k0 k1) N x8

def zjl (N : Nat) (i : ((List (Int × ((List UInt8) × Unit))) × (Int × Unit) × Int)) (v : Int) (r : Int -> Option Int) (K : Ex -> List A -> Option Int) : Option Int :=
 ze0 N i.1 i.2.1 i.2.2 v (fun x8 => (r x8)) (fun a0 => (K .ret (mkS [(4, .v (.int .i64))] 14 (a0, ())))) (K (.exit 0) (mkS [] 19 ()))

def zjk (N : Nat) : Hd Int := fun st K => (unS [(0, .v (.sl (.pair (.int .i64) (.pair .str .unit)))), (0, .v (.fn 44 (.pair (.ptr (.int .i64)) .unit))), (5, .v (.int .i64)), (0, .v (.int .i64))] 10 (restr [8, 7, 1, 0] 0 st)).bind fun x => iter (fun v r => zjl N ((fun x => (x.1, x.2.1, x.2.2.1)) x) v r K) N ((fun x => x.2.2.2.1) x)

def zpl (N : Nat) : Tab Int := []

theorem zo1 {N : Nat} {c : Ctx} (hb : Base Go.Proofs.Try.prog (zcm N) c) : z1a Go.Proofs.Try.prog c (zp zam [0, 1, 0, 1]) (zjk N) :=
  z8j (s := [(0, .v (.sl (.pair (.int .i64) (.pair .str .unit)))), (0, .v (.fn 44 (.pair (.ptr (.int .i64)) .unit))), (5, .v (.int .i64)), (0, .v (.int .i64))]) (m := 10) (zjl N) [8, 7, 1, 0] N (fun x => (x.1, x.2.1, x.2.2.1)) (fun x => x.2.2.2.1) (fun i v => (i.1, i.2.1, i.2.2, v, ())) (fun _ => rfl) (zo hb N (zpl N) zg6 zam TabOk.nil [0, 0, 1, 0, 1] _ rfl) (fun i v r K => by kernel_rfl)

def zf7 (N : Nat) (s : (List (Int × ((List UInt8) × Unit)))) (f : (Int × Unit)) : Option Int :=
 zjj N s f (((List.length s) : Nat) : Int) (0 : Int)
 (fun x4 => some x4)
 (some (-(1 : Int)))

def zlk (N : Nat) : Tab Int := [([0, 1, 0, 1], zjk N)]

theorem zmt (N : Nat) (x : z2m [(0, .v (.sl (.pair (.int .i64) (.pair .str .unit)))), (0, .v (.fn 44 (.pair (.ptr (.int .i64)) .unit)))]) : zgb (zcm N) N (zlk N) zg6 Go.Proofs.Try.f43 (mkS [(0, .v (.sl (.pair (.int .i64) (.pair .str .unit)))), (0, .v (.fn 44 (.pair (.ptr (.int .i64)) .unit)))] 0 x) (z8o (.v (.int .i64)) 2) = zf7 N x.1 x.2.1 := by kernel_rfl

def zh3 (N : Nat) : List A -> Res := z38 [(0, .v (.sl (.pair (.int .i64) (.pair .str .unit)))), (0, .v (.fn 44 (.pair (.ptr (.int .i64)) .unit)))] (fun x => zf7 N x.1 x.2.1) (zgv (.v (.int .i64)) 2)

theorem zpn (N : Nat) : Contract Go.Proofs.Try.prog z1c 43 (zh3 N) :=
  Contract.of (E := zcm N) (H := zlk N) (L := zg6) (N := N) (body := zam) (K := (z8o (.v (.int .i64)) 2)) (zo2 N) Go.Proofs.Try.func43 (by kernel_rfl) (by decide) (fun _ hb => (TabOk.cons (zo1 hb) TabOk.nil)) (fun x y h => by rw [zmt]; exact h) (z2l (s := (.v (.int .i64))) (m := 2))

def zic : Code := (Go.Proofs.Try.f34.body).getD .skip

def zgl : List (List Nat × List Nat) := [([0], [0, 3]), ([0, 1], [4]), ([1, 1], [4])]

def zbh (N : Nat) : Env := z7s tys z1c [(43, zh3 N), (44, z7b N)] [] [] [] false [] []

theorem zk6 (N : Nat) : EnvOk Go.Proofs.Try.prog (zbh N) := z1v mixed z3t (FnsOk.cons (zpn N) (FnsOk.cons (zd4 N) (FnsOk.nil))) (ItsOk.nil)

def z5t (N : Nat) (l : (List (Int × ((List UInt8) × Unit)))) (num : Int) : Option Int :=
 (zf7 N l (num, ())).bind fun y =>
 some y

def zgk (N : Nat) : Tab Int := []

theorem zib (N : Nat) (x : z2m [(0, .v (.sl (.pair (.int .i64) (.pair .str .unit)))), (0, .v (.int .i64))]) : zgb (zbh N) N (zgk N) zgl Go.Proofs.Try.f34 (mkS [(0, .v (.sl (.pair (.int .i64) (.pair .str .unit)))), (0, .v (.int .i64))] 0 x) (z8o (.v (.int .i64)) 2) = z5t N x.1 x.2.1 := by kernel_rfl

def zk5 (N : Nat) : List A -> Res := z38 [(0, .v (.sl (.pair (.int .i64) (.pair .str .unit)))), (0, .v (.int .i64))] (fun x => z5t N x.1 x.2.1) (zgv (.v (.int .i64)) 2)

theorem zm5 (N : Nat) : Contract Go.Proofs.Try.prog z1c 34 (zk5 N) :=
  Contract.of (E := zbh N) (H := zgk N) (L := zgl) (N := N) (body := zic) (K := (z8o (.v (.int .i64)) 2)) (zk6 N) Go.Proofs.Try.func34 (by kernel_rfl) (by decide) (fun _ hb => TabOk.nil) (fun x y h => by rw [zib]; exact h) (z2l (s := (.v (.int .i64))) (m := 2))

def z33 : Code := (Go.Proofs.Try.f19.body).getD .skip

def z6t : List (List Nat × List Nat) := [([0], [2, 1, 4]), ([0, 1], [6, 2, 4]), ([0, 0, 1, 1], [22, 4, 2, 6]), ([1, 0, 1, 1], [2, 6, 4]), ([0, 0, 1, 0, 1, 1], [4, 5]), ([1, 0, 1, 0, 1, 1], [4, 5]), ([0, 1, 1, 1], [7, 4]), ([0, 1, 1, 1, 1], [4, 5]), ([1, 1, 1, 1, 1], [4, 5])]

def z4z (N : Nat) : Env := z7s tys z1c [(21, za0 N)] [(7, (.pair (.int .i64) (.pair .str .unit)))] [] [] false [] []

theorem zii (N : Nat) : EnvOk Go.Proofs.Try.prog (z4z N) := z1v mixed z3t (FnsOk.cons (zbk N) (FnsOk.nil)) (ItsOk.nil)

def zd6 (N : Nat) (s : ((List ((List UInt8) × (Int × (Int × ((List (Int × ((List UInt8) × Unit))) × Unit))))) × (Int × Unit))) (x4 : (Int × ((List UInt8) × Unit))) (at_ : Int) (k0 : Bool -> Option ((Int × ((List UInt8) × Unit)) × Bool × Unit)) : Option ((Int × ((List UInt8) × Unit)) × Bool × Unit) :=
 cond (decide (at_ < (0 : Int)))
 (k0 true)
 (cond (Go.Lift.inR at_ (List.length s.1))
 (k0 ((((List.length (List.getD s.1 (Int.toNat at_) (([] : List UInt8), ((0 : Int), ((0 : Int), (([] : List (Int × ((List UInt8) × Unit))), ()))))).2.2.2.1) : Nat) : Int) == (0 : Int)))
 (none))

def zda (N : Nat) (x : z2m [(2, .box (.pair (.sl (.pair .str (.pair (.int .i64) (.pair (.int .i64) (.pair (.sl (.pair (.int .i64) (.pair .str .unit))) .unit))))) (.pair (.int .i64) .unit))), (1, .box (.pair (.int .i64) (.pair .str .unit))), (1, .v (.int .i64))]) (K : Ex -> List A -> Option ((Int × ((List UInt8) × Unit)) × Bool × Unit)) : Option ((Int × ((List UInt8) × Unit)) × Bool × Unit) :=
 zd6 N x.1 x.2.1 x.2.2.1 (fun a3 => (K .normal (mkS [(2, .box (.pair (.sl (.pair .str (.pair (.int .i64) (.pair (.int .i64) (.pair (.sl (.pair (.int .i64) (.pair .str .unit))) .unit))))) (.pair (.int .i64) .unit))), (1, .box (.pair (.int .i64) (.pair .str .unit))), (1, .v (.int .i64)), (15, .v .bool)] 13 (x.1, x.2.1, x.2.2.1, a3, ()))))

def zd8 (N : Nat) : Hd ((Int × ((List UInt8) × Unit)) × Bool × Unit) := fun st K => (unS [(2, .box (.pair (.sl (.pair .str (.pair (.int .i64) (.pair (.int .i64) (.pair (.sl (.pair (.int .i64) (.pair .str .unit))) .unit))))) (.pair (.int .i64) .unit))), (1, .box (.pair (.int .i64) (.pair .str .unit))), (1, .v (.int .i64))] 29 (restr [6, 2, 4] 0 st)).bind fun x => zda N x K

def zkc (N : Nat) : Tab ((Int × ((List UInt8) × Unit)) × Bool × Unit) := []

theorem zig {N : Nat} {c : Ctx} (hb : Base Go.Proofs.Try.prog (z4z N) c) : z1a Go.Proofs.Try.prog c (zp z33 [0, 0, 1, 1]) (zd8 N) :=
  z1e (s := [(2, .box (.pair (.sl (.pair .str (.pair (.int .i64) (.pair (.int .i64) (.pair (.sl (.pair (.int .i64) (.pair .str .unit))) .unit))))) (.pair (.int .i64) .unit))), (1, .box (.pair (.int .i64) (.pair .str .unit))), (1, .v (.int .i64))]) (m := 29) (g := zda N) [6, 2, 4] (zo hb N (zkc N) z6t z33 TabOk.nil [0, 0, 1, 1] _ rfl) (fun x K => by kernel_rfl)

def zd7 (N : Nat) (s : ((List ((List UInt8) × (Int × (Int × ((List (Int × ((List UInt8) × Unit))) × Unit))))) × (Int × Unit))) (x4 : (Int × ((List UInt8) × Unit))) (at_ : Int) (k0 : (Int × ((List UInt8) × Unit)) -> Bool -> Option ((Int × ((List UInt8) × Unit)) × Bool × Unit)) (k1 : Option ((Int × ((List UInt8) × Unit)) × Bool × Unit)) : Option ((Int × ((List UInt8) × Unit)) × Bool × Unit) :=
 zd6 N s x4 at_
 (fun x22 => cond x22
 (k0 ((0 : Int), (([] : List UInt8), ())) false)
 (k1))

def zdb (N : Nat) (x : z2m [(2, .box (.pair (.sl (.pair .str (.pair (.int .i64) (.pair (.int .i64) (.pair (.sl (.pair (.int .i64) (.pair .str .unit))) .unit))))) (.pair (.int .i64) .unit))), (1, .box (.pair (.int .i64) (.pair .str .unit))), (1, .v (.int .i64))]) (K : Ex -> List A -> Option ((Int × ((List UInt8) × Unit)) × Bool × Unit)) : Option ((Int × ((List UInt8) × Unit)) × Bool × Unit) :=
 zd7 N x.1 x.2.1 x.2.2.1 (fun a0 a1 => (K .ret (mkS [(4, .box (.pair (.int .i64) (.pair .str .unit))), (0, .v .bool)] 30 (a0, a1, ())))) (K .normal (mkS [(2, .box (.pair (.sl (.pair .str (.pair (.int .i64) (.pair (.int .i64) (.pair (.sl (.pair (.int .i64) (.pair .str .unit))) .unit))))) (.pair (.int .i64) .unit))), (1, .box (.pair (.int .i64) (.pair .str .unit))), (1, .v (.int .i64))] 29 (x.1, x.2.1, x.2.2.1, ())))

def zd9 (N : Nat) : Hd ((Int × ((List UInt8) × Unit)) × Bool × Unit) := fun st K => (unS [(2, .box (.pair (.sl (.pair .str (.pair (.int .i64) (.pair (.int .i64) (.pair (.sl (.pair (.int .i64) (.pair .str .unit))) .unit))))) (.pair (.int .i64) .unit))), (1, .box (.pair (.int .i64) (.pair .str .unit))), (1, .v (.int .i64))] 29 (restr [6, 2, 4] 0 st)).bind fun x => zdb N x K

def zkd (N : Nat) : Tab ((Int × ((List UInt8) × Unit)) × Bool × Unit) := [([0, 0, 1, 1], zd8 N)]

theorem zih {N : Nat} {c : Ctx} (hb : Base Go.Proofs.Try.prog (z4z N) c) : z1a Go.Proofs.Try.prog c (zp z33 [0, 1, 1]) (zd9 N) :=
  z1e (s := [(2, .box (.pair (.sl (.pair .str (.pair (.int .i64) (.pair (.int .i64) (.pair (.sl (.pair (.int .i64) (.pair .str .unit))) .unit))))) (.pair (.int .i64) .unit))), (1, .box (.pair (.int .i64) (.pair .str .unit))), (1, .v (.int .i64))]) (m := 29) (g := zdb N) [6, 2, 4] (zo hb N (zkd N) z6t z33 (TabOk.cons (zig hb) TabOk.nil) [0, 1, 1] _ rfl) (fun x K => by kernel_rfl)

def zds (N : Nat) (s : ((List ((List UInt8) × (Int × (Int × ((List (Int × ((List UInt8) × Unit))) × Unit))))) × (Int × Unit))) (tenant : (List UInt8)) : Option ((Int × ((List UInt8) × Unit)) × Bool × Unit) :=
 (z64 N s tenant).bind fun y =>
 zd7 N s ((0 : Int), (([] : List UInt8), ())) y
 (fun x4 x5 => some (x4, (x5, ())))
 (cond (Go.Lift.inR y (List.length s.1))
 (cond (Go.Lift.inR (Go.IntKind.wrap Go.IntKind.i64 ((((List.length (List.getD s.1 (Int.toNat y) (([] : List UInt8), ((0 : Int), ((0 : Int), (([] : List (Int × ((List UInt8) × Unit))), ()))))).2.2.2.1) : Nat) : Int) - (1 : Int))) (List.length (List.getD s.1 (Int.toNat y) (([] : List UInt8), ((0 : Int), ((0 : Int), (([] : List (Int × ((List UInt8) × Unit))), ()))))).2.2.2.1))
 (some ((List.getD (List.getD s.1 (Int.toNat y) (([] : List UInt8), ((0 : Int), ((0 : Int), (([] : List (Int × ((List UInt8) × Unit))), ()))))).2.2.2.1 (Int.toNat (Go.IntKind.wrap Go.IntKind.i64 ((((List.length (List.getD s.1 (Int.toNat y) (([] : List UInt8), ((0 : Int), ((0 : Int), (([] : List (Int × ((List UInt8) × Unit))), ()))))).2.2.2.1) : Nat) : Int) - (1 : Int)))) ((0 : Int), (([] : List UInt8), ()))), (true, ())))
 (none))
 (none))

def zes (N : Nat) : Tab ((Int × ((List UInt8) × Unit)) × Bool × Unit) := [([0, 1, 1], zd9 N)]

theorem zhf (N : Nat) (x : z2m [(0, .v (.pair (.sl (.pair .str (.pair (.int .i64) (.pair (.int .i64) (.pair (.sl (.pair (.int .i64) (.pair .str .unit))) .unit))))) (.pair (.int .i64) .unit))), (0, .v .str)]) : zgb (z4z N) N (zes N) z6t Go.Proofs.Try.f19 (mkS [(0, .v (.pair (.sl (.pair .str (.pair (.int .i64) (.pair (.int .i64) (.pair (.sl (.pair (.int .i64) (.pair .str .unit))) .unit))))) (.pair (.int .i64) .unit))), (0, .v .str)] 0 x) (z8o (.tup [(.pair (.int .i64) (.pair .str .unit)), .bool]) 2) = zds N x.1 x.2.1 := by kernel_rfl

def zbi (N : Nat) : List A -> Res := z38 [(0, .v (.pair (.sl (.pair .str (.pair (.int .i64) (.pair (.int .i64) (.pair (.sl (.pair (.int .i64) (.pair .str .unit))) .unit))))) (.pair (.int .i64) .unit))), (0, .v .str)] (fun x => zds N x.1 x.2.1) (zgv (.tup [(.pair (.int .i64) (.pair .str .unit)), .bool]) 2)

theorem zke (N : Nat) : Contract Go.Proofs.Try.prog z1c 19 (zbi N) :=
  Contract.of (E := z4z N) (H := zes N) (L := z6t) (N := N) (body := z33) (K := (z8o (.tup [(.pair (.int .i64) (.pair .str .unit)), .bool]) 2)) (zii N) Go.Proofs.Try.func19 (by kernel_rfl) (by decide) (fun _ hb => (TabOk.cons (zih hb) TabOk.nil)) (fun x y h => by rw [zhf]; exact h) (z2l (s := (.tup [(.pair (.int .i64) (.pair .str .unit)), .bool])) (m := 2))

def z1b : Code := (Go.Proofs.Try.f6.body).getD .skip

def z24 : List (List Nat × List Nat) := [([0], [1]), ([0, 0, 1], [7, 1]), ([1, 0, 1], [1]), ([0, 0, 1, 0, 1], [2]), ([1, 0, 1, 0, 1], [2]), ([0, 0, 1, 1], [3, 1]), ([0, 1, 0, 1, 1], [3, 1]), ([0, 0, 0, 0, 1, 0, 1, 1], [12, 1, 3]), ([1, 0, 0, 0, 1, 0, 1, 1], [1, 3]), ([1, 1, 0, 0, 0, 1, 0, 1, 1], []), ([0, 0, 0, 1, 0, 0, 1, 0, 1, 1], [32, 3, 1]), ([1, 0, 0, 1, 0, 0, 1, 0, 1, 1], [3, 1]), ([0, 0, 1, 0, 0, 1, 0, 0, 1, 0, 1, 1], [2]), ([1, 0, 1, 0, 0, 1, 0, 0, 1, 0, 1, 1], [2]), ([0, 1, 0, 0, 1, 0, 1, 1], [3, 1]), ([1, 1, 0, 0, 1, 0, 1, 1], [3, 1]), ([1, 0, 1, 1], []), ([0, 1, 1, 1], [2]), ([1, 1, 1, 1], [2])]

def z1t (N : Nat) : Env := z7s tys z1c [] [] [] [] false [] []

theorem zbt (N : Nat) : EnvOk Go.Proofs.Try.prog (z1t N) := z1v mixed z3t (FnsOk.nil) (ItsOk.nil)

def z3r (N : Nat) (s : ((List ((List UInt8) × (Int × (Int × ((List (Int × ((List UInt8) × Unit))) × Unit))))) × (Int × Unit))) (i : Int) (k0 : Bool -> Option Bool) : Option Bool :=
 cond (Go.Lift.inR i (List.length s.1))
 (cond (decide ((12 : Int) < (((List.length (List.getD s.1 (Int.toNat i) (([] : List UInt8), ((0 : Int), ((0 : Int), (([] : List (Int × ((List UInt8) × Unit))), ()))))).2.2.2.1) : Nat) : Int)))
 (k0 true)
 (cond (Go.Lift.inR i (List.length s.1))
 (k0 (decide ((100 : Int) < (((List.length (List.getD s.1 (Int.toNat i) (([] : List UInt8), ((0 : Int), ((0 : Int), (([] : List (Int × ((List UInt8) × Unit))), ()))))).1) : Nat) : Int))))
 (none)))
 (none)

def z6n (N : Nat) (x : z2m [(1, .box (.pair (.sl (.pair .str (.pair (.int .i64) (.pair (.int .i64) (.pair (.sl (.pair (.int .i64) (.pair .str .unit))) .unit))))) (.pair (.int .i64) .unit))), (1, .v (.int .i64))]) (K : Ex -> List A -> Option Bool) : Option Bool :=
 z3r N x.1 x.2.1 (fun a2 => (K .normal (mkS [(1, .box (.pair (.sl (.pair .str (.pair (.int .i64) (.pair (.int .i64) (.pair (.sl (.pair (.int .i64) (.pair .str .unit))) .unit))))) (.pair (.int .i64) .unit))), (1, .v (.int .i64)), (28, .v .bool)] 0 (x.1, x.2.1, a2, ()))))

def z6k (N : Nat) : Hd Bool := fun st K => (unS [(1, .box (.pair (.sl (.pair .str (.pair (.int .i64) (.pair (.int .i64) (.pair (.sl (.pair (.int .i64) (.pair .str .unit))) .unit))))) (.pair (.int .i64) .unit))), (1, .v (.int .i64))] 29 (restr [1, 3] 0 st)).bind fun x => z6n N x K

def zcw (N : Nat) : Tab Bool := []

theorem zbq {N : Nat} {c : Ctx} (hb : Base Go.Proofs.Try.prog (z1t N) c) : z1a Go.Proofs.Try.prog c (zp z1b [0, 0, 0, 1, 0, 0, 1, 0, 1, 1]) (z6k N) :=
  z1e (s := [(1, .box (.pair (.sl (.pair .str (.pair (.int .i64) (.pair (.int .i64) (.pair (.sl (.pair (.int .i64) (.pair .str .unit))) .unit))))) (.pair (.int .i64) .unit))), (1, .v (.int .i64))]) (m := 29) (g := z6n N) [1, 3] (zo hb N (zcw N) z24 z1b TabOk.nil [0, 0, 0, 1, 0, 0, 1, 0, 1, 1] _ rfl) (fun x K => by kernel_rfl)

def z3s (N : Nat) (s : ((List ((List UInt8) × (Int × (Int × ((List (Int × ((List UInt8) × Unit))) × Unit))))) × (Int × Unit))) (i : Int) (k0 : Bool -> Option Bool) (k1 : Option Bool) : Option Bool :=
 z3r N s i
 (fun x32 => cond x32
 (k0 true)
 (k1))

def z6o (N : Nat) (x : z2m [(1, .box (.pair (.sl (.pair .str (.pair (.int .i64) (.pair (.int .i64) (.pair (.sl (.pair (.int .i64) (.pair .str .unit))) .unit))))) (.pair (.int .i64) .unit))), (1, .v (.int .i64))]) (K : Ex -> List A -> Option Bool) : Option Bool :=
 z3s N x.1 x.2.1 (fun a0 => (K .ret (mkS [(2, .v .bool)] 30 (a0, ())))) (K .normal (mkS [(1, .box (.pair (.sl (.pair .str (.pair (.int .i64) (.pair (.int .i64) (.pair (.sl (.pair (.int .i64) (.pair .str .unit))) .unit))))) (.pair (.int .i64) .unit))), (1, .v (.int .i64))] 29 (x.1, x.2.1, ())))

def z6l (N : Nat) : Hd Bool := fun st K => (unS [(1, .box (.pair (.sl (.pair .str (.pair (.int .i64) (.pair (.int .i64) (.pair (.sl (.pair (.int .i64) (.pair .str .unit))) .unit))))) (.pair (.int .i64) .unit))), (1, .v (.int .i64))] 29 (restr [1, 3] 0 st)).bind fun x => z6o N x K

def zcx (N : Nat) : Tab Bool := [([0, 0, 0, 1, 0, 0, 1, 0, 1, 1], z6k N)]

theorem zbr {N : Nat} {c : Ctx} (hb : Base Go.Proofs.Try.prog (z1t N) c) : z1a Go.Proofs.Try.prog c (zp z1b [0, 1, 0, 0, 1, 0, 1, 1]) (z6l N) :=
  z1e (s := [(1, .box (.pair (.sl (.pair .str (.pair (.int .i64) (.pair (.int .i64) (.pair (.sl (.pair (.int .i64) (.pair .str .unit))) .unit))))) (.pair (.int .i64) .unit))), (1, .v (.int .i64))]) (m := 29) (g := z6o N) [1, 3] (zo hb N (zcx N) z24 z1b (TabOk.cons (zbq hb) TabOk.nil) [0, 1, 0, 0, 1, 0, 1, 1] _ rfl) (fun x K => by kernel_rfl)

def z3q (N : Nat) (s : ((List ((List UInt8) × (Int × (Int × ((List (Int × ((List UInt8) × Unit))) × Unit))))) × (Int × Unit))) (i : Int) (rec : Int -> Option Bool) (k0 : Bool -> Option Bool) (k1 : Option Bool) : Option Bool :=
 cond (decide (i < (((List.length s.1) : Nat) : Int)))
 (z3s N s i
 (fun x2 => k0 x2)
 (rec (Go.IntKind.wrap Go.IntKind.i64 (i + (1 : Int)))))
 (k1)

def z6j (N : Nat) (s : ((List ((List UInt8) × (Int × (Int × ((List (Int × ((List UInt8) × Unit))) × Unit))))) × (Int × Unit))) (i : Int) (k0 : Bool -> Option Bool) (k1 : Option Bool) : Option Bool :=
 iter (fun (v : Int) r => z3q N s v (fun i => (r i)) k0 k1) N i

def z6p (N : Nat) (i : ((List ((List UInt8) × (Int × (Int × ((List (Int × ((List UInt8) × Unit))) × Unit))))) × (Int × Unit))) (v : Int) (r : Int -> Option Bool) (K : Ex -> List A -> Option Bool) : Option Bool :=
 z3q N i v (fun i => (r i)) (fun a0 => (K .ret (mkS [(2, .v .bool)] 30 (a0, ())))) (K (.exit 0) (mkS [] 33 ()))

def z6m (N : Nat) : Hd Bool := fun st K => (unS [(1, .box (.pair (.sl (.pair .str (.pair (.int .i64) (.pair (.int .i64) (.pair (.sl (.pair (.int .i64) (.pair .str .unit))) .unit))))) (.pair (.int .i64) .unit))), (1, .v (.int .i64))] 29 (restr [3, 1] 0 st)).bind fun x => iter (fun v r => z6p N ((fun x => x.1) x) v r K) N ((fun x => x.2.1) x)

def zcy (N : Nat) : Tab Bool := [([0, 1, 0, 0, 1, 0, 1, 1], z6l N)]

theorem zbs {N : Nat} {c : Ctx} (hb : Base Go.Proofs.Try.prog (z1t N) c) : z1a Go.Proofs.Try.prog c (zp z1b [0, 1, 0, 1, 1]) (z6m N) :=
  z8j (s := [(1, .box (.pair (.sl (.pair .str (.pair (.int .i64) (.pair (.int .i64) (.pair (.sl (.pair (.int .i64) (.pair .str .unit))) .unit))))) (.pair (.int .i64) .unit))), (1, .v (.int .i64))]) (m := 29) (z6p N) [3, 1] N (fun x => x.1) (fun x => x.2.1) (fun i v => (i, v, ())) (fun _ => rfl) (zo hb N (zcy N) z24 z1b (TabOk.cons (zbr hb) TabOk.nil) [0, 0, 1, 0, 1, 1] _ rfl) (fun i v r K => by kernel_rfl)

def z2a (N : Nat) (s : ((List ((List UInt8) × (Int × (Int × ((List (Int × ((List UInt8) × Unit))) × Unit))))) × (Int × Unit))) : Option Bool :=
 cond (decide ((20 : Int) < (((List.length s.1) : Nat) : Int)))
 (some true)
 (z6j N s (0 : Int)
 (fun x2 => some x2)
 (some false))

def z7d (N : Nat) : Tab Bool := [([0, 1, 0, 1, 1], z6m N)]

theorem zb2 (N : Nat) (x : z2m [(0, .v (.pair (.sl (.pair .str (.pair (.int .i64) (.pair (.int .i64) (.pair (.sl (.pair (.int .i64) (.pair .str .unit))) .unit))))) (.pair (.int .i64) .unit)))]) : zgb (z1t N) N (z7d N) z24 Go.Proofs.Try.f6 (mkS [(0, .v (.pair (.sl (.pair .str (.pair (.int .i64) (.pair (.int .i64) (.pair (.sl (.pair (.int .i64) (.pair .str .unit))) .unit))))) (.pair (.int .i64) .unit)))] 0 x) (z8o (.v .bool) 1) = z2a N x.1 := by kernel_rfl

def z65 (N : Nat) : List A -> Res := z38 [(0, .v (.pair (.sl (.pair .str (.pair (.int .i64) (.pair (.int .i64) (.pair (.sl (.pair (.int .i64) (.pair .str .unit))) .unit))))) (.pair (.int .i64) .unit)))] (fun x => z2a N x.1) (zgv (.v .bool) 1)

theorem zcz (N : Nat) : Contract Go.Proofs.Try.prog z1c 6 (z65 N) :=
  Contract.of (E := z1t N) (H := z7d N) (L := z24) (N := N) (body := z1b) (K := (z8o (.v .bool) 1)) (zbt N) Go.Proofs.Try.func6 (by kernel_rfl) (by decide) (fun _ hb => (TabOk.cons (zbs hb) TabOk.nil)) (fun x y h => by rw [zb2]; exact h) (z2l (s := (.v .bool)) (m := 1))

def za : Code := (Go.Proofs.Try.f14.body).getD .skip

def z11 : List (List Nat × List Nat) := [([0], [2, 3]), ([0, 0, 1], [22, 2, 3]), ([1, 0, 1], [2, 3]), ([0, 0, 1, 0, 1], [4]), ([1, 0, 1, 0, 1], [4]), ([0, 0, 1, 1], [5, 2, 3]), ([0, 1, 0, 1, 1], [5, 2, 3]), ([0, 0, 0, 0, 1, 0, 1, 1], [27, 2, 5, 3]), ([1, 0, 0, 0, 1, 0, 1, 1], [2, 5, 3]), ([1, 1, 0, 0, 0, 1, 0, 1, 1], []), ([0, 0, 0, 1, 0, 0, 1, 0, 1, 1], [6, 7, 5, 2, 3]), ([0, 0, 1, 0, 0, 1, 0, 0, 1, 0, 1, 1], [67, 6, 7, 5, 2, 3]), ([1, 0, 1, 0, 0, 1, 0, 0, 1, 0, 1, 1], [6, 7, 5, 2, 3]), ([0, 0, 1, 0, 1, 0, 0, 1, 0, 0, 1, 0, 1, 1], [4]), ([1, 0, 1, 0, 1, 0, 0, 1, 0, 0, 1, 0, 1, 1], [4]), ([0, 1, 1, 0, 0, 1, 0, 0, 1, 0, 1, 1], [8, 6, 7, 5, 2, 3]), ([0, 1, 1, 1, 0, 0, 1, 0, 0, 1, 0, 1, 1], [8, 6, 7, 5, 2, 3]), ([0, 0, 0, 0, 1, 1, 1, 0, 0, 1, 0, 0, 1, 0, 1, 1], [72, 6, 8, 7, 5, 2, 3]), ([1, 0, 0, 0, 1, 1, 1, 0, 0, 1, 0, 0, 1, 0, 1, 1], [6, 8, 7, 5, 2, 3]), ([1, 1, 0, 0, 0, 1, 1, 1, 0, 0, 1, 0, 0, 1, 0, 1, 1], [5, 2, 3]), ([0, 0, 0, 1, 0, 0, 1, 1, 1, 0, 0, 1, 0, 0, 1, 0, 1, 1], [85, 8, 6, 7, 5, 2, 3]), ([1, 0, 0, 1, 0, 0, 1, 1, 1, 0, 0, 1, 0, 0, 1, 0, 1, 1], [8, 6, 7, 5, 2, 3]), ([0, 0, 1, 0, 0, 1, 0, 0, 1, 1, 1, 0, 0, 1, 0, 0, 1, 0, 1, 1], [4]), ([1, 0, 1, 0, 0, 1, 0, 0, 1, 1, 1, 0, 0, 1, 0, 0, 1, 0, 1, 1], [4]), ([0, 1, 0, 0, 1, 1, 1, 0, 0, 1, 0, 0, 1, 0, 1, 1], [8, 6, 7, 5, 2, 3]), ([1, 1, 0, 0, 1, 1, 1, 0, 0, 1, 0, 0, 1, 0, 1, 1], [8, 6, 7, 5, 2, 3]), ([1, 1, 1, 0, 0, 1, 0, 0, 1, 0, 1, 1], [5, 2, 3]), ([0, 1, 0, 0, 1, 0, 1, 1], [5, 2, 3]), ([1, 1, 0, 0, 1, 0, 1, 1], [5, 2, 3]), ([1, 0, 1, 1], []), ([0, 1, 1, 1], [4]), ([1, 1, 1, 1], [4])]

def zw (N : Nat) : Env := z7s tys z1c [] [] [] [] false [] []

theorem z9e (N : Nat) : EnvOk Go.Proofs.Try.prog (zw N) := z1v mixed z3t (FnsOk.nil) (ItsOk.nil)

def z2y (N : Nat) (a : ((List ((List UInt8) × (Int × (Int × ((List (Int × ((List UInt8) × Unit))) × Unit))))) × (Int × Unit))) (b : ((List ((List UInt8) × (Int × (Int × ((List (Int × ((List UInt8) × Unit))) × Unit))))) × (Int × Unit))) (k0 : Bool -> Option Bool) : Option Bool :=
 cond (a.2.1 != b.2.1)
 (k0 true)
 (k0 ((((List.length a.1) : Nat) : Int) != (((List.length b.1) : Nat) : Int)))

def z5f (N : Nat) (x : z2m [(2, .box (.pair (.sl (.pair .str (.pair (.int .i64) (.pair (.int .i64) (.pair (.sl (.pair (.int .i64) (.pair .str .unit))) .unit))))) (.pair (.int .i64) .unit))), (0, .box (.pair (.sl (.pair .str (.pair (.int .i64) (.pair (.int .i64) (.pair (.sl (.pair (.int .i64) (.pair .str .unit))) .unit))))) (.pair (.int .i64) .unit)))]) (K : Ex -> List A -> Option Bool) : Option Bool :=
 z2y N x.1 x.2.1 (fun a2 => (K .normal (mkS [(2, .box (.pair (.sl (.pair .str (.pair (.int .i64) (.pair (.int .i64) (.pair (.sl (.pair (.int .i64) (.pair .str .unit))) .unit))))) (.pair (.int .i64) .unit))), (0, .box (.pair (.sl (.pair .str (.pair (.int .i64) (.pair (.int .i64) (.pair (.sl (.pair (.int .i64) (.pair .str .unit))) .unit))))) (.pair (.int .i64) .unit))), (18, .v .bool)] 63 (x.1, x.2.1, a2, ()))))

def z58 (N : Nat) : Hd Bool := fun st K => (unS [(2, .box (.pair (.sl (.pair .str (.pair (.int .i64) (.pair (.int .i64) (.pair (.sl (.pair (.int .i64) (.pair .str .unit))) .unit))))) (.pair (.int .i64) .unit))), (0, .box (.pair (.sl (.pair .str (.pair (.int .i64) (.pair (.int .i64) (.pair (.sl (.pair (.int .i64) (.pair .str .unit))) .unit))))) (.pair (.int .i64) .unit)))] 82 (restr [2, 3] 0 st)).bind fun x => z5f N x K

def za7 (N : Nat) : Tab Bool := []

theorem z9c {N : Nat} {c : Ctx} (hb : Base Go.Proofs.Try.prog (zw N) c) : z1a Go.Proofs.Try.prog c (zp za [0, 0, 1]) (z58 N) :=
  z1e (s := [(2, .box (.pair (.sl (.pair .str (.pair (.int .i64) (.pair (.int .i64) (.pair (.sl (.pair (.int .i64) (.pair .str .unit))) .unit))))) (.pair (.int .i64) .unit))), (0, .box (.pair (.sl (.pair .str (.pair (.int .i64) (.pair (.int .i64) (.pair (.sl (.pair (.int .i64) (.pair .str .unit))) .unit))))) (.pair (.int .i64) .unit)))]) (m := 82) (g := z5f N) [2, 3] (zo hb N (za7 N) z11 za TabOk.nil [0, 0, 1] _ rfl) (fun x K => by kernel_rfl)

def z2z (N : Nat) (a : ((List ((List UInt8) × (Int × (Int × ((List (Int × ((List UInt8) × Unit))) × Unit))))) × (Int × Unit))) (b : ((List ((List UInt8) × (Int × (Int × ((List (Int × ((List UInt8) × Unit))) × Unit))))) × (Int × Unit))) (k0 : Bool -> Option Bool) (k1 : Option Bool) : Option Bool :=
 z2y N a b
 (fun x22 => cond x22
 (k0 false)
 (k1))

def z5g (N : Nat) (x : z2m [(2, .box (.pair (.sl (.pair .str (.pair (.int .i64) (.pair (.int .i64) (.pair (.sl (.pair (.int .i64) (.pair .str .unit))) .unit))))) (.pair (.int .i64) .unit))), (0, .box (.pair (.sl (.pair .str (.pair (.int .i64) (.pair (.int .i64) (.pair (.sl (.pair (.int .i64) (.pair .str .unit))) .unit))))) (.pair (.int .i64) .unit)))]) (K : Ex -> List A -> Option Bool) : Option Bool :=
 z2z N x.1 x.2.1 (fun a0 => (K .ret (mkS [(4, .v .bool)] 81 (a0, ())))) (K .normal (mkS [(2, .box (.pair (.sl (.pair .str (.pair (.int .i64) (.pair (.int .i64) (.pair (.sl (.pair (.int .i64) (.pair .str .unit))) .unit))))) (.pair (.int .i64) .unit))), (0, .box (.pair (.sl (.pair .str (.pair (.int .i64) (.pair (.int .i64) (.pair (.sl (.pair (.int .i64) (.pair .str .unit))) .unit))))) (.pair (.int .i64) .unit)))] 82 (x.1, x.2.1, ())))

def z59 (N : Nat) : Hd Bool := fun st K => (unS [(2, .box (.pair (.sl (.pair .str (.pair (.int .i64) (.pair (.int .i64) (.pair (.sl (.pair (.int .i64) (.pair .str .unit))) .unit))))) (.pair (.int .i64) .unit))), (0, .box (.pair (.sl (.pair .str (.pair (.int .i64) (.pair (.int .i64) (.pair (.sl (.pair (.int .i64) (.pair .str .unit))) .unit))))) (.pair (.int .i64) .unit)))] 82 (restr [2, 3] 0 st)).bind fun x => z5g N x K

def za8 (N : Nat) : Tab Bool := [([0, 0, 1], z58 N)]

theorem z9d {N : Nat} {c : Ctx} (hb : Base Go.Proofs.Try.prog (zw N) c) : z1a Go.Proofs.Try.prog c (zp za [0, 1]) (z59 N) :=
  z1e (s := [(2, .box (.pair (.sl (.pair .str (.pair (.int .i64) (.pair (.int .i64) (.pair (.sl (.pair (.int .i64) (.pair .str .unit))) .unit))))) (.pair (.int .i64) .unit))), (0, .box (.pair (.sl (.pair .str (.pair (.int .i64) (.pair (.int .i64) (.pair (.sl (.pair (.int .i64) (.pair .str .unit))) .unit))))) (.pair (.int .i64) .unit)))]) (m := 82) (g := z5g N) [2, 3] (zo hb N (za8 N) z11 za (TabOk.cons (z9c hb) TabOk.nil) [0, 1] _ rfl) (fun x K => by kernel_rfl)

def z2v (N : Nat) (a : ((List ((List UInt8) × (Int × (Int × ((List (Int × ((List UInt8) × Unit))) × Unit))))) × (Int × Unit))) (b : ((List ((List UInt8) × (Int × (Int × ((List (Int × ((List UInt8) × Unit))) × Unit))))) × (Int × Unit))) (i : Int) (x6 : ((List UInt8) × (Int × (Int × ((List (Int × ((List UInt8) × Unit))) × Unit))))) (y : ((List UInt8) × (Int × (Int × ((List (Int × ((List UInt8) × Unit))) × Unit))))) (k0 : Bool -> Option Bool) : Option Bool :=
 cond (!(x6.1 == y.1))
 (k0 true)
 (cond (x6.2.1 != y.2.1)
 (k0 true)
 (cond (x6.2.2.1 != y.2.2.1)
 (k0 true)
 (k0 ((((List.length x6.2.2.2.1) : Nat) : Int) != (((List.length y.2.2.2.1) : Nat) : Int)))))

def z5b (N : Nat) (x : z2m [(2, .box (.pair (.sl (.pair .str (.pair (.int .i64) (.pair (.int .i64) (.pair (.sl (.pair (.int .i64) (.pair .str .unit))) .unit))))) (.pair (.int .i64) .unit))), (0, .box (.pair (.sl (.pair .str (.pair (.int .i64) (.pair (.int .i64) (.pair (.sl (.pair (.int .i64) (.pair .str .unit))) .unit))))) (.pair (.int .i64) .unit))), (1, .v (.int .i64)), (0, .box (.pair .str (.pair (.int .i64) (.pair (.int .i64) (.pair (.sl (.pair (.int .i64) (.pair .str .unit))) .unit))))), (0, .box (.pair .str (.pair (.int .i64) (.pair (.int .i64) (.pair (.sl (.pair (.int .i64) (.pair .str .unit))) .unit)))))]) (K : Ex -> List A -> Option Bool) : Option Bool :=
 z2v N x.1 x.2.1 x.2.2.1 x.2.2.2.1 x.2.2.2.2.1 (fun a5 => (K .normal (mkS [(2, .box (.pair (.sl (.pair .str (.pair (.int .i64) (.pair (.int .i64) (.pair (.sl (.pair (.int .i64) (.pair .str .unit))) .unit))))) (.pair (.int .i64) .unit))), (0, .box (.pair (.sl (.pair .str (.pair (.int .i64) (.pair (.int .i64) (.pair (.sl (.pair (.int .i64) (.pair .str .unit))) .unit))))) (.pair (.int .i64) .unit))), (1, .v (.int .i64)), (0, .box (.pair .str (.pair (.int .i64) (.pair (.int .i64) (.pair (.sl (.pair (.int .i64) (.pair .str .unit))) .unit))))), (0, .box (.pair .str (.pair (.int .i64) (.pair (.int .i64) (.pair (.sl (.pair (.int .i64) (.pair .str .unit))) .unit))))), (59, .v .bool)] 18 (x.1, x.2.1, x.2.2.1, x.2.2.2.1, x.2.2.2.2.1, a5, ()))))

def z54 (N : Nat) : Hd Bool := fun st K => (unS [(2, .box (.pair (.sl (.pair .str (.pair (.int .i64) (.pair (.int .i64) (.pair (.sl (.pair (.int .i64) (.pair .str .unit))) .unit))))) (.pair (.int .i64) .unit))), (0, .box (.pair (.sl (.pair .str (.pair (.int .i64) (.pair (.int .i64) (.pair (.sl (.pair (.int .i64) (.pair .str .unit))) .unit))))) (.pair (.int .i64) .unit))), (1, .v (.int .i64)), (0, .box (.pair .str (.pair (.int .i64) (.pair (.int .i64) (.pair (.sl (.pair (.int .i64) (.pair .str .unit))) .unit))))), (0, .box (.pair .str (.pair (.int .i64) (.pair (.int .i64) (.pair (.sl (.pair (.int .i64) (.pair .str .unit))) .unit)))))] 78 (restr [6, 7, 5, 2, 3] 0 st)).bind fun x => z5b N x K

def za3 (N : Nat) : Tab Bool := []

theorem z98 {N : Nat} {c : Ctx} (hb : Base Go.Proofs.Try.prog (zw N) c) : z1a Go.Proofs.Try.prog c (zp za [0, 0, 1, 0, 0, 1, 0, 0, 1, 0, 1, 1]) (z54 N) :=
  z1e (s := [(2, .box (.pair (.sl (.pair .str (.pair (.int .i64) (.pair (.int .i64) (.pair (.sl (.pair (.int .i64) (.pair .str .unit))) .unit))))) (.pair (.int .i64) .unit))), (0, .box (.pair (.sl (.pair .str (.pair (.int .i64) (.pair (.int .i64) (.pair (.sl (.pair (.int .i64) (.pair .str .unit))) .unit))))) (.pair (.int .i64) .unit))), (1, .v (.int .i64)), (0, .box (.pair .str (.pair (.int .i64) (.pair (.int .i64) (.pair (.sl (.pair (.int .i64) (.pair .str .unit))) .unit))))), (0, .box (.pair .str (.pair (.int .i64) (.pair (.int .i64) (.pair (.sl (.pair (.int .i64) (.pair .str .unit))) .unit)))))]) (m := 78) (g := z5b N) [6, 7, 5, 2, 3] (zo hb N (za3 N) z11 za TabOk.nil [0, 0, 1, 0, 0, 1, 0, 0, 1, 0, 1, 1] _ rfl) (fun x K => by kernel_rfl)

def z2w (N : Nat) (a : ((List ((List UInt8) × (Int × (Int × ((List (Int × ((List UInt8) × Unit))) × Unit))))) × (Int × Unit))) (b : ((List ((List UInt8) × (Int × (Int × ((List (Int × ((List UInt8) × Unit))) × Unit))))) × (Int × Unit))) (i : Int) (x6 : ((List UInt8) × (Int × (Int × ((List (Int × ((List UInt8) × Unit))) × Unit))))) (y : ((List UInt8) × (Int × (Int × ((List (Int × ((List UInt8) × Unit))) × Unit))))) (k0 : Bool -> Option Bool) (k1 : Option Bool) : Option Bool :=
 z2v N a b i x6 y
 (fun x67 => cond x67
 (k0 false)
 (k1))

def z5c (N : Nat) (x : z2m [(2, .box (.pair (.sl (.pair .str (.pair (.int .i64) (.pair (.int .i64) (.pair (.sl (.pair (.int .i64) (.pair .str .unit))) .unit))))) (.pair (.int .i64) .unit))), (0, .box (.pair (.sl (.pair .str (.pair (.int .i64) (.pair (.int .i64) (.pair (.sl (.pair (.int .i64) (.pair .str .unit))) .unit))))) (.pair (.int .i64) .unit))), (1, .v (.int .i64)), (0, .box (.pair .str (.pair (.int .i64) (.pair (.int .i64) (.pair (.sl (.pair (.int .i64) (.pair .str .unit))) .unit))))), (0, .box (.pair .str (.pair (.int .i64) (.pair (.int .i64) (.pair (.sl (.pair (.int .i64) (.pair .str .unit))) .unit)))))]) (K : Ex -> List A -> Option Bool) : Option Bool :=
 z2w N x.1 x.2.1 x.2.2.1 x.2.2.2.1 x.2.2.2.2.1 (fun a0 => (K .ret (mkS [(4, .v .bool)] 81 (a0, ())))) (K .normal (mkS [(2, .box (.pair (.sl (.pair .str (.pair (.int .i64) (.pair (.int .i64) (.pair (.sl (.pair (.int .i64) (.pair .str .unit))) .unit))))) (.pair (.int .i64) .unit))), (0, .box (.pair (.sl (.pair .str (.pair (.int .i64) (.pair (.int .i64) (.pair (.sl (.pair (.int .i64) (.pair .str .unit))) .unit))))) (.pair (.int .i64) .unit))), (1, .v (.int .i64)), (0, .box (.pair .str (.pair (.int .i64) (.pair (.int .i64) (.pair (.sl (.pair (.int .i64) (.pair .str .unit))) .unit))))), (0, .box (.pair .str (.pair (.int .i64) (.pair (.int .i64) (.pair (.sl (.pair (.int .i64) (.pair .str .unit))) .unit)))))] 78 (x.1, x.2.1, x.2.2.1, x.2.2.2.1, x.2.2.2.2.1, ())))

def z55 (N : Nat) : Hd Bool := fun st K => (unS [(2, .box (.pair (.sl (.pair .str (.pair (.int .i64) (.pair (.int .i64) (.pair (.sl (.pair (.int .i64) (.pair .str .unit))) .unit))))) (.pair (.int .i64) .unit))), (0, .box (.pair (.sl (.pair .str (.pair (.int .i64) (.pair (.int .i64) (.pair (.sl (.pair (.int .i64) (.pair .str .unit))) .unit))))) (.pair (.int .i64) .unit))), (1, .v (.int .i64)), (0, .box (.pair .str (.pair (.int .i64) (.pair (.int .i64) (.pair (.sl (.pair (.int .i64) (.pair .str .unit))) .unit))))), (0, .box (.pair .str (.pair (.int .i64) (.pair (.int .i64) (.pair (.sl (.pair (.int .i64) (.pair .str .unit))) .unit)))))] 78 (restr [6, 7, 5, 2, 3] 0 st)).bind fun x => z5c N x K

def za4 (N : Nat) : Tab Bool := [([0, 0, 1, 0, 0, 1, 0, 0, 1, 0, 1, 1], z54 N)]

theorem z99 {N : Nat} {c : Ctx} (hb : Base Go.Proofs.Try.prog (zw N) c) : z1a Go.Proofs.Try.prog c (zp za [0, 1, 0, 0, 1, 0, 0, 1, 0, 1, 1]) (z55 N) :=
  z1e (s := [(2, .box (.pair (.sl (.pair .str (.pair (.int .i64) (.pair (.int .i64) (.pair (.sl (.pair (.int .i64) (.pair .str .unit))) .unit))))) (.pair (.int .i64) .unit))), (0, .box (.pair (.sl (.pair .str (.pair (.int .i64) (.pair (.int .i64) (.pair (.sl (.pair (.int .i64) (.pair .str .unit))) .unit))))) (.pair (.int .i64) .unit))), (1, .v (.int .i64)), (0, .box (.pair .str (.pair (.int .i64) (.pair (.int .i64) (.pair (.sl (.pair (.int .i64) (.pair .str .unit))) .unit))))), (0, .box (.pair .str (.pair (.int .i64) (.pair (.int .i64) (.pair (.sl (.pair (.int .i64) (.pair .str .unit))) .unit)))))]) (m := 78) (g := z5c N) [6, 7, 5, 2, 3] (zo hb N (za4 N) z11 za (TabOk.cons (z98 hb) TabOk.nil) [0, 1, 0, 0, 1, 0, 0, 1, 0, 1, 1] _ rfl) (fun x K => by kernel_rfl)

def z2t (N : Nat) (a : ((List ((List UInt8) × (Int × (Int × ((List (Int × ((List UInt8) × Unit))) × Unit))))) × (Int × Unit))) (b : ((List ((List UInt8) × (Int × (Int × ((List (Int × ((List UInt8) × Unit))) × Unit))))) × (Int × Unit))) (i : Int) (x6 : ((List UInt8) × (Int × (Int × ((List (Int × ((List UInt8) × Unit))) × Unit))))) (y : ((List UInt8) × (Int × (Int × ((List (Int × ((List UInt8) × Unit))) × Unit))))) (k : Int) (rec : Int -> Option Bool) (k0 : Bool -> Option Bool) (k1 : Option Bool) : Option Bool :=
 cond (decide (k < (((List.length x6.2.2.2.1) : Nat) : Int)))
 (cond (Go.Lift.inR k (List.length x6.2.2.2.1))
 (cond (Go.Lift.inR k (List.length y.2.2.2.1))
 (cond (!(Go.Lift.eqD (Go.Lift.unT (Go.Lift.T.pair (Go.Lift.T.int Go.IntKind.i64) (Go.Lift.T.pair Go.Lift.T.str Go.Lift.T.unit))) (List.getD x6.2.2.2.1 (Int.toNat k) ((0 : Int), (([] : List UInt8), ()))) (List.getD y.2.2.2.1 (Int.toNat k) ((0 : Int), (([] : List UInt8), ())))))
 (k0 false)
 (rec (Go.IntKind.wrap Go.IntKind.i64 (k + (1 : Int)))))
 (none))
 (none))
 (k1)

def z51 (N : Nat) (a : ((List ((List UInt8) × (Int × (Int × ((List (Int × ((List UInt8) × Unit))) × Unit))))) × (Int × Unit))) (b : ((List ((List UInt8) × (Int × (Int × ((List (Int × ((List UInt8) × Unit))) × Unit))))) × (Int × Unit))) (i : Int) (x6 : ((List UInt8) × (Int × (Int × ((List (Int × ((List UInt8) × Unit))) × Unit))))) (y : ((List UInt8) × (Int × (Int × ((List (Int × ((List UInt8) × Unit))) × Unit))))) (k : Int) (k0 : Bool -> Option Bool) (k1 : Option Bool) : Option Bool :=
 iter (fun (v : Int) r => z2t N a b i x6 y v (fun k => (r k)) k0 k1) N k

def z5a (N : Nat) (i : (((List ((List UInt8) × (Int × (Int × ((List (Int × ((List UInt8) × Unit))) × Unit))))) × (Int × Unit)) × ((List ((List UInt8) × (Int × (Int × ((List (Int × ((List UInt8) × Unit))) × Unit))))) × (Int × Unit)) × Int × ((List UInt8) × (Int × (Int × ((List (Int × ((List UInt8) × Unit))) × Unit)))) × ((List UInt8) × (Int × (Int × ((List (Int × ((List UInt8) × Unit))) × Unit)))))) (v : Int) (r : Int -> Option Bool) (K : Ex -> List A -> Option Bool) : Option Bool :=
 z2t N i.1 i.2.1 i.2.2.1 i.2.2.2.1 i.2.2.2.2 v (fun k => (r k)) (fun a0 => (K .ret (mkS [(4, .v .bool)] 81 (a0, ())))) (K (.exit 2) (mkS [(2, .box (.pair (.sl (.pair .str (.pair (.int .i64) (.pair (.int .i64) (.pair (.sl (.pair (.int .i64) (.pair .str .unit))) .unit))))) (.pair (.int .i64) .unit))), (0, .box (.pair (.sl (.pair .str (.pair (.int .i64) (.pair (.int .i64) (.pair (.sl (.pair (.int .i64) (.pair .str .unit))) .unit))))) (.pair (.int .i64) .unit))), (1, .v (.int .i64))] 80 (i.1, i.2.1, i.2.2.1, ())))

def z53 (N : Nat) : Hd Bool := fun st K => (unS [(2, .box (.pair (.sl (.pair .str (.pair (.int .i64) (.pair (.int .i64) (.pair (.sl (.pair (.int .i64) (.pair .str .unit))) .unit))))) (.pair (.int .i64) .unit))), (0, .box (.pair (.sl (.pair .str (.pair (.int .i64) (.pair (.int .i64) (.pair (.sl (.pair (.int .i64) (.pair .str .unit))) .unit))))) (.pair (.int .i64) .unit))), (1, .v (.int .i64)), (0, .box (.pair .str (.pair (.int .i64) (.pair (.int .i64) (.pair (.sl (.pair (.int .i64) (.pair .str .unit))) .unit))))), (0, .box (.pair .str (.pair (.int .i64) (.pair (.int .i64) (.pair (.sl (.pair (.int .i64) (.pair .str .unit))) .unit))))), (0, .v (.int .i64))] 77 (restr [8, 6, 7, 5, 2, 3] 0 st)).bind fun x => iter (fun v r => z5a N ((fun x => (x.1, x.2.1, x.2.2.1, x.2.2.2.1, x.2.2.2.2.1)) x) v r K) N ((fun x => x.2.2.2.2.2.1) x)

def za2 (N : Nat) : Tab Bool := []

theorem z97 {N : Nat} {c : Ctx} (hb : Base Go.Proofs.Try.prog (zw N) c) : z1a Go.Proofs.Try.prog c (zp za [0, 1, 1, 1, 0, 0, 1, 0, 0, 1, 0, 1, 1]) (z53 N) :=
  z8j (s := [(2, .box (.pair (.sl (.pair .str (.pair (.int .i64) (.pair (.int .i64) (.pair (.sl (.pair (.int .i64) (.pair .str .unit))) .unit))))) (.pair (.int .i64) .unit))), (0, .box (.pair (.sl (.pair .str (.pair (.int .i64) (.pair (.int .i64) (.pair (.sl (.pair (.int .i64) (.pair .str .unit))) .unit))))) (.pair (.int .i64) .unit))), (1, .v (.int .i64)), (0, .box (.pair .str (.pair (.int .i64) (.pair (.int .i64) (.pair (.sl (.pair (.int .i64) (.pair .str .unit))) .unit))))), (0, .box (.pair .str (.pair (.int .i64) (.pair (.int .i64) (.pair (.sl (.pair (.int .i64) (.pair .str .unit))) .unit))))), (0, .v (.int .i64))]) (m := 77) (z5a N) [8, 6, 7, 5, 2, 3] N (fun x => (x.1, x.2.1, x.2.2.1, x.2.2.2.1, x.2.2.2.2.1)) (fun x => x.2.2.2.2.2.1) (fun i v => (i.1, i.2.1, i.2.2.1, i.2.2.2.1, i.2.2.2.2, v, ())) (fun _ => rfl) (zo hb N (za2 N) z11 za TabOk.nil [0, 0, 1, 1, 1, 0, 0, 1, 0, 0, 1, 0, 1, 1] _ rfl) (fun i v r K => by kernel_rfl)

def z2x (N : Nat) (a : ((List ((List UInt8) × (Int × (Int × ((List (Int × ((List UInt8) × Unit))) × Unit))))) × (Int × Unit))) (b : ((List ((List UInt8) × (Int × (Int × ((List (Int × ((List UInt8) × Unit))) × Unit))))) × (Int × Unit))) (i : Int) (k0 : Bool -> Option Bool) (k1 : Option Bool) : Option Bool :=
 cond (Go.Lift.inR i (List.length a.1))
 (cond (Go.Lift.inR i (List.length b.1))
 (z2w N a b i (List.getD a.1 (Int.toNat i) (([] : List UInt8), ((0 : Int), ((0 : Int), (([] : List (Int × ((List UInt8) × Unit))), ()))))) (List.getD b.1 (Int.toNat i) (([] : List UInt8), ((0 : Int), ((0 : Int), (([] : List (Int × ((List UInt8) × Unit))), ())))))
 (fun x4 => k0 x4)
 (z51 N a b i (List.getD a.1 (Int.toNat i) (([] : List UInt8), ((0 : Int), ((0 : Int), (([] : List (Int × ((List UInt8) × Unit))), ()))))) (List.getD b.1 (Int.toNat i) (([] : List UInt8), ((0 : Int), ((0 : Int), (([] : List (Int × ((List UInt8) × Unit))), ()))))) (0 : Int)
 (fun x41 => k0 x41)
 (k1)))
 (none))
 (none)

def z5d (N : Nat) (x : z2m [(2, .box (.pair (.sl (.pair .str (.pair (.int .i64) (.pair (.int .i64) (.pair (.sl (.pair (.int .i64) (.pair .str .unit))) .unit))))) (.pair (.int .i64) .unit))), (0, .box (.pair (.sl (.pair .str (.pair (.int .i64) (.pair (.int .i64) (.pair (.sl (.pair (.int .i64) (.pair .str .unit))) .unit))))) (.pair (.int .i64) .unit))), (1, .v (.int .i64))]) (K : Ex -> List A -> Option Bool) : Option Bool :=
 z2x N x.1 x.2.1 x.2.2.1 (fun a0 => (K .ret (mkS [(4, .v .bool)] 81 (a0, ())))) (K .normal (mkS [(2, .box (.pair (.sl (.pair .str (.pair (.int .i64) (.pair (.int .i64) (.pair (.sl (.pair (.int .i64) (.pair .str .unit))) .unit))))) (.pair (.int .i64) .unit))), (0, .box (.pair (.sl (.pair .str (.pair (.int .i64) (.pair (.int .i64) (.pair (.sl (.pair (.int .i64) (.pair .str .unit))) .unit))))) (.pair (.int .i64) .unit))), (1, .v (.int .i64))] 80 (x.1, x.2.1, x.2.2.1, ())))

def z56 (N : Nat) : Hd Bool := fun st K => (unS [(2, .box (.pair (.sl (.pair .str (.pair (.int .i64) (.pair (.int .i64) (.pair (.sl (.pair (.int .i64) (.pair .str .unit))) .unit))))) (.pair (.int .i64) .unit))), (0, .box (.pair (.sl (.pair .str (.pair (.int .i64) (.pair (.int .i64) (.pair (.sl (.pair (.int .i64) (.pair .str .unit))) .unit))))) (.pair (.int .i64) .unit))), (1, .v (.int .i64))] 80 (restr [2, 5, 3] 0 st)).bind fun x => z5d N x K

def za5 (N : Nat) : Tab Bool := [([0, 1, 0, 0, 1, 0, 0, 1, 0, 1, 1], z55 N), ([0, 1, 1, 1, 0, 0, 1, 0, 0, 1, 0, 1, 1], z53 N)]

theorem z9a {N : Nat} {c : Ctx} (hb : Base Go.Proofs.Try.prog (zw N) c) : z1a Go.Proofs.Try.prog c (zp za [0, 1, 0, 0, 1, 0, 1, 1]) (z56 N) :=
  z1e (s := [(2, .box (.pair (.sl (.pair .str (.pair (.int .i64) (.pair (.int .i64) (.pair (.sl (.pair (.int .i64) (.pair .str .unit))) .unit))))) (.pair (.int .i64) .unit))), (0, .box (.pair (.sl (.pair .str (.pair (.int .i64) (.pair (.int .i64) (.pair (.sl (.pair (.int .i64) (.pair .str .unit))) .unit))))) (.pair (.int .i64) .unit))), (1, .v (.int .i64))]) (m := 80) (g := z5d N) [2, 5, 3] (zo hb N (za5 N) z11 za (TabOk.cons (z99 hb) (TabOk.cons (z97 hb) TabOk.nil)) [0, 1, 0, 0, 1, 0, 1, 1] _ rfl) (fun x K => by kernel_rfl)

def z2u (N : Nat) (a : ((List ((List UInt8) × (Int × (Int × ((List (Int × ((List UInt8) × Unit))) × Unit))))) × (Int × Unit))) (b : ((List ((List UInt8) × (Int × (Int × ((List (Int × ((List UInt8) × Unit))) × Unit))))) × (Int × Unit))) (i : Int) (rec : Int -> Option Bool) (k0 : Bool -> Option Bool) (k1 : Option Bool) : Option Bool :=
 cond (decide (i < (((List.length a.1) : Nat) : Int)))
 (z2x N a b i
 (fun x4 => k0 x4)
 (rec (Go.IntKind.wrap Go.IntKind.i64 (i + (1 : Int)))))
 (k1)

def z52 (N : Nat) (a : ((List ((List UInt8) × (Int × (Int × ((List (Int × ((List UInt8) × Unit))) × Unit))))) × (Int × Unit))) (b : ((List ((List UInt8) × (Int × (Int × ((List (Int × ((List UInt8) × Unit))) × Unit))))) × (Int × Unit))) (i : Int) (k0 : Bool -> Option Bool) (k1 : Option Bool) : Option Bool :=
 iter (fun (v : Int) r => z2u N a b v (fun i => (r i)) k0 k1) N i

def z5e (N : Nat) (i : (((List ((List UInt8) × (Int × (Int × ((List (Int × ((List UInt8) × Unit))) × Unit))))) × (Int × Unit)) × ((List ((List UInt8) × (Int × (Int × ((List (Int × ((List UInt8) × Unit))) × Unit))))) × (Int × Unit)))) (v : Int) (r : Int -> Option Bool) (K : Ex -> List A -> Option Bool) : Option Bool :=
 z2u N i.1 i.2 v (fun i => (r i)) (fun a0 => (K .ret (mkS [(4, .v .bool)] 81 (a0, ())))) (K (.exit 0) (mkS [] 86 ()))

def z57 (N : Nat) : Hd Bool := fun st K => (unS [(2, .box (.pair (.sl (.pair .str (.pair (.int .i64) (.pair (.int .i64) (.pair (.sl (.pair (.int .i64) (.pair .str .unit))) .unit))))) (.pair (.int .i64) .unit))), (0, .box (.pair (.sl (.pair .str (.pair (.int .i64) (.pair (.int .i64) (.pair (.sl (.pair (.int .i64) (.pair .str .unit))) .unit))))) (.pair (.int .i64) .unit))), (1, .v (.int .i64))] 80 (restr [5, 2, 3] 0 st)).bind fun x => iter (fun v r => z5e N ((fun x => (x.1, x.2.1)) x) v r K) N ((fun x => x.2.2.1) x)

def za6 (N : Nat) : Tab Bool := [([0, 1, 0, 0, 1, 0, 1, 1], z56 N)]

theorem z9b {N : Nat} {c : Ctx} (hb : Base Go.Proofs.Try.prog (zw N) c) : z1a Go.Proofs.Try.prog c (zp za [0, 1, 0, 1, 1]) (z57 N) :=
  z8j (s := [(2, .box (.pair (.sl (.pair .str (.pair (.int .i64) (.pair (.int .i64) (.pair (.sl (.pair (.int .i64) (.pair .str .unit))) .unit))))) (.pair (.int .i64) .unit))), (0, .box (.pair (.sl (.pair .str (.pair (.int .i64) (.pair (.int .i64) (.pair (.sl (.pair (.int .i64) (.pair .str .unit))) .unit))))) (.pair (.int .i64) .unit))), (1, .v (.int .i64))]) (m := 80) (z5e N) [5, 2, 3] N (fun x => (x.1, x.2.1)) (fun x => x.2.2.1) (fun i v => (i.1, i.2, v, ())) (fun _ => rfl) (zo hb N (za6 N) z11 za (TabOk.cons (z9a hb) TabOk.nil) [0, 0, 1, 0, 1, 1] _ rfl) (fun i v r K => by kernel_rfl)

def z1z (N : Nat) (a : ((List ((List UInt8) × (Int × (Int × ((List (Int × ((List UInt8) × Unit))) × Unit))))) × (Int × Unit))) (b : ((List ((List UInt8) × (Int × (Int × ((List (Int × ((List UInt8) × Unit))) × Unit))))) × (Int × Unit))) : Option Bool :=
 z2z N a b
 (fun x4 => some x4)
 (z52 N a b (0 : Int)
 (fun x41 => some x41)
 (some true))

def z5p (N : Nat) : Tab Bool := [([0, 1], z59 N), ([0, 1, 0, 1, 1], z57 N)]

theorem z8i (N : Nat) (x : z2m [(0, .v (.pair (.sl (.pair .str (.pair (.int .i64) (.pair (.int .i64) (.pair (.sl (.pair (.int .i64) (.pair .str .unit))) .unit))))) (.pair (.int .i64) .unit))), (0, .v (.pair (.sl (.pair .str (.pair (.int .i64) (.pair (.int .i64) (.pair (.sl (.pair (.int .i64) (.pair .str .unit))) .unit))))) (.pair (.int .i64) .unit)))]) : zgb (zw N) N (z5p N) z11 Go.Proofs.Try.f14 (mkS [(0, .v (.pair (.sl (.pair .str (.pair (.int .i64) (.pair (.int .i64) (.pair (.sl (.pair (.int .i64) (.pair .str .unit))) .unit))))) (.pair (.int .i64) .unit))), (0, .v (.pair (.sl (.pair .str (.pair (.int .i64) (.pair (.int .i64) (.pair (.sl (.pair (.int .i64) (.pair .str .unit))) .unit))))) (.pair (.int .i64) .unit)))] 0 x) (z8o (.v .bool) 2) = z1z N x.1 x.2.1 := by kernel_rfl

def z4w (N : Nat) : List A -> Res := z38 [(0, .v (.pair (.sl (.pair .str (.pair (.int .i64) (.pair (.int .i64) (.pair (.sl (.pair (.int .i64) (.pair .str .unit))) .unit))))) (.pair (.int .i64) .unit))), (0, .v (.pair (.sl (.pair .str (.pair (.int .i64) (.pair (.int .i64) (.pair (.sl (.pair (.int .i64) (.pair .str .unit))) .unit))))) (.pair (.int .i64) .unit)))] (fun x => z1z N x.1 x.2.1) (zgv (.v .bool) 2)

theorem za9 (N : Nat) : Contract Go.Proofs.Try.prog z1c 14 (z4w N) :=
  Contract.of (E := zw N) (H := z5p N) (L := z11) (N := N) (body := za) (K := (z8o (.v .bool) 2)) (z9e N) Go.Proofs.Try.func14 (by kernel_rfl) (by decide) (fun _ hb => (TabOk.cons (z9d hb) (TabOk.cons (z9b hb) TabOk.nil))) (fun x y h => by rw [z8i]; exact h) (z2l (s := (.v .bool)) (m := 2))

end
end Go.Proofs.YtobbmaplbpdniaaLg

set_option linter.all false
set_option maxRecDepth 100000
namespace Go.Proofs.YtobbmaplbpdniaaLg
noncomputable section
open Go Go.Lift Go.Proofs.YtobbmaplbpdniaaPx

abbrev zrj := Int × (List UInt8 × Unit)
abbrev zh9 := List UInt8 × (Int × (Int × (List zrj × Unit)))

def zai (next : Int) : Int -> List zrj -> Bool
  | _, [] => true
  | last, k :: l => decide (last < k.1) && (decide (k.1 < next) && (decide (k.2.1.length = 32) && zai next k.1 l))

theorem zuf (N : Nat) {t : zh9} (hN : t.2.2.2.1.length < N) (hl : t.2.2.2.1.length <= 1000000) :
    z42 N t 0 t.2.2.2.1 ((t.2.2.2.1.length : Nat) : Int) 0 (fun x21 => some x21) (some true) = some (zai t.2.2.1 0 t.2.2.2.1) := by
  rw [z42]
  refine (z8k (fun v => ∃ (i : Nat) (last : Int), v = (t, last, (i : Int)) /\ i <= t.2.2.2.1.length) (fun v => t.2.2.2.1.length - v.2.2.toNat) (fun v => some (zai t.2.2.1 v.2.1 (t.2.2.2.1.drop v.2.2.toNat))) ?_ N (t, 0, 0) ⟨0, 0, rfl, by omega⟩ (by simp only; omega)).trans (by rfl)
  rintro v r ⟨i, last, rfl, hi⟩ hr
  simp only [Int.toNat_natCast]
  rw [z40]
  by_cases hlt : i < t.2.2.2.1.length
  . rw [z3b (decide_eq_true (by omega)), z3b (z7m hlt), z41, Int.toNat_natCast, zfa t.2.2.2.1 ((0 : Int), (([] : List UInt8), ())) i hlt, zai]
    generalize List.getD t.2.2.2.1 i ((0 : Int), (([] : List UInt8), ())) = k
    rw [zci]
    by_cases h1 : last < k.1
    . rw [z3b (decide_eq_true h1), Option.bind_some, decide_eq_true h1, Bool.true_and]
      dsimp only
      by_cases h2 : k.1 < t.2.2.1
      . rw [decide_eq_true h2, Bool.not_true, cond_false, Bool.true_and]
        by_cases h3 : k.2.1.length = 32
        . rw [show ((((List.length k.2.1) : Nat) : Int) != (32 : Int)) = false by rw [h3]; rfl, cond_false, z62 (by omega), decide_eq_true h3, Bool.true_and, hr _ ⟨i + 1, k.1, rfl, by omega⟩ (by simp only; omega)]
          simp only [Int.toNat_natCast]
        . rw [show ((((List.length k.2.1) : Nat) : Int) != (32 : Int)) = true by rw [bne_iff_ne]; omega, cond_true, decide_eq_false h3, Bool.false_and]
      . rw [decide_eq_false h2, Bool.not_false, cond_true, cond_true, Bool.false_and]
    . rw [z3c (decide_eq_false h1), Option.bind_some, decide_eq_false h1]
      rfl
  . rw [z3c (decide_eq_false (by omega)), zjp _ (by omega), zai]

end
end Go.Proofs.YtobbmaplbpdniaaLg
