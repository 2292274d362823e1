import Derived.Test.YtobbmaplbpdniaaLgW
import Derived.Test.YtobbmaplbpdniaaLgPrRa1
import Derived.WalkKit
import Derived.Tactics
import Derived.Tactics2
import Derived.Lib.Hide
import Derived.Below
import Derived.WalkSmall
import Derived.LoopN
import Derived.Deep.RegionHeld3
import Derived.Laws.IdiomStrings
import Derived.Test.YtobbmaplbpdniaaChecked
import Derived.KernelRfl
set_option linter.all false
set_option maxRecDepth 100000
namespace Go.Proofs.YtobbmaplbpdniaaLg
noncomputable section
open Go Go.Lift

def ty3 : TyI := ⟨(Go.TypeDesc.int Go.IntKind.i64), 1, 8, (.int .i64), (0 : Int), false⟩

theorem z167 : TyOk Go.Proofs.Try.prog 3 ty3 := TyOk.of (by kernel_rfl) (by kernel_rfl) (by kernel_rfl) (by kernel_rfl)

def ty4 : TyI := ⟨Go.TypeDesc.bool, 1, 1, .bool, false, false⟩

theorem z166 : TyOk Go.Proofs.Try.prog 4 ty4 := TyOk.of (by kernel_rfl) (by kernel_rfl) (by kernel_rfl) (by kernel_rfl)

def ty5 : TyI := ⟨(Go.TypeDesc.int Go.IntKind.u8), 1, 1, (.int .u8), (0 : Int), false⟩

theorem z165 : TyOk Go.Proofs.Try.prog 5 ty5 := TyOk.of (by kernel_rfl) (by kernel_rfl) (by kernel_rfl) (by kernel_rfl)

def ty9 : TyI := ⟨Go.TypeDesc.string, 1, 16, .str, ([] : List UInt8), false⟩

theorem z164 : TyOk Go.Proofs.Try.prog 9 ty9 := TyOk.of (by kernel_rfl) (by kernel_rfl) (by kernel_rfl) (by kernel_rfl)

def ty21 : TyI := ⟨(Go.TypeDesc.int Go.IntKind.i32), 1, 4, (.int .i32), (0 : Int), false⟩

theorem z15a : TyOk Go.Proofs.Try.prog 21 ty21 := TyOk.of (by kernel_rfl) (by kernel_rfl) (by kernel_rfl) (by kernel_rfl)

def ty22 : TyI := ⟨(Go.TypeDesc.slice 47), 1, 24, (.sl (.pair .str (.pair (.int .i64) (.pair (.int .i64) (.pair (.sl (.pair (.int .i64) (.pair .str .unit))) .unit))))), ([] : List ((List UInt8) × (Int × (Int × ((List (Int × ((List UInt8) × Unit))) × Unit))))), false⟩

theorem z159 : TyOk Go.Proofs.Try.prog 22 ty22 := TyOk.of (by kernel_rfl) (by kernel_rfl) (by kernel_rfl) (by kernel_rfl)

def ty24 : TyI := ⟨(Go.TypeDesc.struct (List.toArray ([(Go.Field.mk "Tenants" 22 0 false "" "" 0), (Go.Field.mk "Serial" 3 1 false "" "" 24)] : List Go.Field))), 2, 32, (.pair (.sl (.pair .str (.pair (.int .i64) (.pair (.int .i64) (.pair (.sl (.pair (.int .i64) (.pair .str .unit))) .unit))))) (.pair (.int .i64) .unit)), (([] : List ((List UInt8) × (Int × (Int × ((List (Int × ((List UInt8) × Unit))) × Unit))))), (0 : Int), ()), true⟩

theorem z158 : TyOk Go.Proofs.Try.prog 24 ty24 := TyOk.of (by kernel_rfl) (by kernel_rfl) (by kernel_rfl) (by kernel_rfl)

def ty26 : TyI := ⟨(Go.TypeDesc.struct (List.toArray ([(Go.Field.mk "Kind" 3 0 false "" "" 0), (Go.Field.mk "Tenant" 9 1 false "" "" 8), (Go.Field.mk "Num" 3 2 false "" "" 24), (Go.Field.mk "Epoch" 3 3 false "" "" 32), (Go.Field.mk "Text" 9 4 false "" "" 40)] : List Go.Field))), 5, 56, (.pair (.int .i64) (.pair .str (.pair (.int .i64) (.pair (.int .i64) (.pair .str .unit))))), ((0 : Int), ([] : List UInt8), (0 : Int), (0 : Int), ([] : List UInt8), ()), true⟩

theorem z157 : TyOk Go.Proofs.Try.prog 26 ty26 := TyOk.of (by kernel_rfl) (by kernel_rfl) (by kernel_rfl) (by kernel_rfl)

def ty29 : TyI := ⟨(Go.TypeDesc.int Go.IntKind.i64), 1, 8, (.int .i64), (0 : Int), false⟩

theorem z156 : TyOk Go.Proofs.Try.prog 29 ty29 := TyOk.of (by kernel_rfl) (by kernel_rfl) (by kernel_rfl) (by kernel_rfl)

def ty35 : TyI := ⟨(Go.TypeDesc.slice 26), 1, 24, (.sl (.pair (.int .i64) (.pair .str (.pair (.int .i64) (.pair (.int .i64) (.pair .str .unit)))))), ([] : List (Int × ((List UInt8) × (Int × (Int × ((List UInt8) × Unit)))))), false⟩

theorem z155 : TyOk Go.Proofs.Try.prog 35 ty35 := TyOk.of (by kernel_rfl) (by kernel_rfl) (by kernel_rfl) (by kernel_rfl)

def ty40 : TyI := ⟨(Go.TypeDesc.struct (List.toArray ([(Go.Field.mk "Num" 3 0 false "" "" 0), (Go.Field.mk "Text" 9 1 false "" "" 8)] : List Go.Field))), 2, 24, (.pair (.int .i64) (.pair .str .unit)), ((0 : Int), ([] : List UInt8), ()), true⟩

theorem ty40_ok : TyOk Go.Proofs.Try.prog 40 ty40 := TyOk.of (by kernel_rfl) (by kernel_rfl) (by kernel_rfl) (by kernel_rfl)

def ty45 : TyI := ⟨(Go.TypeDesc.slice 40), 1, 24, (.sl (.pair (.int .i64) (.pair .str .unit))), ([] : List (Int × ((List UInt8) × Unit))), false⟩

theorem z154 : TyOk Go.Proofs.Try.prog 45 ty45 := TyOk.of (by kernel_rfl) (by kernel_rfl) (by kernel_rfl) (by kernel_rfl)

def ty47 : TyI := ⟨(Go.TypeDesc.struct (List.toArray ([(Go.Field.mk "Name" 9 0 false "" "" 0), (Go.Field.mk "Epoch" 3 1 false "" "" 16), (Go.Field.mk "Next" 3 2 false "" "" 24), (Go.Field.mk "Keys" 45 3 false "" "" 32)] : List Go.Field))), 4, 56, (.pair .str (.pair (.int .i64) (.pair (.int .i64) (.pair (.sl (.pair (.int .i64) (.pair .str .unit))) .unit)))), (([] : List UInt8), (0 : Int), (0 : Int), ([] : List (Int × ((List UInt8) × Unit))), ()), true⟩

theorem ty47_ok : TyOk Go.Proofs.Try.prog 47 ty47 := TyOk.of (by kernel_rfl) (by kernel_rfl) (by kernel_rfl) (by kernel_rfl)

def ty55 : TyI := ⟨(Go.TypeDesc.func (List.toArray ([47] : List Nat)) (List.toArray ([4] : List Nat)) false), 1, 8, .opq, Go.Value.nilFunc, false⟩

theorem z153 : TyOk Go.Proofs.Try.prog 55 ty55 := TyOk.of (by kernel_rfl) (by kernel_rfl) (by kernel_rfl) (by kernel_rfl)

def ty64 : TyI := ⟨(Go.TypeDesc.func (List.toArray ([21, 4] : List Nat)) (List.toArray ([4] : List Nat)) false), 1, 8, .opq, Go.Value.nilFunc, false⟩

theorem z152 : TyOk Go.Proofs.Try.prog 64 ty64 := TyOk.of (by kernel_rfl) (by kernel_rfl) (by kernel_rfl) (by kernel_rfl)

def ty66 : TyI := ⟨(Go.TypeDesc.func (List.toArray ([40] : List Nat)) (List.toArray ([4] : List Nat)) false), 1, 8, .opq, Go.Value.nilFunc, false⟩

theorem z151 : TyOk Go.Proofs.Try.prog 66 ty66 := TyOk.of (by kernel_rfl) (by kernel_rfl) (by kernel_rfl) (by kernel_rfl)

def tys : List (Nat × TyI) := [(3, ty3), (4, ty4), (5, ty5), (9, ty9), (21, ty21), (22, ty22), (24, ty24), (26, ty26), (29, ty29), (35, ty35), (40, ty40), (45, ty45), (47, ty47), (55, ty55), (64, ty64), (66, ty66)]

theorem z2v : TysOk Go.Proofs.Try.prog tys := TysOk.cons z167 (TysOk.cons z166 (TysOk.cons z165 (TysOk.cons z164 (TysOk.cons z15a (TysOk.cons z159 (TysOk.cons z158 (TysOk.cons z157 (TysOk.cons z156 (TysOk.cons z155 (TysOk.cons ty40_ok (TysOk.cons z154 (TysOk.cons ty47_ok (TysOk.cons z153 (TysOk.cons z152 (TysOk.cons z151 (TysOk.nil))))))))))))))))

theorem mixed : Go.Proofs.Try.prog.follows .mixedOrders = true := by kernel_rfl

def zoh : Code := (Go.Proofs.Try.f28.body).getD .skip

def zl8 : List (List Nat × List Nat) := [([0], [0, 1]), ([0, 1], [4]), ([1, 1], [4])]

def ze5 (N : Nat) : Env := z5o tys z12 [] [] [] [] false [] []

theorem zpd (N : Nat) : EnvOk Go.Proofs.Try.prog (ze5 N) := z1k mixed z2v (FnsOk.nil) (ItsOk.nil)

def z37 (N : Nat) (n : Int) (low : Int) : Option Bool :=
 cond (decide (low <= n))
 (some (decide (n <= (1099511627776 : Int))))
 (some false)

def zl7 (N : Nat) : Tab Bool := []

theorem zog (N : Nat) (x : z2b [(0, .v (.int .i64)), (0, .v (.int .i64))]) : zft (ze5 N) N (zl7 N) zl8 Go.Proofs.Try.f28 (mkS [(0, .v (.int .i64)), (0, .v (.int .i64))] 0 x) (z6m (.v .bool) 2) = z37 N x.1 x.2.1 := by kernel_rfl

def z6o (N : Nat) : List A -> Res := z2x [(0, .v (.int .i64)), (0, .v (.int .i64))] (fun x => z37 N x.1 x.2.1) (zfu (.v .bool) 2)

theorem zcz (N : Nat) : Contract Go.Proofs.Try.prog z12 28 (z6o N) :=
  Contract.of (E := ze5 N) (H := zl7 N) (L := zl8) (N := N) (body := zoh) (K := (z6m (.v .bool) 2)) (zpd N) Go.Proofs.Try.func28 (by kernel_rfl) (by decide) (fun _ hb => TabOk.nil) (fun x y h => by rw [zog]; exact h) (z22 (s := (.v .bool)) (m := 2))

def zqb : Code := (Go.Proofs.Try.f48.body).getD .skip

def zo3 : List (List Nat × List Nat) := [([0], [0]), ([0, 1], [2]), ([1, 1], [2])]

def zh3 (N : Nat) : Env := z5o tys z12 [] [] [] [] false [] []

theorem zrp (N : Nat) : EnvOk Go.Proofs.Try.prog (zh3 N) := z1k mixed z2v (FnsOk.nil) (ItsOk.nil)

def zhq (N : Nat) (c : Int) : Option Bool :=
 cond (decide ((48 : Int) <= c))
 (some (decide (c <= (57 : Int))))
 (some false)

def zo2 (N : Nat) : Tab Bool := []

theorem zqa (N : Nat) (x : z2b [(0, .v (.int .i32))]) : zft (zh3 N) N (zo2 N) zo3 Go.Proofs.Try.f48 (mkS [(0, .v (.int .i32))] 0 x) (z6m (.v .bool) 1) = zhq N x.1 := by kernel_rfl

def zji (N : Nat) : List A -> Res := z2x [(0, .v (.int .i32))] (fun x => zhq N x.1) (zfu (.v .bool) 1)

theorem ztu (N : Nat) : Contract Go.Proofs.Try.prog z12 48 (zji N) :=
  Contract.of (E := zh3 N) (H := zo2 N) (L := zo3) (N := N) (body := zqb) (K := (z6m (.v .bool) 1)) (zrp N) Go.Proofs.Try.func48 (by kernel_rfl) (by decide) (fun _ hb => TabOk.nil) (fun x y h => by rw [zqa]; exact h) (z22 (s := (.v .bool)) (m := 1))

def z7d : Code := (Go.Proofs.Try.f42.body).getD .skip

def zby : List (List Nat × List Nat) := [([0], [0, 1]), ([0, 1], [5, 0, 1]), ([0, 1, 1], [4]), ([1, 1, 1], [4])]

def z7e (N : Nat) : Env := z5o tys z12 [(48, zji N)] [] [] [] false [] []

theorem zn0 (N : Nat) : EnvOk Go.Proofs.Try.prog (z7e N) := z1k mixed z2v (FnsOk.cons (ztu N) (FnsOk.nil)) (ItsOk.nil)

def z8n (N : Nat) (c : Int) (first : Bool) (k0 : Bool -> Option Bool) : Option Bool :=
 cond (decide ((97 : Int) <= c))
 (k0 (decide (c <= (122 : Int))))
 (k0 false)

def zfb (N : Nat) (x : z2b [(0, .v (.int .i32)), (0, .v .bool)]) (K : Ex -> List A -> Option Bool) : Option Bool :=
 z8n N x.1 x.2.1 (fun a2 => (K .normal (mkS [(0, .v (.int .i32)), (0, .v .bool), (3, .v .bool)] 19 (x.1, x.2.1, a2, ()))))

def zfa (N : Nat) : Hd Bool := fun st K => (unS [(0, .v (.int .i32)), (0, .v .bool)] 23 (restr [0, 1] 0 st)).bind fun x => zfb N x K

def zom (N : Nat) : Tab Bool := []

theorem zmz {N : Nat} {c : Ctx} (hb : Base Go.Proofs.Try.prog (z7e N) c) : zu Go.Proofs.Try.prog c (zf z7d [0, 1]) (zfa N) :=
  zp (s := [(0, .v (.int .i32)), (0, .v .bool)]) (m := 23) (g := zfb N) [0, 1] (z7 hb N (zom N) zby z7d TabOk.nil [0, 1] _ rfl) (fun x K => by kernel_rfl)

def z7f (N : Nat) (c : Int) (first : Bool) : Option Bool :=
 z8n N c first
 (fun letter => cond letter
 (some true)
 ((zhq N c).bind fun y =>
 cond y
 (some (!first))
 (cond (c == (45 : Int))
 (some (!first))
 (some false))))

def zh2 (N : Nat) : Tab Bool := [([0, 1], zfa N)]

theorem zm2 (N : Nat) (x : z2b [(0, .v (.int .i32)), (0, .v .bool)]) : zft (z7e N) N (zh2 N) zby Go.Proofs.Try.f42 (mkS [(0, .v (.int .i32)), (0, .v .bool)] 0 x) (z6m (.v .bool) 2) = z7f N x.1 x.2.1 := by kernel_rfl

def z81 (N : Nat) : List A -> Res := z2x [(0, .v (.int .i32)), (0, .v .bool)] (fun x => z7f N x.1 x.2.1) (zfu (.v .bool) 2)

theorem zfc (N : Nat) : Contract Go.Proofs.Try.prog z12 42 (z81 N) :=
  Contract.of (E := z7e N) (H := zh2 N) (L := zby) (N := N) (body := z7d) (K := (z6m (.v .bool) 2)) (zn0 N) Go.Proofs.Try.func42 (by kernel_rfl) (by decide) (fun _ hb => (TabOk.cons (zmz hb) TabOk.nil)) (fun x y h => by rw [zm2]; exact h) (z22 (s := (.v .bool)) (m := 2))

def z27 : Code := (Go.Proofs.Try.f41.body).getD .skip

def z4l : List (List Nat × List Nat) := [([0], [0, 1]), ([0, 0, 1], [13, 0, 1]), ([1, 0, 1], [0, 1]), ([0, 0, 1, 0, 1], [4]), ([1, 0, 1, 0, 1], [4]), ([0, 0, 1, 1], [15, 1]), ([0, 1, 0, 1, 1], [15, 1]), ([0, 0, 0, 1, 0, 1, 1], [17, 16, 1, 15]), ([0, 1, 0, 0, 1, 0, 1, 1], [16, 1, 15]), ([1, 0, 1, 0, 0, 1, 0, 1, 1], []), ([0, 0, 1, 1, 0, 0, 1, 0, 1, 1], [1, 6, 5, 15]), ([0, 1, 0, 1, 1, 0, 0, 1, 0, 1, 1], [25, 15, 1]), ([1, 1, 0, 1, 1, 0, 0, 1, 0, 1, 1], [15, 1]), ([0, 0, 1, 1, 0, 1, 1, 0, 0, 1, 0, 1, 1], [4]), ([1, 0, 1, 1, 0, 1, 1, 0, 0, 1, 0, 1, 1], [4]), ([1, 1, 0, 0, 1, 0, 1, 1], [15, 1]), ([1, 0, 1, 1], []), ([0, 1, 1, 1], [4]), ([1, 1, 1, 1], [4])]

def z3j (N : Nat) : Env := z5o tys z12 [(42, z81 N)] [] [] [] false [] []

theorem zn4 (N : Nat) : EnvOk Go.Proofs.Try.prog (z3j N) := z1k mixed z2v (FnsOk.cons (zfc N) (FnsOk.nil)) (ItsOk.nil)

def z8p (N : Nat) (s : (List UInt8)) (k0 : Bool -> Option Bool) : Option Bool :=
 cond (s == ([] : List UInt8))
 (k0 true)
 (k0 (decide ((32 : Int) < (((List.length s) : Nat) : Int))))

def zfi (N : Nat) (x : z2b [(0, .v .str), (0, .fnc 42)]) (K : Ex -> List A -> Option Bool) : Option Bool :=
 z8p N x.1 (fun a1 => (K .normal (mkS [(0, .v .str), (0, .fnc 42), (11, .v .bool)] 12 (x.1, (), a1, ()))))

def zff (N : Nat) : Hd Bool := fun st K => (unS [(0, .v .str), (0, .fnc 42)] 24 (restr [0, 1] 0 st)).bind fun x => zfi N x K

def zoo (N : Nat) : Tab Bool := []

theorem zn2 {N : Nat} {c : Ctx} (hb : Base Go.Proofs.Try.prog (z3j N) c) : zu Go.Proofs.Try.prog c (zf z27 [0, 0, 1]) (zff N) :=
  zp (s := [(0, .v .str), (0, .fnc 42)]) (m := 24) (g := zfi N) [0, 1] (z7 hb N (zoo N) z4l z27 TabOk.nil [0, 0, 1] _ rfl) (fun x K => by kernel_rfl)

def z8q (N : Nat) (s : (List UInt8)) (k0 : Bool -> Option Bool) (k1 : Option Bool) : Option Bool :=
 z8p N s
 (fun x13 => cond x13
 (k0 false)
 (k1))

def zfj (N : Nat) (x : z2b [(0, .v .str), (0, .fnc 42)]) (K : Ex -> List A -> Option Bool) : Option Bool :=
 z8q N x.1 (fun a0 => (K .ret (mkS [(4, .v .bool)] 21 (a0, ())))) (K .normal (mkS [(0, .v .str), (0, .fnc 42)] 24 (x.1, (), ())))

def zfg (N : Nat) : Hd Bool := fun st K => (unS [(0, .v .str), (0, .fnc 42)] 24 (restr [0, 1] 0 st)).bind fun x => zfj N x K

def zop (N : Nat) : Tab Bool := [([0, 0, 1], zff N)]

theorem zn3 {N : Nat} {c : Ctx} (hb : Base Go.Proofs.Try.prog (z3j N) c) : zu Go.Proofs.Try.prog c (zf z27 [0, 1]) (zfg N) :=
  zp (s := [(0, .v .str), (0, .fnc 42)]) (m := 24) (g := zfj N) [0, 1] (z7 hb N (zop N) z4l z27 (TabOk.cons (zn2 hb) TabOk.nil) [0, 1] _ rfl) (fun x K => by kernel_rfl)

def z8o (N : Nat) (x15 : (List UInt8 × Nat)) (rec : (List UInt8 × Nat) -> Option Bool) (k0 : Bool -> Option Bool) (k1 : Option Bool) : Option Bool :=
 cond (decide (x15.2 < (List.length x15.1)))
 ((z7f N (((Go.Lift.runeAt x15.1 x15.2).1 : Nat) : Int) (((x15.2 : Nat) : Int) == (0 : Int))).bind fun y =>
 cond (!y)
 (k0 false)
 (rec (x15.1, (x15.2 + (Go.Lift.runeAt x15.1 x15.2).2))))
 (k1)

def zfd (N : Nat) (x15 : (List UInt8 × Nat)) (k0 : Bool -> Option Bool) (k1 : Option Bool) : Option Bool :=
 iter (fun (v : (List UInt8 × Nat)) r => z8o N v (fun x15 => (r x15)) k0 k1) N x15

def zfh (N : Nat) (i : Unit) (v : (List UInt8 × Nat)) (r : (List UInt8 × Nat) -> Option Bool) (K : Ex -> List A -> Option Bool) : Option Bool :=
 z8o N v (fun x15 => (r x15)) (fun a0 => (K .ret (mkS [(4, .v .bool)] 21 (a0, ())))) (K (.exit 0) (mkS [] 26 ()))

def zfe (N : Nat) : Hd Bool := fun st K => (unS [(1, .fnc 42), (13, .iter)] 10 (restr [15, 1] 0 st)).bind fun x => iter (fun v r => zfh N ((fun x => ()) x) v r K) N ((fun x => x.2.1) x)

def zon (N : Nat) : Tab Bool := []

theorem zn1 {N : Nat} {c : Ctx} (hb : Base Go.Proofs.Try.prog (z3j N) c) : zu Go.Proofs.Try.prog c (zf z27 [0, 1, 0, 1, 1]) (zfe N) :=
  z4m (s := [(1, .fnc 42), (13, .iter)]) (m := 10) (zfh N) [15, 1] N (fun x => ()) (fun x => x.2.1) (fun i v => ((), v, ())) (fun _ => rfl) (z7 hb N (zon N) z4l z27 TabOk.nil [0, 0, 1, 0, 1, 1] _ rfl) (fun i v r K => by kernel_rfl)

def z7g (N : Nat) (s : (List UInt8)) : Option Bool :=
 z8q N s
 (fun x4 => some x4)
 (zfd N (s, 0)
 (fun x41 => some x41)
 (some true))

def zh4 (N : Nat) : Tab Bool := [([0, 1], zfg N), ([0, 1, 0, 1, 1], zfe N)]

theorem zm3 (N : Nat) (x : z2b [(0, .v .str), (0, .fnc 42)]) : zft (z3j N) N (zh4 N) z4l Go.Proofs.Try.f41 (mkS [(0, .v .str), (0, .fnc 42)] 0 x) (z6m (.v .bool) 2) = z7g N x.1 := by kernel_rfl

def zdq (N : Nat) : List A -> Res := z2x [(0, .v .str), (0, .fnc 42)] (fun x => z7g N x.1) (zfu (.v .bool) 2)

theorem zoq (N : Nat) : Contract Go.Proofs.Try.prog z12 41 (zdq N) :=
  Contract.of (E := z3j N) (H := zh4 N) (L := z4l) (N := N) (body := z27) (K := (z6m (.v .bool) 2)) (zn4 N) Go.Proofs.Try.func41 (by kernel_rfl) (by decide) (fun _ hb => (TabOk.cons (zn3 hb) (TabOk.cons (zn1 hb) TabOk.nil))) (fun x y h => by rw [zm3]; exact h) (z22 (s := (.v .bool)) (m := 2))

def zrr : Code := (Go.Proofs.Try.f33.body).getD .skip

def zqd : List (List Nat × List Nat) := [([0], [0]), ([0, 1], [2]), ([1, 1], [2])]

def zkq (N : Nat) : Env := z5o tys z12 [(41, zdq N), (42, z81 N)] [] [] [] false [] []

theorem ztv (N : Nat) : EnvOk Go.Proofs.Try.prog (zkq N) := z1k mixed z2v (FnsOk.cons (zoq N) (FnsOk.cons (zfc N) (FnsOk.nil))) (ItsOk.nil)

def zdr (N : Nat) (s : (List UInt8)) : Option Bool :=
 (z7g N s).bind fun y =>
 some y

def zqc (N : Nat) : Tab Bool := []

theorem zrq (N : Nat) (x : z2b [(0, .v .str)]) : zft (zkq N) N (zqc N) zqd Go.Proofs.Try.f33 (mkS [(0, .v .str)] 0 x) (z6m (.v .bool) 1) = zdr N x.1 := by kernel_rfl

def zeu (N : Nat) : List A -> Res := z2x [(0, .v .str)] (fun x => zdr N x.1) (zfu (.v .bool) 1)

theorem zo4 (N : Nat) : Contract Go.Proofs.Try.prog z12 33 (zeu N) :=
  Contract.of (E := zkq N) (H := zqc N) (L := zqd) (N := N) (body := zrr) (K := (z6m (.v .bool) 1)) (ztv N) Go.Proofs.Try.func33 (by kernel_rfl) (by decide) (fun _ hb => TabOk.nil) (fun x y h => by rw [zrq]; exact h) (z22 (s := (.v .bool)) (m := 1))

def zpf : Code := (Go.Proofs.Try.f40.body).getD .skip

def znn : List (List Nat × List Nat) := [([0], [0, 1, 2]), ([0, 1], [0, 1, 5, 2]), ([0, 1, 1], [5, 0, 2, 1]), ([0, 1, 1, 1], [4, 1, 2]), ([1, 1, 1, 1], [4, 1, 2])]

def zg2 (N : Nat) : Env := z5o tys z12 [] [] [] [1, 2] false [] []

theorem zr9 (N : Nat) : EnvOk Go.Proofs.Try.prog (zg2 N) := z1k mixed z2v (FnsOk.nil) (ItsOk.nil)

def zhn (N : Nat) (n : Int) (x1 : Int) (x2 : ((List UInt8) × (Int × (Int × ((List (Int × ((List UInt8) × Unit))) × Unit))))) : Option (Bool × (Int × ((List UInt8) × (Int × (Int × ((List (Int × ((List UInt8) × Unit))) × Unit)))) × Unit)) :=
 cond (decide (x1 < n))
 (some ((decide (n < x2.2.2.1)), (n, (x2, ()))))
 (some (false, (n, (x2, ()))))

def znm (N : Nat) : Tab (Bool × (Int × ((List UInt8) × (Int × (Int × ((List (Int × ((List UInt8) × Unit))) × Unit)))) × Unit)) := []

theorem zpe (N : Nat) (x : z2b [(0, .v (.int .i64)), (0, .box (.int .i64)), (0, .box (.pair .str (.pair (.int .i64) (.pair (.int .i64) (.pair (.sl (.pair (.int .i64) (.pair .str .unit))) .unit)))))]) : zft (zg2 N) N (znm N) znn Go.Proofs.Try.f40 (mkS [(0, .v (.int .i64)), (0, .box (.int .i64)), (0, .box (.pair .str (.pair (.int .i64) (.pair (.int .i64) (.pair (.sl (.pair (.int .i64) (.pair .str .unit))) .unit)))))] 0 x) (z13u (.v .bool) [(1, .box (.int .i64)), (0, .box (.pair .str (.pair (.int .i64) (.pair (.int .i64) (.pair (.sl (.pair (.int .i64) (.pair .str .unit))) .unit)))))] 0) = zhn N x.1 x.2.1 x.2.2.1 := by kernel_rfl

def zj8 (N : Nat) : List A -> Res := z2x [(0, .v (.int .i64)), (0, .box (.int .i64)), (0, .box (.pair .str (.pair (.int .i64) (.pair (.int .i64) (.pair (.sl (.pair (.int .i64) (.pair .str .unit))) .unit)))))] (fun x => zhn N x.1 x.2.1 x.2.2.1) (z16e (.v .bool) [(1, .box (.int .i64)), (0, .box (.pair .str (.pair (.int .i64) (.pair (.int .i64) (.pair (.sl (.pair (.int .i64) (.pair .str .unit))) .unit)))))] 0)

theorem ztb (N : Nat) : Contract Go.Proofs.Try.prog z12 40 (zj8 N) :=
  Contract.of (E := zg2 N) (H := znm N) (L := znn) (N := N) (body := zpf) (K := (z13u (.v .bool) [(1, .box (.int .i64)), (0, .box (.pair .str (.pair (.int .i64) (.pair (.int .i64) (.pair (.sl (.pair (.int .i64) (.pair .str .unit))) .unit)))))] 0)) (zr9 N) Go.Proofs.Try.func40 (by kernel_rfl) (by decide) (fun _ hb => TabOk.nil) (fun x y h => by rw [zpe]; exact h) (z13t (s := (.v .bool)) (os := [(1, .box (.int .i64)), (0, .box (.pair .str (.pair (.int .i64) (.pair (.int .i64) (.pair (.sl (.pair (.int .i64) (.pair .str .unit))) .unit)))))]) (m := 0))

def z1b : Code := (Go.Proofs.Try.f29.body).getD .skip

def z2o : List (List Nat × List Nat) := [([0], [1]), ([0, 0, 1], [28, 1]), ([1, 0, 1], [1]), ([0, 0, 1, 0, 1], [2]), ([1, 0, 1, 0, 1], [2]), ([0, 1, 1], [3, 1]), ([0, 1, 1, 1], [1, 4, 3]), ([0, 0, 1, 1, 1, 1], [33, 32, 31, 4, 3, 1]), ([0, 1, 0, 1, 1, 1, 1], [33, 32, 31, 4, 3, 1]), ([0, 0, 0, 1, 0, 1, 1, 1, 1], [34, 31, 33, 4, 32, 3, 1]), ([0, 1, 0, 0, 1, 0, 1, 1, 1, 1], [31, 33, 4, 32, 3, 1]), ([1, 0, 1, 0, 0, 1, 0, 1, 1, 1, 1], []), ([0, 0, 0, 1, 1, 0, 0, 1, 0, 1, 1, 1, 1], [4, 6, 33, 32, 31, 3, 1]), ([0, 1, 0, 0, 1, 1, 0, 0, 1, 0, 1, 1, 1, 1], [47, 33, 32, 31, 4, 3, 1]), ([1, 1, 0, 0, 1, 1, 0, 0, 1, 0, 1, 1, 1, 1], [33, 32, 31, 4, 3, 1]), ([0, 0, 1, 1, 0, 0, 1, 1, 0, 0, 1, 0, 1, 1, 1, 1], [2]), ([1, 0, 1, 1, 0, 0, 1, 1, 0, 0, 1, 0, 1, 1, 1, 1], [2]), ([0, 1, 1, 0, 0, 1, 0, 1, 1, 1, 1], [33, 32, 31, 4, 3, 1]), ([1, 1, 1, 0, 0, 1, 0, 1, 1, 1, 1], [33, 32, 31, 4, 3, 1]), ([1, 0, 1, 1, 1, 1], []), ([0, 1, 1, 1, 1, 1], [2]), ([1, 1, 1, 1, 1, 1], [2])]

def z24 (N : Nat) : Env := z5o tys z12 [(40, zj8 N), (33, zeu N), (28, z6o N)] [(4, .unit)] [] [] false [] []

theorem zhz (N : Nat) : EnvOk Go.Proofs.Try.prog (z24 N) := z1k mixed z2v (FnsOk.cons (ztb N) (FnsOk.cons (zo4 N) (FnsOk.cons (zcz N) (FnsOk.nil)))) (ItsOk.nil)

def z5y (N : Nat) (t : ((List UInt8) × (Int × (Int × ((List (Int × ((List UInt8) × Unit))) × Unit))))) (k0 : Bool -> Option Bool) : Option Bool :=
 (zdr N t.1).bind fun y =>
 cond (!y)
 (k0 true)
 ((z37 N t.2.1 (0 : Int)).bind fun y1 =>
 cond (!y1)
 (k0 true)
 ((z37 N t.2.2.1 (1 : Int)).bind fun y2 =>
 cond (!y2)
 (k0 true)
 (k0 (decide ((8 : Int) < (((List.length t.2.2.2.1) : Nat) : Int))))))

def zai (N : Nat) (x : z2b [(1, .box (.pair .str (.pair (.int .i64) (.pair (.int .i64) (.pair (.sl (.pair (.int .i64) (.pair .str .unit))) .unit)))))]) (K : Ex -> List A -> Option Bool) : Option Bool :=
 z5y N x.1 (fun a1 => (K .normal (mkS [(1, .box (.pair .str (.pair (.int .i64) (.pair (.int .i64) (.pair (.sl (.pair (.int .i64) (.pair .str .unit))) .unit))))), (26, .v .bool)] 20 (x.1, a1, ()))))

def zae (N : Nat) : Hd Bool := fun st K => (unS [(1, .box (.pair .str (.pair (.int .i64) (.pair (.int .i64) (.pair (.sl (.pair (.int .i64) (.pair .str .unit))) .unit)))))] 47 (restr [1] 0 st)).bind fun x => zai N x K

def zju (N : Nat) : Tab Bool := []

theorem zhx {N : Nat} {c : Ctx} (hb : Base Go.Proofs.Try.prog (z24 N) c) : zu Go.Proofs.Try.prog c (zf z1b [0, 0, 1]) (zae N) :=
  zp (s := [(1, .box (.pair .str (.pair (.int .i64) (.pair (.int .i64) (.pair (.sl (.pair (.int .i64) (.pair .str .unit))) .unit)))))]) (m := 47) (g := zai N) [1] (z7 hb N (zju N) z2o z1b TabOk.nil [0, 0, 1] _ rfl) (fun x K => by kernel_rfl)

def z5z (N : Nat) (t : ((List UInt8) × (Int × (Int × ((List (Int × ((List UInt8) × Unit))) × Unit))))) (k0 : Bool -> Option Bool) (k1 : Option Bool) : Option Bool :=
 z5y N t
 (fun x28 => cond x28
 (k0 false)
 (k1))

def zaj (N : Nat) (x : z2b [(1, .box (.pair .str (.pair (.int .i64) (.pair (.int .i64) (.pair (.sl (.pair (.int .i64) (.pair .str .unit))) .unit)))))]) (K : Ex -> List A -> Option Bool) : Option Bool :=
 z5z N x.1 (fun a0 => (K .ret (mkS [(2, .v .bool)] 46 (a0, ())))) (K .normal (mkS [(1, .box (.pair .str (.pair (.int .i64) (.pair (.int .i64) (.pair (.sl (.pair (.int .i64) (.pair .str .unit))) .unit)))))] 47 (x.1, ())))

def zaf (N : Nat) : Hd Bool := fun st K => (unS [(1, .box (.pair .str (.pair (.int .i64) (.pair (.int .i64) (.pair (.sl (.pair (.int .i64) (.pair .str .unit))) .unit)))))] 47 (restr [1] 0 st)).bind fun x => zaj N x K

def zjv (N : Nat) : Tab Bool := [([0, 0, 1], zae N)]

theorem zhy {N : Nat} {c : Ctx} (hb : Base Go.Proofs.Try.prog (z24 N) c) : zu Go.Proofs.Try.prog c (zf z1b [0, 1]) (zaf N) :=
  zp (s := [(1, .box (.pair .str (.pair (.int .i64) (.pair (.int .i64) (.pair (.sl (.pair (.int .i64) (.pair .str .unit))) .unit)))))]) (m := 47) (g := zaj N) [1] (z7 hb N (zjv N) z2o z1b (TabOk.cons (zhx hb) TabOk.nil) [0, 1] _ rfl) (fun x K => by kernel_rfl)

def z5w (N : Nat) (t : ((List UInt8) × (Int × (Int × ((List (Int × ((List UInt8) × Unit))) × Unit))))) (last : Int) (k : (Int × ((List UInt8) × Unit))) (x31 : (List (Int × ((List UInt8) × Unit)))) (x32 : Int) (x33 : Int) (k0 : ((List UInt8) × (Int × (Int × ((List (Int × ((List UInt8) × Unit))) × Unit)))) -> Int -> Bool -> Option Bool) : Option Bool :=
 (zhn N k.1 last t).bind fun y =>
 cond (!y.1)
 (k0 y.2.2.1 y.2.1 true)
 (k0 y.2.2.1 y.2.1 ((((List.length k.2.1) : Nat) : Int) != (32 : Int)))

def zag (N : Nat) (x : z2b [(1, .box (.pair .str (.pair (.int .i64) (.pair (.int .i64) (.pair (.sl (.pair (.int .i64) (.pair .str .unit))) .unit))))), (1, .box (.int .i64)), (0, .clo 40 [3, 1]), (1, .box (.pair (.int .i64) (.pair .str .unit))), (24, .v (.sl (.pair (.int .i64) (.pair .str .unit)))), (0, .v (.int .i64)), (0, .v (.int .i64))]) (K : Ex -> List A -> Option Bool) : Option Bool :=
 z5w N x.1 x.2.1 x.2.2.2.1 x.2.2.2.2.1 x.2.2.2.2.2.1 x.2.2.2.2.2.2.1 (fun a0 a1 a5 => (K .normal (mkS [(1, .box (.pair .str (.pair (.int .i64) (.pair (.int .i64) (.pair (.sl (.pair (.int .i64) (.pair .str .unit))) .unit))))), (1, .box (.int .i64)), (0, .clo 40 [3, 1]), (26, .v (.sl (.pair (.int .i64) (.pair .str .unit)))), (0, .v (.int .i64)), (0, .v (.int .i64)), (13, .v .bool)] 1 (a0, a1, (), x.2.2.2.2.1, x.2.2.2.2.2.1, x.2.2.2.2.2.2.1, a5, ()))))

def zac (N : Nat) : Hd Bool := fun st K => (unS [(1, .box (.pair .str (.pair (.int .i64) (.pair (.int .i64) (.pair (.sl (.pair (.int .i64) (.pair .str .unit))) .unit))))), (1, .box (.int .i64)), (0, .clo 40 [3, 1]), (1, .box (.pair (.int .i64) (.pair .str .unit))), (24, .v (.sl (.pair (.int .i64) (.pair .str .unit)))), (0, .v (.int .i64)), (0, .v (.int .i64))] 15 (restr [4, 6, 33, 32, 31, 3, 1] 0 st)).bind fun x => zag N x K

def zjs (N : Nat) : Tab Bool := []

theorem zhv {N : Nat} {c : Ctx} (hb : Base Go.Proofs.Try.prog (z24 N) c) : zu Go.Proofs.Try.prog c (zf z1b [0, 1, 0, 0, 1, 1, 0, 0, 1, 0, 1, 1, 1, 1]) (zac N) :=
  zp (s := [(1, .box (.pair .str (.pair (.int .i64) (.pair (.int .i64) (.pair (.sl (.pair (.int .i64) (.pair .str .unit))) .unit))))), (1, .box (.int .i64)), (0, .clo 40 [3, 1]), (1, .box (.pair (.int .i64) (.pair .str .unit))), (24, .v (.sl (.pair (.int .i64) (.pair .str .unit)))), (0, .v (.int .i64)), (0, .v (.int .i64))]) (m := 15) (g := zag N) [4, 6, 33, 32, 31, 3, 1] (z7 hb N (zjs N) z2o z1b TabOk.nil [0, 1, 0, 0, 1, 1, 0, 0, 1, 0, 1, 1, 1, 1] _ rfl) (fun x K => by kernel_rfl)

def z5v (N : Nat) (x31 : (List (Int × ((List UInt8) × Unit)))) (x32 : Int) (t : ((List UInt8) × (Int × (Int × ((List (Int × ((List UInt8) × Unit))) × Unit))))) (last : Int) (x33 : Int) (rec : ((List UInt8) × (Int × (Int × ((List (Int × ((List UInt8) × Unit))) × Unit)))) -> Int -> Int -> Option Bool) (k0 : Bool -> Option Bool) (k1 : Option Bool) : Option Bool :=
 cond (decide (x33 < x32))
 (cond (Go.Lift.inR x33 (List.length x31))
 (z5w N t last (List.getD x31 (Int.toNat x33) ((0 : Int), (([] : List UInt8), ()))) x31 x32 x33
 (fun t1 last1 x47 => cond x47
 (k0 false)
 (rec t1 last1 (Go.IntKind.wrap Go.IntKind.i64 (x33 + (1 : Int))))))
 (none))
 (k1)

def z5x (N : Nat) (t : ((List UInt8) × (Int × (Int × ((List (Int × ((List UInt8) × Unit))) × Unit))))) (last : Int) (x31 : (List (Int × ((List UInt8) × Unit)))) (x32 : Int) (x33 : Int) (k0 : Bool -> Option Bool) (k1 : Option Bool) : Option Bool :=
 iter (fun (v : (((List UInt8) × (Int × (Int × ((List (Int × ((List UInt8) × Unit))) × Unit)))) × Int × Int)) r => z5v N x31 x32 v.1 v.2.1 v.2.2 (fun t last x33 => (r (t, last, x33))) k0 k1) N (t, last, x33)

def zah (N : Nat) (i : ((List (Int × ((List UInt8) × Unit))) × Int)) (v : (((List UInt8) × (Int × (Int × ((List (Int × ((List UInt8) × Unit))) × Unit)))) × Int × Int)) (r : (((List UInt8) × (Int × (Int × ((List (Int × ((List UInt8) × Unit))) × Unit)))) × Int × Int) -> Option Bool) (K : Ex -> List A -> Option Bool) : Option Bool :=
 z5v N i.1 i.2 v.1 v.2.1 v.2.2 (fun t last x33 => (r (t, last, x33))) (fun a0 => (K .ret (mkS [(2, .v .bool)] 46 (a0, ())))) (K (.exit 0) (mkS [] 49 ()))

def zad (N : Nat) : Hd Bool := fun st K => (unS [(1, .box (.pair .str (.pair (.int .i64) (.pair (.int .i64) (.pair (.sl (.pair (.int .i64) (.pair .str .unit))) .unit))))), (1, .box (.int .i64)), (0, .clo 40 [3, 1]), (26, .v (.sl (.pair (.int .i64) (.pair .str .unit)))), (0, .v (.int .i64)), (0, .v (.int .i64))] 15 (restr [33, 32, 31, 4, 3, 1] 0 st)).bind fun x => iter (fun v r => zah N ((fun x => (x.2.2.2.1, x.2.2.2.2.1)) x) v r K) N ((fun x => (x.1, x.2.1, x.2.2.2.2.2.1)) x)

def zjt (N : Nat) : Tab Bool := [([0, 1, 0, 0, 1, 1, 0, 0, 1, 0, 1, 1, 1, 1], zac N)]

theorem zhw {N : Nat} {c : Ctx} (hb : Base Go.Proofs.Try.prog (z24 N) c) : zu Go.Proofs.Try.prog c (zf z1b [0, 1, 0, 1, 1, 1, 1]) (zad N) :=
  z4m (s := [(1, .box (.pair .str (.pair (.int .i64) (.pair (.int .i64) (.pair (.sl (.pair (.int .i64) (.pair .str .unit))) .unit))))), (1, .box (.int .i64)), (0, .clo 40 [3, 1]), (26, .v (.sl (.pair (.int .i64) (.pair .str .unit)))), (0, .v (.int .i64)), (0, .v (.int .i64))]) (m := 15) (zah N) [33, 32, 31, 4, 3, 1] N (fun x => (x.2.2.2.1, x.2.2.2.2.1)) (fun x => (x.1, x.2.1, x.2.2.2.2.2.1)) (fun i v => (v.1, v.2.1, (), i.1, i.2, v.2.2, ())) (fun _ => rfl) (z7 hb N (zjt N) z2o z1b (TabOk.cons (zhv hb) TabOk.nil) [0, 0, 1, 0, 1, 1, 1, 1] _ rfl) (fun i v r K => by kernel_rfl)

def z33 (N : Nat) (t : ((List UInt8) × (Int × (Int × ((List (Int × ((List UInt8) × Unit))) × Unit))))) : Option Bool :=
 z5z N t
 (fun x2 => some x2)
 (z5x N t (0 : Int) t.2.2.2.1 (((List.length t.2.2.2.1) : Nat) : Int) (0 : Int)
 (fun x21 => some x21)
 (some true))

def zcc (N : Nat) : Tab Bool := [([0, 1], zaf N), ([0, 1, 0, 1, 1, 1, 1], zad N)]

theorem zg3 (N : Nat) (x : z2b [(0, .v (.pair .str (.pair (.int .i64) (.pair (.int .i64) (.pair (.sl (.pair (.int .i64) (.pair .str .unit))) .unit)))))]) : zft (z24 N) N (zcc N) z2o Go.Proofs.Try.f29 (mkS [(0, .v (.pair .str (.pair (.int .i64) (.pair (.int .i64) (.pair (.sl (.pair (.int .i64) (.pair .str .unit))) .unit)))))] 0 x) (z6m (.v .bool) 1) = z33 N x.1 := by kernel_rfl

def z8t (N : Nat) : List A -> Res := z2x [(0, .v (.pair .str (.pair (.int .i64) (.pair (.int .i64) (.pair (.sl (.pair (.int .i64) (.pair .str .unit))) .unit)))))] (fun x => z33 N x.1) (zfu (.v .bool) 1)

theorem zjw (N : Nat) : Contract Go.Proofs.Try.prog z12 29 (z8t N) :=
  Contract.of (E := z24 N) (H := zcc N) (L := z2o) (N := N) (body := z1b) (K := (z6m (.v .bool) 1)) (zhz N) Go.Proofs.Try.func29 (by kernel_rfl) (by decide) (fun _ hb => (TabOk.cons (zhy hb) (TabOk.cons (zhw hb) TabOk.nil))) (fun x y h => by rw [zg3]; exact h) (z22 (s := (.v .bool)) (m := 1))

def z25 : Code := (Go.Proofs.Try.f10.body).getD .skip

def z6j : List (List Nat × List Nat) := [([0], [1]), ([0, 0, 1], [14, 1]), ([1, 0, 1], [1]), ([0, 0, 1, 0, 1], [2]), ([1, 0, 1, 0, 1], [2]), ([0, 0, 1, 1], [18, 17, 16, 1]), ([0, 1, 0, 1, 1], [18, 17, 16, 1]), ([0, 0, 0, 1, 0, 1, 1], [19, 18, 16, 1, 17]), ([0, 1, 0, 0, 1, 0, 1, 1], [18, 16, 1, 17]), ([1, 0, 1, 0, 0, 1, 0, 1, 1], []), ([0, 0, 0, 1, 1, 0, 0, 1, 0, 1, 1], [3, 4, 1, 18, 17, 16]), ([0, 1, 0, 0, 1, 1, 0, 0, 1, 0, 1, 1], [41, 18, 17, 16, 1]), ([1, 1, 0, 0, 1, 1, 0, 0, 1, 0, 1, 1], [18, 17, 16, 1]), ([0, 0, 1, 1, 0, 0, 1, 1, 0, 0, 1, 0, 1, 1], [2]), ([1, 0, 1, 1, 0, 0, 1, 1, 0, 0, 1, 0, 1, 1], [2]), ([0, 1, 1, 0, 0, 1, 0, 1, 1], [18, 17, 16, 1]), ([1, 1, 1, 0, 0, 1, 0, 1, 1], [18, 17, 16, 1]), ([1, 0, 1, 1], []), ([0, 1, 1, 1], [2]), ([1, 1, 1, 1], [2])]

def z4g (N : Nat) : Env := z5o tys z12 [(29, z8t N), (28, z6o N)] [] [] [] false [] []

theorem zrg (N : Nat) : EnvOk Go.Proofs.Try.prog (z4g N) := z1k mixed z2v (FnsOk.cons (zjw N) (FnsOk.cons (zcz N) (FnsOk.nil))) (ItsOk.nil)

def zea (N : Nat) (s : ((List ((List UInt8) × (Int × (Int × ((List (Int × ((List UInt8) × Unit))) × Unit))))) × (Int × Unit))) (k0 : Bool -> Option Bool) : Option Bool :=
 cond (decide ((16 : Int) < (((List.length s.1) : Nat) : Int)))
 (k0 true)
 ((z37 N s.2.1 (0 : Int)).bind fun y =>
 k0 (!y))

def zlh (N : Nat) (x : z2b [(1, .box (.pair (.sl (.pair .str (.pair (.int .i64) (.pair (.int .i64) (.pair (.sl (.pair (.int .i64) (.pair .str .unit))) .unit))))) (.pair (.int .i64) .unit)))]) (K : Ex -> List A -> Option Bool) : Option Bool :=
 zea N x.1 (fun a1 => (K .normal (mkS [(1, .box (.pair (.sl (.pair .str (.pair (.int .i64) (.pair (.int .i64) (.pair (.sl (.pair (.int .i64) (.pair .str .unit))) .unit))))) (.pair (.int .i64) .unit))), (12, .v .bool)] 28 (x.1, a1, ()))))

def zld (N : Nat) : Hd Bool := fun st K => (unS [(1, .box (.pair (.sl (.pair .str (.pair (.int .i64) (.pair (.int .i64) (.pair (.sl (.pair (.int .i64) (.pair .str .unit))) .unit))))) (.pair (.int .i64) .unit)))] 41 (restr [1] 0 st)).bind fun x => zlh N x K

def ztg (N : Nat) : Tab Bool := []

theorem zre {N : Nat} {c : Ctx} (hb : Base Go.Proofs.Try.prog (z4g N) c) : zu Go.Proofs.Try.prog c (zf z25 [0, 0, 1]) (zld N) :=
  zp (s := [(1, .box (.pair (.sl (.pair .str (.pair (.int .i64) (.pair (.int .i64) (.pair (.sl (.pair (.int .i64) (.pair .str .unit))) .unit))))) (.pair (.int .i64) .unit)))]) (m := 41) (g := zlh N) [1] (z7 hb N (ztg N) z6j z25 TabOk.nil [0, 0, 1] _ rfl) (fun x K => by kernel_rfl)

def zeb (N : Nat) (s : ((List ((List UInt8) × (Int × (Int × ((List (Int × ((List UInt8) × Unit))) × Unit))))) × (Int × Unit))) (k0 : Bool -> Option Bool) (k1 : Option Bool) : Option Bool :=
 zea N s
 (fun x14 => cond x14
 (k0 false)
 (k1))

def zli (N : Nat) (x : z2b [(1, .box (.pair (.sl (.pair .str (.pair (.int .i64) (.pair (.int .i64) (.pair (.sl (.pair (.int .i64) (.pair .str .unit))) .unit))))) (.pair (.int .i64) .unit)))]) (K : Ex -> List A -> Option Bool) : Option Bool :=
 zeb N x.1 (fun a0 => (K .ret (mkS [(2, .v .bool)] 40 (a0, ())))) (K .normal (mkS [(1, .box (.pair (.sl (.pair .str (.pair (.int .i64) (.pair (.int .i64) (.pair (.sl (.pair (.int .i64) (.pair .str .unit))) .unit))))) (.pair (.int .i64) .unit)))] 41 (x.1, ())))

def zle (N : Nat) : Hd Bool := fun st K => (unS [(1, .box (.pair (.sl (.pair .str (.pair (.int .i64) (.pair (.int .i64) (.pair (.sl (.pair (.int .i64) (.pair .str .unit))) .unit))))) (.pair (.int .i64) .unit)))] 41 (restr [1] 0 st)).bind fun x => zli N x K

def zth (N : Nat) : Tab Bool := [([0, 0, 1], zld N)]

theorem zrf {N : Nat} {c : Ctx} (hb : Base Go.Proofs.Try.prog (z4g N) c) : zu Go.Proofs.Try.prog c (zf z25 [0, 1]) (zle N) :=
  zp (s := [(1, .box (.pair (.sl (.pair .str (.pair (.int .i64) (.pair (.int .i64) (.pair (.sl (.pair (.int .i64) (.pair .str .unit))) .unit))))) (.pair (.int .i64) .unit)))]) (m := 41) (g := zli N) [1] (z7 hb N (zth N) z6j z25 (TabOk.cons (zre hb) TabOk.nil) [0, 1] _ rfl) (fun x K => by kernel_rfl)

def ze8 (N : Nat) (s : ((List ((List UInt8) × (Int × (Int × ((List (Int × ((List UInt8) × Unit))) × Unit))))) × (Int × Unit))) (i : Int) (t : ((List UInt8) × (Int × (Int × ((List (Int × ((List UInt8) × Unit))) × Unit))))) (x16 : (List ((List UInt8) × (Int × (Int × ((List (Int × ((List UInt8) × Unit))) × Unit)))))) (x17 : Int) (x18 : Int) (k0 : Bool -> Option Bool) : Option Bool :=
  cond (decide ((0 : Int) < i))
  (cond (Go.Lift.inR (Go.IntKind.wrap Go.IntKind.i64 (i - (1 : Int))) (List.length s.1))
    (cond ((Go.Op.bytesLess t.1 (List.getD s.1 (Int.toNat (Go.IntKind.wrap Go.IntKind.i64 (i - (1 : Int)))) (([] : List UInt8), ((0 : Int), ((0 : Int), (([] : List (Int × ((List UInt8) × Unit))), ()))))).1) || (t.1 == (List.getD s.1 (Int.toNat (Go.IntKind.wrap Go.IntKind.i64 (i - (1 : Int)))) (([] : List UInt8), ((0 : Int), ((0 : Int), (([] : List (Int × ((List UInt8) × Unit))), ()))))).1))
      (k0 true)
      ((z33 N t).bind fun y =>
        k0 (!y)))
    (none))
  ((z33 N t).bind fun y1 =>
    k0 (!y1))

def zlf (N : Nat) (x : z2b [(1, .box (.pair (.sl (.pair .str (.pair (.int .i64) (.pair (.int .i64) (.pair (.sl (.pair (.int .i64) (.pair .str .unit))) .unit))))) (.pair (.int .i64) .unit))), (1, .v (.int .i64)), (0, .box (.pair .str (.pair (.int .i64) (.pair (.int .i64) (.pair (.sl (.pair (.int .i64) (.pair .str .unit))) .unit))))), (11, .v (.sl (.pair .str (.pair (.int .i64) (.pair (.int .i64) (.pair (.sl (.pair (.int .i64) (.pair .str .unit))) .unit)))))), (0, .v (.int .i64)), (0, .v (.int .i64))]) (K : Ex -> List A -> Option Bool) : Option Bool :=
 ze8 N x.1 x.2.1 x.2.2.1 x.2.2.2.1 x.2.2.2.2.1 x.2.2.2.2.2.1 (fun a4 => (K .normal (mkS [(1, .box (.pair (.sl (.pair .str (.pair (.int .i64) (.pair (.int .i64) (.pair (.sl (.pair (.int .i64) (.pair .str .unit))) .unit))))) (.pair (.int .i64) .unit))), (14, .v (.sl (.pair .str (.pair (.int .i64) (.pair (.int .i64) (.pair (.sl (.pair (.int .i64) (.pair .str .unit))) .unit)))))), (0, .v (.int .i64)), (0, .v (.int .i64)), (22, .v .bool)] 1 (x.1, x.2.2.2.1, x.2.2.2.2.1, x.2.2.2.2.2.1, a4, ()))))

def zlb (N : Nat) : Hd Bool := fun st K => (unS [(1, .box (.pair (.sl (.pair .str (.pair (.int .i64) (.pair (.int .i64) (.pair (.sl (.pair (.int .i64) (.pair .str .unit))) .unit))))) (.pair (.int .i64) .unit))), (1, .v (.int .i64)), (0, .box (.pair .str (.pair (.int .i64) (.pair (.int .i64) (.pair (.sl (.pair (.int .i64) (.pair .str .unit))) .unit))))), (11, .v (.sl (.pair .str (.pair (.int .i64) (.pair (.int .i64) (.pair (.sl (.pair (.int .i64) (.pair .str .unit))) .unit)))))), (0, .v (.int .i64)), (0, .v (.int .i64))] 24 (restr [3, 4, 1, 18, 17, 16] 0 st)).bind fun x => zlf N x K

def zte (N : Nat) : Tab Bool := []

theorem zrc {N : Nat} {c : Ctx} (hb : Base Go.Proofs.Try.prog (z4g N) c) : zu Go.Proofs.Try.prog c (zf z25 [0, 1, 0, 0, 1, 1, 0, 0, 1, 0, 1, 1]) (zlb N) :=
  zp (s := [(1, .box (.pair (.sl (.pair .str (.pair (.int .i64) (.pair (.int .i64) (.pair (.sl (.pair (.int .i64) (.pair .str .unit))) .unit))))) (.pair (.int .i64) .unit))), (1, .v (.int .i64)), (0, .box (.pair .str (.pair (.int .i64) (.pair (.int .i64) (.pair (.sl (.pair (.int .i64) (.pair .str .unit))) .unit))))), (11, .v (.sl (.pair .str (.pair (.int .i64) (.pair (.int .i64) (.pair (.sl (.pair (.int .i64) (.pair .str .unit))) .unit)))))), (0, .v (.int .i64)), (0, .v (.int .i64))]) (m := 24) (g := zlf N) [3, 4, 1, 18, 17, 16] (z7 hb N (zte N) z6j z25 TabOk.nil [0, 1, 0, 0, 1, 1, 0, 0, 1, 0, 1, 1] _ rfl) (fun x K => by kernel_rfl)

def ze7 (N : Nat) (s : ((List ((List UInt8) × (Int × (Int × ((List (Int × ((List UInt8) × Unit))) × Unit))))) × (Int × Unit))) (x16 : (List ((List UInt8) × (Int × (Int × ((List (Int × ((List UInt8) × Unit))) × Unit)))))) (x17 : Int) (x18 : Int) (rec : Int -> Option Bool) (k0 : Bool -> Option Bool) (k1 : Option Bool) : Option Bool :=
 cond (decide (x18 < x17))
 (cond (Go.Lift.inR x18 (List.length x16))
 (ze8 N s x18 (List.getD x16 (Int.toNat x18) (([] : List UInt8), ((0 : Int), ((0 : Int), (([] : List (Int × ((List UInt8) × Unit))), ()))))) x16 x17 x18
 (fun x41 => cond x41
 (k0 false)
 (rec (Go.IntKind.wrap Go.IntKind.i64 (x18 + (1 : Int))))))
 (none))
 (k1)

def ze9 (N : Nat) (s : ((List ((List UInt8) × (Int × (Int × ((List (Int × ((List UInt8) × Unit))) × Unit))))) × (Int × Unit))) (x16 : (List ((List UInt8) × (Int × (Int × ((List (Int × ((List UInt8) × Unit))) × Unit)))))) (x17 : Int) (x18 : Int) (k0 : Bool -> Option Bool) (k1 : Option Bool) : Option Bool :=
 iter (fun (v : Int) r => ze7 N s x16 x17 v (fun x18 => (r x18)) k0 k1) N x18

def zlg (N : Nat) (i : (((List ((List UInt8) × (Int × (Int × ((List (Int × ((List UInt8) × Unit))) × Unit))))) × (Int × Unit)) × (List ((List UInt8) × (Int × (Int × ((List (Int × ((List UInt8) × Unit))) × Unit))))) × Int)) (v : Int) (r : Int -> Option Bool) (K : Ex -> List A -> Option Bool) : Option Bool :=
 ze7 N i.1 i.2.1 i.2.2 v (fun x18 => (r x18)) (fun a0 => (K .ret (mkS [(2, .v .bool)] 40 (a0, ())))) (K (.exit 0) (mkS [] 43 ()))

def zlc (N : Nat) : Hd Bool := fun st K => (unS [(1, .box (.pair (.sl (.pair .str (.pair (.int .i64) (.pair (.int .i64) (.pair (.sl (.pair (.int .i64) (.pair .str .unit))) .unit))))) (.pair (.int .i64) .unit))), (14, .v (.sl (.pair .str (.pair (.int .i64) (.pair (.int .i64) (.pair (.sl (.pair (.int .i64) (.pair .str .unit))) .unit)))))), (0, .v (.int .i64)), (0, .v (.int .i64))] 24 (restr [18, 17, 16, 1] 0 st)).bind fun x => iter (fun v r => zlg N ((fun x => (x.1, x.2.1, x.2.2.1)) x) v r K) N ((fun x => x.2.2.2.1) x)

def ztf (N : Nat) : Tab Bool := [([0, 1, 0, 0, 1, 1, 0, 0, 1, 0, 1, 1], zlb N)]

theorem zrd {N : Nat} {c : Ctx} (hb : Base Go.Proofs.Try.prog (z4g N) c) : zu Go.Proofs.Try.prog c (zf z25 [0, 1, 0, 1, 1]) (zlc N) :=
  z4m (s := [(1, .box (.pair (.sl (.pair .str (.pair (.int .i64) (.pair (.int .i64) (.pair (.sl (.pair (.int .i64) (.pair .str .unit))) .unit))))) (.pair (.int .i64) .unit))), (14, .v (.sl (.pair .str (.pair (.int .i64) (.pair (.int .i64) (.pair (.sl (.pair (.int .i64) (.pair .str .unit))) .unit)))))), (0, .v (.int .i64)), (0, .v (.int .i64))]) (m := 24) (zlg N) [18, 17, 16, 1] N (fun x => (x.1, x.2.1, x.2.2.1)) (fun x => x.2.2.2.1) (fun i v => (i.1, i.2.1, i.2.2, v, ())) (fun _ => rfl) (z7 hb N (ztf N) z6j z25 (TabOk.cons (zrc hb) TabOk.nil) [0, 0, 1, 0, 1, 1] _ rfl) (fun i v r K => by kernel_rfl)

def z4u (N : Nat) (s : ((List ((List UInt8) × (Int × (Int × ((List (Int × ((List UInt8) × Unit))) × Unit))))) × (Int × Unit))) : Option Bool :=
 zeb N s
 (fun x2 => some x2)
 (ze9 N s s.1 (((List.length s.1) : Nat) : Int) (0 : Int)
 (fun x21 => some x21)
 (some true))

def znq (N : Nat) : Tab Bool := [([0, 1], zle N), ([0, 1, 0, 1, 1], zlc N)]

theorem zpk (N : Nat) (x : z2b [(0, .v (.pair (.sl (.pair .str (.pair (.int .i64) (.pair (.int .i64) (.pair (.sl (.pair (.int .i64) (.pair .str .unit))) .unit))))) (.pair (.int .i64) .unit)))]) : zft (z4g N) N (znq N) z6j Go.Proofs.Try.f10 (mkS [(0, .v (.pair (.sl (.pair .str (.pair (.int .i64) (.pair (.int .i64) (.pair (.sl (.pair (.int .i64) (.pair .str .unit))) .unit))))) (.pair (.int .i64) .unit)))] 0 x) (z6m (.v .bool) 1) = z4u N x.1 := by kernel_rfl

def z85 (N : Nat) : List A -> Res := z2x [(0, .v (.pair (.sl (.pair .str (.pair (.int .i64) (.pair (.int .i64) (.pair (.sl (.pair (.int .i64) (.pair .str .unit))) .unit))))) (.pair (.int .i64) .unit)))] (fun x => z4u N x.1) (zfu (.v .bool) 1)

theorem za0 (N : Nat) : Contract Go.Proofs.Try.prog z12 10 (z85 N) :=
  Contract.of (E := z4g N) (H := znq N) (L := z6j) (N := N) (body := z25) (K := (z6m (.v .bool) 1)) (zrg N) Go.Proofs.Try.func10 (by kernel_rfl) (by decide) (fun _ hb => (TabOk.cons (zrf hb) (TabOk.cons (zrd hb) TabOk.nil))) (fun x y h => by rw [zpk]; exact h) (z22 (s := (.v .bool)) (m := 1))

def zd0 : Code := (Go.Proofs.Try.f12.body).getD .skip

def zjy : List (List Nat × List Nat) := [([0], [1]), ([0, 1], [1, 3]), ([0, 0, 1, 1], [13, 3, 1]), ([0, 0, 1, 0, 1, 1], [14, 3, 1, 13]), ([1, 0, 1, 0, 1, 1], []), ([0, 1, 1, 0, 1, 0, 1, 1], [27, 3, 1, 13]), ([1, 1, 1, 0, 1, 0, 1, 1], []), ([0, 1, 1, 1, 1, 0, 1, 0, 1, 1], [41, 3, 1, 13]), ([1, 1, 1, 1, 1, 0, 1, 0, 1, 1], []), ([0, 1, 1, 1, 1, 1, 1, 0, 1, 0, 1, 1], [54, 1]), ([1, 1, 1, 1, 1, 1, 1, 0, 1, 0, 1, 1], []), ([0, 0, 1, 1, 1, 1, 1, 1, 1, 0, 1, 0, 1, 1], [2]), ([1, 0, 1, 1, 1, 1, 1, 1, 1, 0, 1, 0, 1, 1], [2]), ([0, 0, 1, 1, 1, 1, 1, 0, 1, 0, 1, 1], [2]), ([1, 0, 1, 1, 1, 1, 1, 0, 1, 0, 1, 1], [2]), ([0, 0, 1, 1, 1, 0, 1, 0, 1, 1], [2]), ([1, 0, 1, 1, 1, 0, 1, 0, 1, 1], [2]), ([0, 0, 1, 0, 1, 0, 1, 1], [2]), ([1, 0, 1, 0, 1, 0, 1, 1], [2]), ([1, 0, 1, 1], []), ([0, 1, 1, 1], [2]), ([1, 1, 1, 1], [2])]

def zec (N : Nat) : Env := z5o tys z12 [(33, zeu N), (28, z6o N)] [] [] [] false [] []

theorem ztj (N : Nat) : EnvOk Go.Proofs.Try.prog (zec N) := z1k mixed z2v (FnsOk.cons (zo4 N) (FnsOk.cons (zcz N) (FnsOk.nil))) (ItsOk.nil)

def zg6 (N : Nat) (e : (Int × ((List UInt8) × (Int × (Int × ((List UInt8) × Unit)))))) (k0 : Bool -> Option Bool) : Option Bool :=
 (zdr N e.2.1).bind fun y =>
 cond y
 ((z37 N e.2.2.1 (1 : Int)).bind fun y1 =>
 k0 y1)
 (k0 false)

def zns (N : Nat) (x : z2b [(1, .box (.pair (.int .i64) (.pair .str (.pair (.int .i64) (.pair (.int .i64) (.pair .str .unit))))))]) (K : Ex -> List A -> Option Bool) : Option Bool :=
 zg6 N x.1 (fun a1 => (K .normal (mkS [(1, .box (.pair (.int .i64) (.pair .str (.pair (.int .i64) (.pair (.int .i64) (.pair .str .unit)))))), (1, .v .bool)] 70 (x.1, a1, ()))))

def znr (N : Nat) : Hd Bool := fun st K => (unS [(1, .box (.pair (.int .i64) (.pair .str (.pair (.int .i64) (.pair (.int .i64) (.pair .str .unit))))))] 72 (restr [1] 0 st)).bind fun x => zns N x K

def zuu (N : Nat) : Tab Bool := []

theorem zti {N : Nat} {c : Ctx} (hb : Base Go.Proofs.Try.prog (zec N) c) : zu Go.Proofs.Try.prog c (zf zd0 [0, 1]) (znr N) :=
  zp (s := [(1, .box (.pair (.int .i64) (.pair .str (.pair (.int .i64) (.pair (.int .i64) (.pair .str .unit))))))]) (m := 72) (g := zns N) [1] (z7 hb N (zuu N) zjy zd0 TabOk.nil [0, 1] _ rfl) (fun x K => by kernel_rfl)

def zal (N : Nat) (e : (Int × ((List UInt8) × (Int × (Int × ((List UInt8) × Unit)))))) : Option Bool :=
 zg6 N e
 (fun ofTenant => cond (e.1 == (1 : Int))
 (cond ofTenant
 ((z37 N e.2.2.2.1 (0 : Int)).bind fun y =>
 cond y
 (some (e.2.2.2.2.1 == ([] : List UInt8)))
 (some false))
 (some false))
 (cond (e.1 == (2 : Int))
 (cond ofTenant
 (cond (e.2.2.2.1 == (0 : Int))
 (some ((((List.length e.2.2.2.2.1) : Nat) : Int) == (32 : Int)))
 (some false))
 (some false))
 (cond (e.1 == (3 : Int))
 (cond ofTenant
 (cond (e.2.2.2.1 == (0 : Int))
 (some (e.2.2.2.2.1 == ([] : List UInt8)))
 (some false))
 (some false))
 (cond (e.1 == (4 : Int))
 ((z37 N e.2.2.1 (0 : Int)).bind fun y1 =>
 cond y1
 (cond (e.2.1 == ([] : List UInt8))
 (cond (e.2.2.2.1 == (0 : Int))
 (some (e.2.2.2.2.1 == ([] : List UInt8)))
 (some false))
 (some false))
 (some false))
 (some false)))))

def zpo (N : Nat) : Tab Bool := [([0, 1], znr N)]

theorem zrk (N : Nat) (x : z2b [(0, .v (.pair (.int .i64) (.pair .str (.pair (.int .i64) (.pair (.int .i64) (.pair .str .unit))))))]) : zft (zec N) N (zpo N) zjy Go.Proofs.Try.f12 (mkS [(0, .v (.pair (.int .i64) (.pair .str (.pair (.int .i64) (.pair (.int .i64) (.pair .str .unit))))))] 0 x) (z6m (.v .bool) 1) = zal N x.1 := by kernel_rfl

def zlk (N : Nat) : List A -> Res := z2x [(0, .v (.pair (.int .i64) (.pair .str (.pair (.int .i64) (.pair (.int .i64) (.pair .str .unit))))))] (fun x => zal N x.1) (zfu (.v .bool) 1)

theorem znt (N : Nat) : Contract Go.Proofs.Try.prog z12 12 (zlk N) :=
  Contract.of (E := zec N) (H := zpo N) (L := zjy) (N := N) (body := zd0) (K := (z6m (.v .bool) 1)) (ztj N) Go.Proofs.Try.func12 (by kernel_rfl) (by decide) (fun _ hb => (TabOk.cons (zti hb) TabOk.nil)) (fun x y h => by rw [zrk]; exact h) (z22 (s := (.v .bool)) (m := 1))

def zps : Code := (Go.Proofs.Try.f36.body).getD .skip

def znw : List (List Nat × List Nat) := [([0], [2, 1]), ([0, 1], [3]), ([1, 1], [3])]

def zg7 (N : Nat) : Env := z5o tys z12 [] [] [] [] false [] []

theorem zrn (N : Nat) : EnvOk Go.Proofs.Try.prog (zg7 N) := z1k mixed z2v (FnsOk.nil) (ItsOk.nil)

def zsb (N : Nat) (t : ((List UInt8) × (Int × (Int × ((List (Int × ((List UInt8) × Unit))) × Unit))))) (x1 : (List UInt8)) : Option Bool :=
 some (t.1 == x1)

def znv (N : Nat) : Tab Bool := []

theorem zpr (N : Nat) (x : z2b [(0, .v (.pair .str (.pair (.int .i64) (.pair (.int .i64) (.pair (.sl (.pair (.int .i64) (.pair .str .unit))) .unit))))), (0, .v (.ptr .str))]) : zft (zg7 N) N (znv N) znw Go.Proofs.Try.f36 (mkS [(0, .v (.pair .str (.pair (.int .i64) (.pair (.int .i64) (.pair (.sl (.pair (.int .i64) (.pair .str .unit))) .unit))))), (0, .v (.ptr .str))] 0 x) (z6m (.v .bool) 2) = zsb N x.1 x.2.1 := by kernel_rfl

def zd1 (N : Nat) : List A -> Res := z2x [(0, .v (.pair .str (.pair (.int .i64) (.pair (.int .i64) (.pair (.sl (.pair (.int .i64) (.pair .str .unit))) .unit))))), (0, .v (.ptr .str))] (fun x => zsb N x.1 x.2.1) (zfu (.v .bool) 2)

theorem zlm (N : Nat) : Contract Go.Proofs.Try.prog z12 36 (zd1 N) :=
  Contract.of (E := zg7 N) (H := znv N) (L := znw) (N := N) (body := zps) (K := (z6m (.v .bool) 2)) (zrn N) Go.Proofs.Try.func36 (by kernel_rfl) (by decide) (fun _ hb => TabOk.nil) (fun x y h => by rw [zpr]; exact h) (z22 (s := (.v .bool)) (m := 2))

def z8r : Code := (Go.Proofs.Try.f35.body).getD .skip

def zf1 : List (List Nat × List Nat) := [([0], [0, 1]), ([0, 0, 1], [8, 7, 1, 0]), ([0, 1, 0, 1], [8, 7, 1, 0]), ([0, 0, 0, 1, 0, 1], [9, 8, 1, 0, 7]), ([0, 1, 0, 0, 1, 0, 1], [8, 1, 0, 7]), ([1, 0, 1, 0, 0, 1, 0, 1], []), ([0, 0, 0, 1, 1, 0, 0, 1, 0, 1], [1, 0, 5, 8, 7]), ([0, 1, 0, 0, 1, 1, 0, 0, 1, 0, 1], [16, 5, 8, 7, 1, 0]), ([1, 1, 0, 0, 1, 1, 0, 0, 1, 0, 1], [8, 7, 1, 0]), ([0, 0, 1, 1, 0, 0, 1, 1, 0, 0, 1, 0, 1], [4]), ([1, 0, 1, 1, 0, 0, 1, 1, 0, 0, 1, 0, 1], [4]), ([0, 1, 1, 0, 0, 1, 0, 1], [8, 7, 1, 0]), ([1, 1, 1, 0, 0, 1, 0, 1], [8, 7, 1, 0]), ([1, 0, 1], []), ([0, 1, 1], [4]), ([1, 1, 1], [4])]

def za3 (N : Nat) : Env := z5o tys z12 [(36, zd1 N)] [] [] [] false [] []

theorem zqn (N : Nat) : EnvOk Go.Proofs.Try.prog (za3 N) := z1k mixed z2v (FnsOk.cons (zlm N) (FnsOk.nil)) (ItsOk.nil)

def zd4 (N : Nat) (s : (List ((List UInt8) × (Int × (Int × ((List (Int × ((List UInt8) × Unit))) × Unit)))))) (f : ((List UInt8) × Unit)) (x7 : Int) (x8 : Int) (rec : Int -> Option Int) (k0 : Int -> Option Int) (k1 : Option Int) : Option Int :=
 cond (decide (x8 < x7))
 (cond (Go.Lift.inR x8 (List.length s))
 (cond ((List.getD s (Int.toNat x8) (([] : List UInt8), ((0 : Int), ((0 : Int), (([] : List (Int × ((List UInt8) × Unit))), ()))))).1 == f.1)
 (k0 x8)
 (rec (Go.IntKind.wrap Go.IntKind.i64 (x8 + (1 : Int)))))
 (none))
 (k1)

def zjk (N : Nat) (s : (List ((List UInt8) × (Int × (Int × ((List (Int × ((List UInt8) × Unit))) × Unit)))))) (f : ((List UInt8) × Unit)) (x7 : Int) (x8 : Int) (k0 : Int -> Option Int) (k1 : Option Int) : Option Int :=
 iter (fun (v : Int) r => zd4 N s f x7 v (fun x8 => (r x8)) k0 k1) N x8

def zjm (N : Nat) (i : ((List ((List UInt8) × (Int × (Int × ((List (Int × ((List UInt8) × Unit))) × Unit))))) × ((List UInt8) × Unit) × Int)) (v : Int) (r : Int -> Option Int) (K : Ex -> List A -> Option Int) : Option Int :=
 zd4 N i.1 i.2.1 i.2.2 v (fun x8 => (r x8)) (fun a0 => (K .ret (mkS [(4, .v (.int .i64))] 14 (a0, ())))) (K (.exit 0) (mkS [] 19 ()))

def zjl (N : Nat) : Hd Int := fun st K => (unS [(0, .v (.sl (.pair .str (.pair (.int .i64) (.pair (.int .i64) (.pair (.sl (.pair (.int .i64) (.pair .str .unit))) .unit)))))), (0, .v (.fn 36 (.pair (.ptr .str) .unit))), (5, .v (.int .i64)), (0, .v (.int .i64))] 10 (restr [8, 7, 1, 0] 0 st)).bind fun x => iter (fun v r => zjm N ((fun x => (x.1, x.2.1, x.2.2.1)) x) v r K) N ((fun x => x.2.2.2.1) x)

def zrw (N : Nat) : Tab Int := []

theorem zqm {N : Nat} {c : Ctx} (hb : Base Go.Proofs.Try.prog (za3 N) c) : zu Go.Proofs.Try.prog c (zf z8r [0, 1, 0, 1]) (zjl N) :=
  z4m (s := [(0, .v (.sl (.pair .str (.pair (.int .i64) (.pair (.int .i64) (.pair (.sl (.pair (.int .i64) (.pair .str .unit))) .unit)))))), (0, .v (.fn 36 (.pair (.ptr .str) .unit))), (5, .v (.int .i64)), (0, .v (.int .i64))]) (m := 10) (zjm N) [8, 7, 1, 0] N (fun x => (x.1, x.2.1, x.2.2.1)) (fun x => x.2.2.2.1) (fun i v => (i.1, i.2.1, i.2.2, v, ())) (fun _ => rfl) (z7 hb N (zrw N) zf1 z8r TabOk.nil [0, 0, 1, 0, 1] _ rfl) (fun i v r K => by kernel_rfl)

def zc0 (N : Nat) (s : (List ((List UInt8) × (Int × (Int × ((List (Int × ((List UInt8) × Unit))) × Unit)))))) (f : ((List UInt8) × Unit)) : Option Int :=
 zjk N s f (((List.length s) : Nat) : Int) (0 : Int)
 (fun x4 => some x4)
 (some (-(1 : Int)))

def zm7 (N : Nat) : Tab Int := [([0, 1, 0, 1], zjl N)]

theorem zor (N : Nat) (x : z2b [(0, .v (.sl (.pair .str (.pair (.int .i64) (.pair (.int .i64) (.pair (.sl (.pair (.int .i64) (.pair .str .unit))) .unit)))))), (0, .v (.fn 36 (.pair (.ptr .str) .unit)))]) : zft (za3 N) N (zm7 N) zf1 Go.Proofs.Try.f35 (mkS [(0, .v (.sl (.pair .str (.pair (.int .i64) (.pair (.int .i64) (.pair (.sl (.pair (.int .i64) (.pair .str .unit))) .unit)))))), (0, .v (.fn 36 (.pair (.ptr .str) .unit)))] 0 x) (z6m (.v (.int .i64)) 2) = zc0 N x.1 x.2.1 := by kernel_rfl

def zh8 (N : Nat) : List A -> Res := z2x [(0, .v (.sl (.pair .str (.pair (.int .i64) (.pair (.int .i64) (.pair (.sl (.pair (.int .i64) (.pair .str .unit))) .unit)))))), (0, .v (.fn 36 (.pair (.ptr .str) .unit)))] (fun x => zc0 N x.1 x.2.1) (zfu (.v (.int .i64)) 2)

theorem zry (N : Nat) : Contract Go.Proofs.Try.prog z12 35 (zh8 N) :=
  Contract.of (E := za3 N) (H := zm7 N) (L := zf1) (N := N) (body := z8r) (K := (z6m (.v (.int .i64)) 2)) (zqn N) Go.Proofs.Try.func35 (by kernel_rfl) (by decide) (fun _ hb => (TabOk.cons (zqm hb) TabOk.nil)) (fun x y h => by rw [zor]; exact h) (z22 (s := (.v (.int .i64))) (m := 2))

def zrm : Code := (Go.Proofs.Try.f21.body).getD .skip

def zpq : List (List Nat × List Nat) := [([0], [2, 3]), ([0, 1], [4]), ([1, 1], [4])]

def zjz (N : Nat) : Env := z5o tys z12 [(35, zh8 N), (36, zd1 N)] [] [] [] false [] []

theorem ztk (N : Nat) : EnvOk Go.Proofs.Try.prog (zjz N) := z1k mixed z2v (FnsOk.cons (zry N) (FnsOk.cons (zlm N) (FnsOk.nil))) (ItsOk.nil)

def zam (N : Nat) (s : ((List ((List UInt8) × (Int × (Int × ((List (Int × ((List UInt8) × Unit))) × Unit))))) × (Int × Unit))) (tenant : (List UInt8)) : Option Int :=
 (zc0 N s.1 (tenant, ())).bind fun y =>
 some y

def zpp (N : Nat) : Tab Int := []

theorem zrl (N : Nat) (x : z2b [(0, .v (.pair (.sl (.pair .str (.pair (.int .i64) (.pair (.int .i64) (.pair (.sl (.pair (.int .i64) (.pair .str .unit))) .unit))))) (.pair (.int .i64) .unit))), (0, .v .str)]) : zft (zjz N) N (zpp N) zpq Go.Proofs.Try.f21 (mkS [(0, .v (.pair (.sl (.pair .str (.pair (.int .i64) (.pair (.int .i64) (.pair (.sl (.pair (.int .i64) (.pair .str .unit))) .unit))))) (.pair (.int .i64) .unit))), (0, .v .str)] 0 x) (z6m (.v (.int .i64)) 2) = zam N x.1 x.2.1 := by kernel_rfl

def zll (N : Nat) : List A -> Res := z2x [(0, .v (.pair (.sl (.pair .str (.pair (.int .i64) (.pair (.int .i64) (.pair (.sl (.pair (.int .i64) (.pair .str .unit))) .unit))))) (.pair (.int .i64) .unit))), (0, .v .str)] (fun x => zam N x.1 x.2.1) (zfu (.v (.int .i64)) 2)

theorem znu (N : Nat) : Contract Go.Proofs.Try.prog z12 21 (zll N) :=
  Contract.of (E := zjz N) (H := zpp N) (L := zpq) (N := N) (body := zrm) (K := (z6m (.v (.int .i64)) 2)) (ztk N) Go.Proofs.Try.func21 (by kernel_rfl) (by decide) (fun _ hb => TabOk.nil) (fun x y h => by rw [zrl]; exact h) (z22 (s := (.v (.int .i64))) (m := 2))

def zoj : Code := (Go.Proofs.Try.f44.body).getD .skip

def zla : List (List Nat × List Nat) := [([0], [2, 1]), ([0, 1], [3]), ([1, 1], [3])]

def ze6 (N : Nat) : Env := z5o tys z12 [] [] [] [] false [] []

theorem zpi (N : Nat) : EnvOk Go.Proofs.Try.prog (ze6 N) := z1k mixed z2v (FnsOk.nil) (ItsOk.nil)

def zpj (N : Nat) (k : (Int × ((List UInt8) × Unit))) (x1 : Int) : Option Bool :=
 some (k.1 == x1)

def zl9 (N : Nat) : Tab Bool := []

theorem zoi (N : Nat) (x : z2b [(0, .v (.pair (.int .i64) (.pair .str .unit))), (0, .v (.ptr (.int .i64)))]) : zft (ze6 N) N (zl9 N) zla Go.Proofs.Try.f44 (mkS [(0, .v (.pair (.int .i64) (.pair .str .unit))), (0, .v (.ptr (.int .i64)))] 0 x) (z6m (.v .bool) 2) = zpj N x.1 x.2.1 := by kernel_rfl

def zak (N : Nat) : List A -> Res := z2x [(0, .v (.pair (.int .i64) (.pair .str .unit))), (0, .v (.ptr (.int .i64)))] (fun x => zpj N x.1 x.2.1) (zfu (.v .bool) 2)

theorem zj9 (N : Nat) : Contract Go.Proofs.Try.prog z12 44 (zak N) :=
  Contract.of (E := ze6 N) (H := zl9 N) (L := zla) (N := N) (body := zoj) (K := (z6m (.v .bool) 2)) (zpi N) Go.Proofs.Try.func44 (by kernel_rfl) (by decide) (fun _ hb => TabOk.nil) (fun x y h => by rw [zoi]; exact h) (z22 (s := (.v .bool)) (m := 2))

def zf2 : Code := (Go.Proofs.Try.f43.body).getD .skip

def znb : List (List Nat × List Nat) := [([0], [0, 1]), ([0, 0, 1], [8, 7, 1, 0]), ([0, 1, 0, 1], [8, 7, 1, 0]), ([0, 0, 0, 1, 0, 1], [9, 8, 1, 0, 7]), ([0, 1, 0, 0, 1, 0, 1], [8, 1, 0, 7]), ([1, 0, 1, 0, 0, 1, 0, 1], []), ([0, 0, 0, 1, 1, 0, 0, 1, 0, 1], [1, 0, 5, 8, 7]), ([0, 1, 0, 0, 1, 1, 0, 0, 1, 0, 1], [16, 5, 8, 7, 1, 0]), ([1, 1, 0, 0, 1, 1, 0, 0, 1, 0, 1], [8, 7, 1, 0]), ([0, 0, 1, 1, 0, 0, 1, 1, 0, 0, 1, 0, 1], [4]), ([1, 0, 1, 1, 0, 0, 1, 1, 0, 0, 1, 0, 1], [4]), ([0, 1, 1, 0, 0, 1, 0, 1], [8, 7, 1, 0]), ([1, 1, 1, 0, 0, 1, 0, 1], [8, 7, 1, 0]), ([1, 0, 1], []), ([0, 1, 1], [4]), ([1, 1, 1], [4])]

def zhr (N : Nat) : Env := z5o tys z12 [(44, zak N)] [] [] [] false [] []

theorem zvh (N : Nat) : EnvOk Go.Proofs.Try.prog (zhr N) := z1k mixed z2v (FnsOk.cons (zj9 N) (FnsOk.nil)) (ItsOk.nil)

def zku (N : Nat) (s : (List (Int × ((List UInt8) × Unit)))) (f : (Int × Unit)) (x7 : Int) (x8 : Int) (rec : Int -> Option Int) (k0 : Int -> Option Int) (k1 : Option Int) : Option Int :=
 cond (decide (x8 < x7))
 (cond (Go.Lift.inR x8 (List.length s))
 (cond ((List.getD s (Int.toNat x8) ((0 : Int), (([] : List UInt8), ()))).1 == f.1)
 (k0 x8)
 (rec (Go.IntKind.wrap Go.IntKind.i64 (x8 + (1 : Int)))))
 (none))
 (k1)

def zqo (N : Nat) (s : (List (Int × ((List UInt8) × Unit)))) (f : (Int × Unit)) (x7 : Int) (x8 : Int) (k0 : Int -> Option Int) (k1 : Option Int) : Option Int :=
 iter (fun (v : Int) r => zku N s f x7 v (fun x8 => (r x8)) k0 k1) N x8

def zqq (N : Nat) (i : ((List (Int × ((List UInt8) × Unit))) × (Int × Unit) × Int)) (v : Int) (r : Int -> Option Int) (K : Ex -> List A -> Option Int) : Option Int :=
 zku N i.1 i.2.1 i.2.2 v (fun x8 => (r x8)) (fun a0 => (K .ret (mkS [(4, .v (.int .i64))] 14 (a0, ())))) (K (.exit 0) (mkS [] 19 ()))

def zqp (N : Nat) : Hd Int := fun st K => (unS [(0, .v (.sl (.pair (.int .i64) (.pair .str .unit)))), (0, .v (.fn 44 (.pair (.ptr (.int .i64)) .unit))), (5, .v (.int .i64)), (0, .v (.int .i64))] 10 (restr [8, 7, 1, 0] 0 st)).bind fun x => iter (fun v r => zqq N ((fun x => (x.1, x.2.1, x.2.2.1)) x) v r K) N ((fun x => x.2.2.2.1) x)

def zwx (N : Nat) : Tab Int := []

theorem zvg {N : Nat} {c : Ctx} (hb : Base Go.Proofs.Try.prog (zhr N) c) : zu Go.Proofs.Try.prog c (zf zf2 [0, 1, 0, 1]) (zqp N) :=
  z4m (s := [(0, .v (.sl (.pair (.int .i64) (.pair .str .unit)))), (0, .v (.fn 44 (.pair (.ptr (.int .i64)) .unit))), (5, .v (.int .i64)), (0, .v (.int .i64))]) (m := 10) (zqq N) [8, 7, 1, 0] N (fun x => (x.1, x.2.1, x.2.2.1)) (fun x => x.2.2.2.1) (fun i v => (i.1, i.2.1, i.2.2, v, ())) (fun _ => rfl) (z7 hb N (zwx N) znb zf2 TabOk.nil [0, 0, 1, 0, 1] _ rfl) (fun i v r K => by kernel_rfl)

def zm8 (N : Nat) (s : (List (Int × ((List UInt8) × Unit)))) (f : (Int × Unit)) : Option Int :=
 zqo N s f (((List.length s) : Nat) : Int) (0 : Int)
 (fun x4 => some x4)
 (some (-(1 : Int)))

def zsq (N : Nat) : Tab Int := [([0, 1, 0, 1], zqp N)]

theorem zu0 (N : Nat) (x : z2b [(0, .v (.sl (.pair (.int .i64) (.pair .str .unit)))), (0, .v (.fn 44 (.pair (.ptr (.int .i64)) .unit)))]) : zft (zhr N) N (zsq N) znb Go.Proofs.Try.f43 (mkS [(0, .v (.sl (.pair (.int .i64) (.pair .str .unit)))), (0, .v (.fn 44 (.pair (.ptr (.int .i64)) .unit)))] 0 x) (z6m (.v (.int .i64)) 2) = zm8 N x.1 x.2.1 := by kernel_rfl

def zo9 (N : Nat) : List A -> Res := z2x [(0, .v (.sl (.pair (.int .i64) (.pair .str .unit)))), (0, .v (.fn 44 (.pair (.ptr (.int .i64)) .unit)))] (fun x => zm8 N x.1 x.2.1) (zfu (.v (.int .i64)) 2)

theorem zwz (N : Nat) : Contract Go.Proofs.Try.prog z12 43 (zo9 N) :=
  Contract.of (E := zhr N) (H := zsq N) (L := znb) (N := N) (body := zf2) (K := (z6m (.v (.int .i64)) 2)) (zvh N) Go.Proofs.Try.func43 (by kernel_rfl) (by decide) (fun _ hb => (TabOk.cons (zvg hb) TabOk.nil)) (fun x y h => by rw [zu0]; exact h) (z22 (s := (.v (.int .i64))) (m := 2))

def zph : Code := (Go.Proofs.Try.f34.body).getD .skip

def znp : List (List Nat × List Nat) := [([0], [0, 3]), ([0, 1], [4]), ([1, 1], [4])]

def zg4 (N : Nat) : Env := z5o tys z12 [(43, zo9 N), (44, zak N)] [] [] [] false [] []

theorem zrb (N : Nat) : EnvOk Go.Proofs.Try.prog (zg4 N) := z1k mixed z2v (FnsOk.cons (zwz N) (FnsOk.cons (zj9 N) (FnsOk.nil))) (ItsOk.nil)

def z7y (N : Nat) (l : (List (Int × ((List UInt8) × Unit)))) (num : Int) : Option Int :=
 (zm8 N l (num, ())).bind fun y =>
 some y

def zno (N : Nat) : Tab Int := []

theorem zpg (N : Nat) (x : z2b [(0, .v (.sl (.pair (.int .i64) (.pair .str .unit)))), (0, .v (.int .i64))]) : zft (zg4 N) N (zno N) znp Go.Proofs.Try.f34 (mkS [(0, .v (.sl (.pair (.int .i64) (.pair .str .unit)))), (0, .v (.int .i64))] 0 x) (z6m (.v (.int .i64)) 2) = z7y N x.1 x.2.1 := by kernel_rfl

def zra (N : Nat) : List A -> Res := z2x [(0, .v (.sl (.pair (.int .i64) (.pair .str .unit)))), (0, .v (.int .i64))] (fun x => z7y N x.1 x.2.1) (zfu (.v (.int .i64)) 2)

theorem ztc (N : Nat) : Contract Go.Proofs.Try.prog z12 34 (zra N) :=
  Contract.of (E := zg4 N) (H := zno N) (L := znp) (N := N) (body := zph) (K := (z6m (.v (.int .i64)) 2)) (zrb N) Go.Proofs.Try.func34 (by kernel_rfl) (by decide) (fun _ hb => TabOk.nil) (fun x y h => by rw [zpg]; exact h) (z22 (s := (.v (.int .i64))) (m := 2))

def z42 : Code := (Go.Proofs.Try.f19.body).getD .skip

def za1 : List (List Nat × List Nat) := [([0], [2, 1, 4]), ([0, 1], [6, 2, 4]), ([0, 0, 1, 1], [22, 4, 2, 6]), ([1, 0, 1, 1], [2, 6, 4]), ([0, 0, 1, 0, 1, 1], [4, 5]), ([1, 0, 1, 0, 1, 1], [4, 5]), ([0, 1, 1, 1], [7, 4]), ([0, 1, 1, 1, 1], [4, 5]), ([1, 1, 1, 1, 1], [4, 5])]

def z6p (N : Nat) : Env := z5o tys z12 [(21, zll N)] [(7, (.pair (.int .i64) (.pair .str .unit)))] [] [] false [] []

theorem zpn (N : Nat) : EnvOk Go.Proofs.Try.prog (z6p N) := z1k mixed z2v (FnsOk.cons (znu N) (FnsOk.nil)) (ItsOk.nil)

def zjb (N : Nat) (s : ((List ((List UInt8) × (Int × (Int × ((List (Int × ((List UInt8) × Unit))) × Unit))))) × (Int × Unit))) (x4 : (Int × ((List UInt8) × Unit))) (at_ : Int) (k0 : Bool -> Option ((Int × ((List UInt8) × Unit)) × Bool × Unit)) : Option ((Int × ((List UInt8) × Unit)) × Bool × Unit) :=
 cond (decide (at_ < (0 : Int)))
 (k0 true)
 (cond (Go.Lift.inR at_ (List.length s.1))
 (k0 ((((List.length (List.getD s.1 (Int.toNat at_) (([] : List UInt8), ((0 : Int), ((0 : Int), (([] : List (Int × ((List UInt8) × Unit))), ()))))).2.2.2.1) : Nat) : Int) == (0 : Int)))
 (none))

def zjf (N : Nat) (x : z2b [(2, .box (.pair (.sl (.pair .str (.pair (.int .i64) (.pair (.int .i64) (.pair (.sl (.pair (.int .i64) (.pair .str .unit))) .unit))))) (.pair (.int .i64) .unit))), (1, .box (.pair (.int .i64) (.pair .str .unit))), (1, .v (.int .i64))]) (K : Ex -> List A -> Option ((Int × ((List UInt8) × Unit)) × Bool × Unit)) : Option ((Int × ((List UInt8) × Unit)) × Bool × Unit) :=
 zjb N x.1 x.2.1 x.2.2.1 (fun a3 => (K .normal (mkS [(2, .box (.pair (.sl (.pair .str (.pair (.int .i64) (.pair (.int .i64) (.pair (.sl (.pair (.int .i64) (.pair .str .unit))) .unit))))) (.pair (.int .i64) .unit))), (1, .box (.pair (.int .i64) (.pair .str .unit))), (1, .v (.int .i64)), (15, .v .bool)] 13 (x.1, x.2.1, x.2.2.1, a3, ()))))

def zjd (N : Nat) : Hd ((Int × ((List UInt8) × Unit)) × Bool × Unit) := fun st K => (unS [(2, .box (.pair (.sl (.pair .str (.pair (.int .i64) (.pair (.int .i64) (.pair (.sl (.pair (.int .i64) (.pair .str .unit))) .unit))))) (.pair (.int .i64) .unit))), (1, .box (.pair (.int .i64) (.pair .str .unit))), (1, .v (.int .i64))] 29 (restr [6, 2, 4] 0 st)).bind fun x => zjf N x K

def zrh (N : Nat) : Tab ((Int × ((List UInt8) × Unit)) × Bool × Unit) := []

theorem zpl {N : Nat} {c : Ctx} (hb : Base Go.Proofs.Try.prog (z6p N) c) : zu Go.Proofs.Try.prog c (zf z42 [0, 0, 1, 1]) (zjd N) :=
  zp (s := [(2, .box (.pair (.sl (.pair .str (.pair (.int .i64) (.pair (.int .i64) (.pair (.sl (.pair (.int .i64) (.pair .str .unit))) .unit))))) (.pair (.int .i64) .unit))), (1, .box (.pair (.int .i64) (.pair .str .unit))), (1, .v (.int .i64))]) (m := 29) (g := zjf N) [6, 2, 4] (z7 hb N (zrh N) za1 z42 TabOk.nil [0, 0, 1, 1] _ rfl) (fun x K => by kernel_rfl)

def zjc (N : Nat) (s : ((List ((List UInt8) × (Int × (Int × ((List (Int × ((List UInt8) × Unit))) × Unit))))) × (Int × Unit))) (x4 : (Int × ((List UInt8) × Unit))) (at_ : Int) (k0 : (Int × ((List UInt8) × Unit)) -> Bool -> Option ((Int × ((List UInt8) × Unit)) × Bool × Unit)) (k1 : Option ((Int × ((List UInt8) × Unit)) × Bool × Unit)) : Option ((Int × ((List UInt8) × Unit)) × Bool × Unit) :=
 zjb N s x4 at_
 (fun x22 => cond x22
 (k0 ((0 : Int), (([] : List UInt8), ())) false)
 (k1))

def zjg (N : Nat) (x : z2b [(2, .box (.pair (.sl (.pair .str (.pair (.int .i64) (.pair (.int .i64) (.pair (.sl (.pair (.int .i64) (.pair .str .unit))) .unit))))) (.pair (.int .i64) .unit))), (1, .box (.pair (.int .i64) (.pair .str .unit))), (1, .v (.int .i64))]) (K : Ex -> List A -> Option ((Int × ((List UInt8) × Unit)) × Bool × Unit)) : Option ((Int × ((List UInt8) × Unit)) × Bool × Unit) :=
 zjc N x.1 x.2.1 x.2.2.1 (fun a0 a1 => (K .ret (mkS [(4, .box (.pair (.int .i64) (.pair .str .unit))), (0, .v .bool)] 30 (a0, a1, ())))) (K .normal (mkS [(2, .box (.pair (.sl (.pair .str (.pair (.int .i64) (.pair (.int .i64) (.pair (.sl (.pair (.int .i64) (.pair .str .unit))) .unit))))) (.pair (.int .i64) .unit))), (1, .box (.pair (.int .i64) (.pair .str .unit))), (1, .v (.int .i64))] 29 (x.1, x.2.1, x.2.2.1, ())))

def zje (N : Nat) : Hd ((Int × ((List UInt8) × Unit)) × Bool × Unit) := fun st K => (unS [(2, .box (.pair (.sl (.pair .str (.pair (.int .i64) (.pair (.int .i64) (.pair (.sl (.pair (.int .i64) (.pair .str .unit))) .unit))))) (.pair (.int .i64) .unit))), (1, .box (.pair (.int .i64) (.pair .str .unit))), (1, .v (.int .i64))] 29 (restr [6, 2, 4] 0 st)).bind fun x => zjg N x K

def zri (N : Nat) : Tab ((Int × ((List UInt8) × Unit)) × Bool × Unit) := [([0, 0, 1, 1], zjd N)]

theorem zpm {N : Nat} {c : Ctx} (hb : Base Go.Proofs.Try.prog (z6p N) c) : zu Go.Proofs.Try.prog c (zf z42 [0, 1, 1]) (zje N) :=
  zp (s := [(2, .box (.pair (.sl (.pair .str (.pair (.int .i64) (.pair (.int .i64) (.pair (.sl (.pair (.int .i64) (.pair .str .unit))) .unit))))) (.pair (.int .i64) .unit))), (1, .box (.pair (.int .i64) (.pair .str .unit))), (1, .v (.int .i64))]) (m := 29) (g := zjg N) [6, 2, 4] (z7 hb N (zri N) za1 z42 (TabOk.cons (zpl hb) TabOk.nil) [0, 1, 1] _ rfl) (fun x K => by kernel_rfl)

def zjx (N : Nat) (s : ((List ((List UInt8) × (Int × (Int × ((List (Int × ((List UInt8) × Unit))) × Unit))))) × (Int × Unit))) (tenant : (List UInt8)) : Option ((Int × ((List UInt8) × Unit)) × Bool × Unit) :=
 (zam N s tenant).bind fun y =>
 zjc N s ((0 : Int), (([] : List UInt8), ())) y
 (fun x4 x5 => some (x4, (x5, ())))
 (cond (Go.Lift.inR y (List.length s.1))
 (cond (Go.Lift.inR (Go.IntKind.wrap Go.IntKind.i64 ((((List.length (List.getD s.1 (Int.toNat y) (([] : List UInt8), ((0 : Int), ((0 : Int), (([] : List (Int × ((List UInt8) × Unit))), ()))))).2.2.2.1) : Nat) : Int) - (1 : Int))) (List.length (List.getD s.1 (Int.toNat y) (([] : List UInt8), ((0 : Int), ((0 : Int), (([] : List (Int × ((List UInt8) × Unit))), ()))))).2.2.2.1))
 (some ((List.getD (List.getD s.1 (Int.toNat y) (([] : List UInt8), ((0 : Int), ((0 : Int), (([] : List (Int × ((List UInt8) × Unit))), ()))))).2.2.2.1 (Int.toNat (Go.IntKind.wrap Go.IntKind.i64 ((((List.length (List.getD s.1 (Int.toNat y) (([] : List UInt8), ((0 : Int), ((0 : Int), (([] : List (Int × ((List UInt8) × Unit))), ()))))).2.2.2.1) : Nat) : Int) - (1 : Int)))) ((0 : Int), (([] : List UInt8), ()))), (true, ())))
 (none))
 (none))

def zlj (N : Nat) : Tab ((Int × ((List UInt8) × Unit)) × Bool × Unit) := [([0, 1, 1], zje N)]

theorem zol (N : Nat) (x : z2b [(0, .v (.pair (.sl (.pair .str (.pair (.int .i64) (.pair (.int .i64) (.pair (.sl (.pair (.int .i64) (.pair .str .unit))) .unit))))) (.pair (.int .i64) .unit))), (0, .v .str)]) : zft (z6p N) N (zlj N) za1 Go.Proofs.Try.f19 (mkS [(0, .v (.pair (.sl (.pair .str (.pair (.int .i64) (.pair (.int .i64) (.pair (.sl (.pair (.int .i64) (.pair .str .unit))) .unit))))) (.pair (.int .i64) .unit))), (0, .v .str)] 0 x) (z6m (.tup [(.pair (.int .i64) (.pair .str .unit)), .bool]) 2) = zjx N x.1 x.2.1 := by kernel_rfl

def zg5 (N : Nat) : List A -> Res := z2x [(0, .v (.pair (.sl (.pair .str (.pair (.int .i64) (.pair (.int .i64) (.pair (.sl (.pair (.int .i64) (.pair .str .unit))) .unit))))) (.pair (.int .i64) .unit))), (0, .v .str)] (fun x => zjx N x.1 x.2.1) (zfu (.tup [(.pair (.int .i64) (.pair .str .unit)), .bool]) 2)

theorem zrj (N : Nat) : Contract Go.Proofs.Try.prog z12 19 (zg5 N) :=
  Contract.of (E := z6p N) (H := zlj N) (L := za1) (N := N) (body := z42) (K := (z6m (.tup [(.pair (.int .i64) (.pair .str .unit)), .bool]) 2)) (zpn N) Go.Proofs.Try.func19 (by kernel_rfl) (by decide) (fun _ hb => (TabOk.cons (zpm hb) TabOk.nil)) (fun x y h => by rw [zol]; exact h) (z22 (s := (.tup [(.pair (.int .i64) (.pair .str .unit)), .bool])) (m := 2))

def z1m : Code := (Go.Proofs.Try.f6.body).getD .skip

def z2y : List (List Nat × List Nat) := [([0], [1]), ([0, 0, 1], [7, 1]), ([1, 0, 1], [1]), ([0, 0, 1, 0, 1], [2]), ([1, 0, 1, 0, 1], [2]), ([0, 0, 1, 1], [3, 1]), ([0, 1, 0, 1, 1], [3, 1]), ([0, 0, 0, 0, 1, 0, 1, 1], [12, 1, 3]), ([1, 0, 0, 0, 1, 0, 1, 1], [1, 3]), ([1, 1, 0, 0, 0, 1, 0, 1, 1], []), ([0, 0, 0, 1, 0, 0, 1, 0, 1, 1], [32, 3, 1]), ([1, 0, 0, 1, 0, 0, 1, 0, 1, 1], [3, 1]), ([0, 0, 1, 0, 0, 1, 0, 0, 1, 0, 1, 1], [2]), ([1, 0, 1, 0, 0, 1, 0, 0, 1, 0, 1, 1], [2]), ([0, 1, 0, 0, 1, 0, 1, 1], [3, 1]), ([1, 1, 0, 0, 1, 0, 1, 1], [3, 1]), ([1, 0, 1, 1], []), ([0, 1, 1, 1], [2]), ([1, 1, 1, 1], [2])]

def z2e (N : Nat) : Env := z5o tys z12 [] [] [] [] false [] []

theorem zgq (N : Nat) : EnvOk Go.Proofs.Try.prog (z2e N) := z1k mixed z2v (FnsOk.nil) (ItsOk.nil)

def z5h (N : Nat) (s : ((List ((List UInt8) × (Int × (Int × ((List (Int × ((List UInt8) × Unit))) × Unit))))) × (Int × Unit))) (i : Int) (k0 : Bool -> Option Bool) : Option Bool :=
 cond (Go.Lift.inR i (List.length s.1))
 (cond (decide ((12 : Int) < (((List.length (List.getD s.1 (Int.toNat i) (([] : List UInt8), ((0 : Int), ((0 : Int), (([] : List (Int × ((List UInt8) × Unit))), ()))))).2.2.2.1) : Nat) : Int)))
 (k0 true)
 (cond (Go.Lift.inR i (List.length s.1))
 (k0 (decide ((100 : Int) < (((List.length (List.getD s.1 (Int.toNat i) (([] : List UInt8), ((0 : Int), ((0 : Int), (([] : List (Int × ((List UInt8) × Unit))), ()))))).1) : Nat) : Int))))
 (none)))
 (none)

def z9i (N : Nat) (x : z2b [(1, .box (.pair (.sl (.pair .str (.pair (.int .i64) (.pair (.int .i64) (.pair (.sl (.pair (.int .i64) (.pair .str .unit))) .unit))))) (.pair (.int .i64) .unit))), (1, .v (.int .i64))]) (K : Ex -> List A -> Option Bool) : Option Bool :=
 z5h N x.1 x.2.1 (fun a2 => (K .normal (mkS [(1, .box (.pair (.sl (.pair .str (.pair (.int .i64) (.pair (.int .i64) (.pair (.sl (.pair (.int .i64) (.pair .str .unit))) .unit))))) (.pair (.int .i64) .unit))), (1, .v (.int .i64)), (28, .v .bool)] 0 (x.1, x.2.1, a2, ()))))

def z9f (N : Nat) : Hd Bool := fun st K => (unS [(1, .box (.pair (.sl (.pair .str (.pair (.int .i64) (.pair (.int .i64) (.pair (.sl (.pair (.int .i64) (.pair .str .unit))) .unit))))) (.pair (.int .i64) .unit))), (1, .v (.int .i64))] 29 (restr [1, 3] 0 st)).bind fun x => z9i N x K

def zig (N : Nat) : Tab Bool := []

theorem zgn {N : Nat} {c : Ctx} (hb : Base Go.Proofs.Try.prog (z2e N) c) : zu Go.Proofs.Try.prog c (zf z1m [0, 0, 0, 1, 0, 0, 1, 0, 1, 1]) (z9f N) :=
  zp (s := [(1, .box (.pair (.sl (.pair .str (.pair (.int .i64) (.pair (.int .i64) (.pair (.sl (.pair (.int .i64) (.pair .str .unit))) .unit))))) (.pair (.int .i64) .unit))), (1, .v (.int .i64))]) (m := 29) (g := z9i N) [1, 3] (z7 hb N (zig N) z2y z1m TabOk.nil [0, 0, 0, 1, 0, 0, 1, 0, 1, 1] _ rfl) (fun x K => by kernel_rfl)

def z5i (N : Nat) (s : ((List ((List UInt8) × (Int × (Int × ((List (Int × ((List UInt8) × Unit))) × Unit))))) × (Int × Unit))) (i : Int) (k0 : Bool -> Option Bool) (k1 : Option Bool) : Option Bool :=
 z5h N s i
 (fun x32 => cond x32
 (k0 true)
 (k1))

def z9j (N : Nat) (x : z2b [(1, .box (.pair (.sl (.pair .str (.pair (.int .i64) (.pair (.int .i64) (.pair (.sl (.pair (.int .i64) (.pair .str .unit))) .unit))))) (.pair (.int .i64) .unit))), (1, .v (.int .i64))]) (K : Ex -> List A -> Option Bool) : Option Bool :=
 z5i N x.1 x.2.1 (fun a0 => (K .ret (mkS [(2, .v .bool)] 30 (a0, ())))) (K .normal (mkS [(1, .box (.pair (.sl (.pair .str (.pair (.int .i64) (.pair (.int .i64) (.pair (.sl (.pair (.int .i64) (.pair .str .unit))) .unit))))) (.pair (.int .i64) .unit))), (1, .v (.int .i64))] 29 (x.1, x.2.1, ())))

def z9g (N : Nat) : Hd Bool := fun st K => (unS [(1, .box (.pair (.sl (.pair .str (.pair (.int .i64) (.pair (.int .i64) (.pair (.sl (.pair (.int .i64) (.pair .str .unit))) .unit))))) (.pair (.int .i64) .unit))), (1, .v (.int .i64))] 29 (restr [1, 3] 0 st)).bind fun x => z9j N x K

def zih (N : Nat) : Tab Bool := [([0, 0, 0, 1, 0, 0, 1, 0, 1, 1], z9f N)]

theorem zgo {N : Nat} {c : Ctx} (hb : Base Go.Proofs.Try.prog (z2e N) c) : zu Go.Proofs.Try.prog c (zf z1m [0, 1, 0, 0, 1, 0, 1, 1]) (z9g N) :=
  zp (s := [(1, .box (.pair (.sl (.pair .str (.pair (.int .i64) (.pair (.int .i64) (.pair (.sl (.pair (.int .i64) (.pair .str .unit))) .unit))))) (.pair (.int .i64) .unit))), (1, .v (.int .i64))]) (m := 29) (g := z9j N) [1, 3] (z7 hb N (zih N) z2y z1m (TabOk.cons (zgn hb) TabOk.nil) [0, 1, 0, 0, 1, 0, 1, 1] _ rfl) (fun x K => by kernel_rfl)

def z5g (N : Nat) (s : ((List ((List UInt8) × (Int × (Int × ((List (Int × ((List UInt8) × Unit))) × Unit))))) × (Int × Unit))) (i : Int) (rec : Int -> Option Bool) (k0 : Bool -> Option Bool) (k1 : Option Bool) : Option Bool :=
 cond (decide (i < (((List.length s.1) : Nat) : Int)))
 (z5i N s i
 (fun x2 => k0 x2)
 (rec (Go.IntKind.wrap Go.IntKind.i64 (i + (1 : Int)))))
 (k1)

def z9e (N : Nat) (s : ((List ((List UInt8) × (Int × (Int × ((List (Int × ((List UInt8) × Unit))) × Unit))))) × (Int × Unit))) (i : Int) (k0 : Bool -> Option Bool) (k1 : Option Bool) : Option Bool :=
 iter (fun (v : Int) r => z5g N s v (fun i => (r i)) k0 k1) N i

def z9k (N : Nat) (i : ((List ((List UInt8) × (Int × (Int × ((List (Int × ((List UInt8) × Unit))) × Unit))))) × (Int × Unit))) (v : Int) (r : Int -> Option Bool) (K : Ex -> List A -> Option Bool) : Option Bool :=
 z5g N i v (fun i => (r i)) (fun a0 => (K .ret (mkS [(2, .v .bool)] 30 (a0, ())))) (K (.exit 0) (mkS [] 33 ()))

def z9h (N : Nat) : Hd Bool := fun st K => (unS [(1, .box (.pair (.sl (.pair .str (.pair (.int .i64) (.pair (.int .i64) (.pair (.sl (.pair (.int .i64) (.pair .str .unit))) .unit))))) (.pair (.int .i64) .unit))), (1, .v (.int .i64))] 29 (restr [3, 1] 0 st)).bind fun x => iter (fun v r => z9k N ((fun x => x.1) x) v r K) N ((fun x => x.2.1) x)

def zii (N : Nat) : Tab Bool := [([0, 1, 0, 0, 1, 0, 1, 1], z9g N)]

theorem zgp {N : Nat} {c : Ctx} (hb : Base Go.Proofs.Try.prog (z2e N) c) : zu Go.Proofs.Try.prog c (zf z1m [0, 1, 0, 1, 1]) (z9h N) :=
  z4m (s := [(1, .box (.pair (.sl (.pair .str (.pair (.int .i64) (.pair (.int .i64) (.pair (.sl (.pair (.int .i64) (.pair .str .unit))) .unit))))) (.pair (.int .i64) .unit))), (1, .v (.int .i64))]) (m := 29) (z9k N) [3, 1] N (fun x => x.1) (fun x => x.2.1) (fun i v => (i, v, ())) (fun _ => rfl) (z7 hb N (zii N) z2y z1m (TabOk.cons (zgo hb) TabOk.nil) [0, 0, 1, 0, 1, 1] _ rfl) (fun i v r K => by kernel_rfl)

def z3g (N : Nat) (s : ((List ((List UInt8) × (Int × (Int × ((List (Int × ((List UInt8) × Unit))) × Unit))))) × (Int × Unit))) : Option Bool :=
 cond (decide ((20 : Int) < (((List.length s.1) : Nat) : Int)))
 (some true)
 (z9e N s (0 : Int)
 (fun x2 => some x2)
 (some false))

def zb0 (N : Nat) : Tab Bool := [([0, 1, 0, 1, 1], z9h N)]

theorem zfl (N : Nat) (x : z2b [(0, .v (.pair (.sl (.pair .str (.pair (.int .i64) (.pair (.int .i64) (.pair (.sl (.pair (.int .i64) (.pair .str .unit))) .unit))))) (.pair (.int .i64) .unit)))]) : zft (z2e N) N (zb0 N) z2y Go.Proofs.Try.f6 (mkS [(0, .v (.pair (.sl (.pair .str (.pair (.int .i64) (.pair (.int .i64) (.pair (.sl (.pair (.int .i64) (.pair .str .unit))) .unit))))) (.pair (.int .i64) .unit)))] 0 x) (z6m (.v .bool) 1) = z3g N x.1 := by kernel_rfl

def z8a (N : Nat) : List A -> Res := z2x [(0, .v (.pair (.sl (.pair .str (.pair (.int .i64) (.pair (.int .i64) (.pair (.sl (.pair (.int .i64) (.pair .str .unit))) .unit))))) (.pair (.int .i64) .unit)))] (fun x => z3g N x.1) (zfu (.v .bool) 1)

theorem zij (N : Nat) : Contract Go.Proofs.Try.prog z12 6 (z8a N) :=
  Contract.of (E := z2e N) (H := zb0 N) (L := z2y) (N := N) (body := z1m) (K := (z6m (.v .bool) 1)) (zgq N) Go.Proofs.Try.func6 (by kernel_rfl) (by decide) (fun _ hb => (TabOk.cons (zgp hb) TabOk.nil)) (fun x y h => by rw [zfl]; exact h) (z22 (s := (.v .bool)) (m := 1))

def zke : Code := (Go.Proofs.Try.f30.body).getD .skip

def zf9 : List (List Nat × List Nat) := [([0], [0, 1]), ([0, 1], [4]), ([1, 1], [4])]

def z8m (N : Nat) : Env := z5o tys z12 [] [] [] [] false [] []

theorem zlx (N : Nat) : EnvOk Go.Proofs.Try.prog (z8m N) := z1k mixed z2v (FnsOk.nil) (ItsOk.nil)

def z23 (N : Nat) (n : Int) (first : Int) : Option Bool :=
 cond (decide (first <= n))
 (some (decide (n <= (1099511627776 : Int))))
 (some false)

def zf8 (N : Nat) : Tab Bool := []

theorem zkd (N : Nat) (x : z2b [(0, .v (.int .i64)), (0, .v (.int .i64))]) : zft (z8m N) N (zf8 N) zf9 Go.Proofs.Try.f30 (mkS [(0, .v (.int .i64)), (0, .v (.int .i64))] 0 x) (z6m (.v .bool) 2) = z23 N x.1 x.2.1 := by kernel_rfl

def z6v (N : Nat) : List A -> Res := z2x [(0, .v (.int .i64)), (0, .v (.int .i64))] (fun x => z23 N x.1 x.2.1) (zfu (.v .bool) 2)

theorem zdg (N : Nat) : Contract Go.Proofs.Try.prog z12 30 (z6v N) :=
  Contract.of (E := z8m N) (H := zf8 N) (L := zf9) (N := N) (body := zke) (K := (z6m (.v .bool) 2)) (zlx N) Go.Proofs.Try.func30 (by kernel_rfl) (by decide) (fun _ hb => TabOk.nil) (fun x y h => by rw [zkd]; exact h) (z22 (s := (.v .bool)) (m := 2))

def zi : Code := (Go.Proofs.Try.f31.body).getD .skip

def z1n : List (List Nat × List Nat) := [([0], [0]), ([0, 0, 1], [13, 0]), ([1, 0, 1], [0]), ([0, 0, 1, 0, 1], [2]), ([1, 0, 1, 0, 1], [2]), ([0, 0, 1, 1], [3, 0]), ([0, 1, 0, 1, 1], [3, 0]), ([0, 0, 0, 0, 1, 0, 1, 1], [17, 0, 3]), ([1, 0, 0, 0, 1, 0, 1, 1], [0, 3]), ([1, 1, 0, 0, 0, 1, 0, 1, 1], []), ([0, 0, 0, 1, 0, 0, 1, 0, 1, 1], [0, 3, 4]), ([0, 1, 0, 0, 1, 0, 0, 1, 0, 1, 1], [4, 3, 5, 0]), ([0, 1, 1, 0, 0, 1, 0, 0, 1, 0, 1, 1], [55, 3, 0]), ([1, 1, 1, 0, 0, 1, 0, 0, 1, 0, 1, 1], [3, 0]), ([0, 0, 1, 1, 1, 0, 0, 1, 0, 0, 1, 0, 1, 1], [2]), ([1, 0, 1, 1, 1, 0, 0, 1, 0, 0, 1, 0, 1, 1], [2]), ([0, 1, 0, 0, 1, 0, 1, 1], [3, 0]), ([1, 1, 0, 0, 1, 0, 1, 1], [3, 0]), ([1, 0, 1, 1], []), ([0, 1, 1, 1], [2]), ([1, 1, 1, 1], [2])]

def z1h (N : Nat) : Env := z5o tys z12 [] [] [] [] false [] []

theorem zj3 (N : Nat) : EnvOk Go.Proofs.Try.prog (z1h N) := z1k mixed z2v (FnsOk.nil) (ItsOk.nil)

def z6a (N : Nat) (s : (List UInt8)) (k0 : Bool -> Option Bool) : Option Bool :=
 cond (decide ((((List.length s) : Nat) : Int) < (1 : Int)))
 (k0 true)
 (k0 (decide ((32 : Int) < (((List.length s) : Nat) : Int))))

def zbn (N : Nat) (x : z2b [(0, .v .str)]) (K : Ex -> List A -> Option Bool) : Option Bool :=
 z6a N x.1 (fun a1 => (K .normal (mkS [(0, .v .str), (12, .v .bool)] 42 (x.1, a1, ()))))

def zbg (N : Nat) : Hd Bool := fun st K => (unS [(0, .v .str)] 55 (restr [0] 0 st)).bind fun x => zbn N x K

def zko (N : Nat) : Tab Bool := []

theorem zj1 {N : Nat} {c : Ctx} (hb : Base Go.Proofs.Try.prog (z1h N) c) : zu Go.Proofs.Try.prog c (zf zi [0, 0, 1]) (zbg N) :=
  zp (s := [(0, .v .str)]) (m := 55) (g := zbn N) [0] (z7 hb N (zko N) z1n zi TabOk.nil [0, 0, 1] _ rfl) (fun x K => by kernel_rfl)

def z6b (N : Nat) (s : (List UInt8)) (k0 : Bool -> Option Bool) (k1 : Option Bool) : Option Bool :=
 z6a N s
 (fun x13 => cond x13
 (k0 false)
 (k1))

def zbo (N : Nat) (x : z2b [(0, .v .str)]) (K : Ex -> List A -> Option Bool) : Option Bool :=
 z6b N x.1 (fun a0 => (K .ret (mkS [(2, .v .bool)] 53 (a0, ())))) (K .normal (mkS [(0, .v .str)] 55 (x.1, ())))

def zbh (N : Nat) : Hd Bool := fun st K => (unS [(0, .v .str)] 55 (restr [0] 0 st)).bind fun x => zbo N x K

def zkp (N : Nat) : Tab Bool := [([0, 0, 1], zbg N)]

theorem zj2 {N : Nat} {c : Ctx} (hb : Base Go.Proofs.Try.prog (z1h N) c) : zu Go.Proofs.Try.prog c (zf zi [0, 1]) (zbh N) :=
  zp (s := [(0, .v .str)]) (m := 55) (g := zbo N) [0] (z7 hb N (zkp N) z1n zi (TabOk.cons (zj1 hb) TabOk.nil) [0, 1] _ rfl) (fun x K => by kernel_rfl)

def z3r (N : Nat) (s : (List UInt8)) (i : Int) (k0 : Bool -> Option Bool) : Option Bool :=
 cond (Go.Lift.inR i (List.length s))
 (cond (decide ((97 : Int) <= (((UInt8.toNat (List.getD s (Int.toNat i) (0 : UInt8))) : Nat) : Int)))
 (cond (Go.Lift.inR i (List.length s))
 (k0 (decide ((((UInt8.toNat (List.getD s (Int.toNat i) (0 : UInt8))) : Nat) : Int) <= (122 : Int))))
 (none))
 (k0 false))
 (none)

def zbk (N : Nat) (x : z2b [(0, .v .str), (2, .v (.int .i64))]) (K : Ex -> List A -> Option Bool) : Option Bool :=
 z3r N x.1 x.2.1 (fun a2 => (K .normal (mkS [(0, .v .str), (2, .v (.int .i64)), (0, .v .bool)] 51 (x.1, x.2.1, a2, ()))))

def zbd (N : Nat) : Hd Bool := fun st K => (unS [(0, .v .str), (2, .v (.int .i64))] 52 (restr [0, 3] 0 st)).bind fun x => zbk N x K

def zkl (N : Nat) : Tab Bool := []

theorem ziy {N : Nat} {c : Ctx} (hb : Base Go.Proofs.Try.prog (z1h N) c) : zu Go.Proofs.Try.prog c (zf zi [0, 0, 0, 1, 0, 0, 1, 0, 1, 1]) (zbd N) :=
  zp (s := [(0, .v .str), (2, .v (.int .i64))]) (m := 52) (g := zbk N) [0, 3] (z7 hb N (zkl N) z1n zi TabOk.nil [0, 0, 0, 1, 0, 0, 1, 0, 1, 1] _ rfl) (fun x K => by kernel_rfl)

def z3q (N : Nat) (s : (List UInt8)) (i : Int) (small : Bool) (k0 : Bool -> Option Bool) : Option Bool :=
 cond (Go.Lift.inR i (List.length s))
 (cond ((((UInt8.toNat (List.getD s (Int.toNat i) (0 : UInt8))) : Nat) : Int) == (45 : Int))
 (k0 true)
 (cond (Go.Lift.inR i (List.length s))
 (cond (decide ((48 : Int) <= (((UInt8.toNat (List.getD s (Int.toNat i) (0 : UInt8))) : Nat) : Int)))
 (cond (Go.Lift.inR i (List.length s))
 (k0 (decide ((((UInt8.toNat (List.getD s (Int.toNat i) (0 : UInt8))) : Nat) : Int) <= (57 : Int))))
 (none))
 (k0 false))
 (none)))
 (none)

def zbj (N : Nat) (x : z2b [(0, .v .str), (2, .v (.int .i64)), (0, .v .bool)]) (K : Ex -> List A -> Option Bool) : Option Bool :=
 z3q N x.1 x.2.1 x.2.2.1 (fun a3 => (K .normal (mkS [(0, .v .str), (2, .v (.int .i64)), (0, .v .bool), (0, .v .bool)] 50 (x.1, x.2.1, x.2.2.1, a3, ()))))

def zbc (N : Nat) : Hd Bool := fun st K => (unS [(0, .v .str), (2, .v (.int .i64)), (0, .v .bool)] 51 (restr [0, 3, 4] 0 st)).bind fun x => zbj N x K

def zkk (N : Nat) : Tab Bool := []

theorem zix {N : Nat} {c : Ctx} (hb : Base Go.Proofs.Try.prog (z1h N) c) : zu Go.Proofs.Try.prog c (zf zi [0, 1, 0, 0, 1, 0, 0, 1, 0, 1, 1]) (zbc N) :=
  zp (s := [(0, .v .str), (2, .v (.int .i64)), (0, .v .bool)]) (m := 51) (g := zbj N) [0, 3, 4] (z7 hb N (zkk N) z1n zi TabOk.nil [0, 1, 0, 0, 1, 0, 0, 1, 0, 1, 1] _ rfl) (fun x K => by kernel_rfl)

def z68 (N : Nat) (s : (List UInt8)) (i : Int) (small : Bool) (other : Bool) (k0 : Bool -> Option Bool) : Option Bool :=
 cond (!small)
 (cond (i == (0 : Int))
 (k0 true)
 (k0 (!other)))
 (k0 false)

def zbi (N : Nat) (x : z2b [(0, .v .str), (2, .v (.int .i64)), (0, .v .bool), (0, .v .bool)]) (K : Ex -> List A -> Option Bool) : Option Bool :=
 z68 N x.1 x.2.1 x.2.2.1 x.2.2.2.1 (fun a2 => (K .normal (mkS [(0, .v .str), (2, .v (.int .i64)), (51, .v .bool)] 0 (x.1, x.2.1, a2, ()))))

def zbb (N : Nat) : Hd Bool := fun st K => (unS [(0, .v .str), (2, .v (.int .i64)), (0, .v .bool), (0, .v .bool)] 50 (restr [4, 3, 5, 0] 0 st)).bind fun x => zbi N x K

def zkj (N : Nat) : Tab Bool := []

theorem ziw {N : Nat} {c : Ctx} (hb : Base Go.Proofs.Try.prog (z1h N) c) : zu Go.Proofs.Try.prog c (zf zi [0, 1, 1, 0, 0, 1, 0, 0, 1, 0, 1, 1]) (zbb N) :=
  zp (s := [(0, .v .str), (2, .v (.int .i64)), (0, .v .bool), (0, .v .bool)]) (m := 50) (g := zbi N) [4, 3, 5, 0] (z7 hb N (zkj N) z1n zi TabOk.nil [0, 1, 1, 0, 0, 1, 0, 0, 1, 0, 1, 1] _ rfl) (fun x K => by kernel_rfl)

def z69 (N : Nat) (s : (List UInt8)) (i : Int) (k0 : Bool -> Option Bool) (k1 : Option Bool) : Option Bool :=
 z3r N s i
 (fun small => z3q N s i small
 (fun other => z68 N s i small other
 (fun x55 => cond x55
 (k0 false)
 (k1))))

def zbl (N : Nat) (x : z2b [(0, .v .str), (2, .v (.int .i64))]) (K : Ex -> List A -> Option Bool) : Option Bool :=
 z69 N x.1 x.2.1 (fun a0 => (K .ret (mkS [(2, .v .bool)] 53 (a0, ())))) (K .normal (mkS [(0, .v .str), (2, .v (.int .i64))] 52 (x.1, x.2.1, ())))

def zbe (N : Nat) : Hd Bool := fun st K => (unS [(0, .v .str), (2, .v (.int .i64))] 52 (restr [0, 3] 0 st)).bind fun x => zbl N x K

def zkm (N : Nat) : Tab Bool := [([0, 0, 0, 1, 0, 0, 1, 0, 1, 1], zbd N), ([0, 1, 0, 0, 1, 0, 0, 1, 0, 1, 1], zbc N), ([0, 1, 1, 0, 0, 1, 0, 0, 1, 0, 1, 1], zbb N)]

theorem ziz {N : Nat} {c : Ctx} (hb : Base Go.Proofs.Try.prog (z1h N) c) : zu Go.Proofs.Try.prog c (zf zi [0, 1, 0, 0, 1, 0, 1, 1]) (zbe N) :=
  zp (s := [(0, .v .str), (2, .v (.int .i64))]) (m := 52) (g := zbl N) [0, 3] (z7 hb N (zkm N) z1n zi (TabOk.cons (ziy hb) (TabOk.cons (zix hb) (TabOk.cons (ziw hb) TabOk.nil))) [0, 1, 0, 0, 1, 0, 1, 1] _ rfl) (fun x K => by kernel_rfl)

def z67 (N : Nat) (s : (List UInt8)) (i : Int) (rec : Int -> Option Bool) (k0 : Bool -> Option Bool) (k1 : Option Bool) : Option Bool :=
 cond (decide (i < (((List.length s) : Nat) : Int)))
 (z69 N s i
 (fun x2 => k0 x2)
 (rec (Go.IntKind.wrap Go.IntKind.i64 (i + (1 : Int)))))
 (k1)

def zba (N : Nat) (s : (List UInt8)) (i : Int) (k0 : Bool -> Option Bool) (k1 : Option Bool) : Option Bool :=
 iter (fun (v : Int) r => z67 N s v (fun i => (r i)) k0 k1) N i

def zbm (N : Nat) (i : (List UInt8)) (v : Int) (r : Int -> Option Bool) (K : Ex -> List A -> Option Bool) : Option Bool :=
 z67 N i v (fun i => (r i)) (fun a0 => (K .ret (mkS [(2, .v .bool)] 53 (a0, ())))) (K (.exit 0) (mkS [] 56 ()))

def zbf (N : Nat) : Hd Bool := fun st K => (unS [(0, .v .str), (2, .v (.int .i64))] 52 (restr [3, 0] 0 st)).bind fun x => iter (fun v r => zbm N ((fun x => x.1) x) v r K) N ((fun x => x.2.1) x)

def zkn (N : Nat) : Tab Bool := [([0, 1, 0, 0, 1, 0, 1, 1], zbe N)]

theorem zj0 {N : Nat} {c : Ctx} (hb : Base Go.Proofs.Try.prog (z1h N) c) : zu Go.Proofs.Try.prog c (zf zi [0, 1, 0, 1, 1]) (zbf N) :=
  z4m (s := [(0, .v .str), (2, .v (.int .i64))]) (m := 52) (zbm N) [3, 0] N (fun x => x.1) (fun x => x.2.1) (fun i v => (i, v, ())) (fun _ => rfl) (z7 hb N (zkn N) z1n zi (TabOk.cons (ziz hb) TabOk.nil) [0, 0, 1, 0, 1, 1] _ rfl) (fun i v r K => by kernel_rfl)

def z35 (N : Nat) (s : (List UInt8)) : Option Bool :=
 z6b N s
 (fun x2 => some x2)
 (zba N s (0 : Int)
 (fun x21 => some x21)
 (some true))

def zct (N : Nat) : Tab Bool := [([0, 1], zbh N), ([0, 1, 0, 1, 1], zbf N)]

theorem zgz (N : Nat) (x : z2b [(0, .v .str)]) : zft (z1h N) N (zct N) z1n Go.Proofs.Try.f31 (mkS [(0, .v .str)] 0 x) (z6m (.v .bool) 1) = z35 N x.1 := by kernel_rfl

def z5l (N : Nat) : List A -> Res := z2x [(0, .v .str)] (fun x => z35 N x.1) (zfu (.v .bool) 1)

theorem zbp (N : Nat) : Contract Go.Proofs.Try.prog z12 31 (z5l N) :=
  Contract.of (E := z1h N) (H := zct N) (L := z1n) (N := N) (body := zi) (K := (z6m (.v .bool) 1)) (zj3 N) Go.Proofs.Try.func31 (by kernel_rfl) (by decide) (fun _ hb => (TabOk.cons (zj2 hb) (TabOk.cons (zj0 hb) TabOk.nil))) (fun x y h => by rw [zgz]; exact h) (z22 (s := (.v .bool)) (m := 1))

def z1g : Code := (Go.Proofs.Try.f32.body).getD .skip

def z2l : List (List Nat × List Nat) := [([0], [0, 1]), ([0, 0, 1], [5, 0, 1]), ([0, 1, 0, 1], [5, 0, 1]), ([0, 0, 0, 0, 1, 0, 1], [15, 0, 5, 1]), ([1, 0, 0, 0, 1, 0, 1], [0, 5, 1]), ([1, 1, 0, 0, 0, 1, 0, 1], [0, 1]), ([0, 0, 0, 0, 1, 0, 0, 1, 0, 1], [24, 0, 5, 1]), ([1, 0, 0, 0, 1, 0, 0, 1, 0, 1], [0, 5, 1]), ([0, 0, 1, 0, 0, 0, 1, 0, 0, 1, 0, 1], [4]), ([1, 0, 1, 0, 0, 0, 1, 0, 0, 1, 0, 1], [4]), ([0, 1, 0, 0, 1, 0, 0, 1, 0, 1], [31, 5, 0, 1]), ([1, 1, 0, 0, 1, 0, 0, 1, 0, 1], [5, 0, 1]), ([0, 0, 1, 1, 0, 0, 1, 0, 0, 1, 0, 1], [4]), ([1, 0, 1, 1, 0, 0, 1, 0, 0, 1, 0, 1], [4]), ([0, 1, 0, 0, 1, 0, 1], [5, 0, 1]), ([1, 1, 0, 0, 1, 0, 1], [5, 0, 1]), ([1, 0, 1], [0, 1]), ([0, 0, 1, 1], [36, 0, 1]), ([1, 0, 1, 1], [0, 1]), ([0, 0, 1, 0, 1, 1], [4]), ([1, 0, 1, 0, 1, 1], [4]), ([0, 0, 1, 1, 1], [41]), ([1, 0, 1, 1, 1], []), ([0, 0, 1, 0, 1, 1, 1], [4]), ([1, 0, 1, 0, 1, 1, 1], [4]), ([0, 1, 1, 1, 1], [4]), ([1, 1, 1, 1, 1], [4])]

def z20 (N : Nat) : Env := z5o tys z12 [] [] [] [] false [] []

theorem zeh (N : Nat) : EnvOk Go.Proofs.Try.prog (z20 N) := z1k mixed z2v (FnsOk.nil) (ItsOk.nil)

def z49 (N : Nat) (a : (List UInt8)) (b : (List UInt8)) (i : Int) (k0 : Option Int) (k1 : Option Int) : Option Int :=
 cond (decide (i < (((List.length a) : Nat) : Int)))
 (cond (decide (i < (((List.length b) : Nat) : Int)))
 (k0)
 (k1))
 (k1)

def z7q (N : Nat) (x : z2b [(0, .v .str), (0, .v .str), (3, .v (.int .i64))]) (K : Ex -> List A -> Option Int) : Option Int :=
 z49 N x.1 x.2.1 x.2.2.1 (K .normal (mkS [(0, .v .str), (0, .v .str), (3, .v (.int .i64))] 36 (x.1, x.2.1, x.2.2.1, ()))) (K (.exit 0) (mkS [(0, .v .str), (0, .v .str)] 40 (x.1, x.2.1, ())))

def z7n (N : Nat) : Hd Int := fun st K => (unS [(0, .v .str), (0, .v .str), (3, .v (.int .i64))] 36 (restr [5, 0, 1] 0 st)).bind fun x => z7q N x K

def zfn (N : Nat) : Tab Int := []

theorem zee {N : Nat} {c : Ctx} (hb : Base Go.Proofs.Try.prog (z20 N) c) : zu Go.Proofs.Try.prog c (zf z1g [0, 0, 0, 1, 0, 1]) (z7n N) :=
  zp (s := [(0, .v .str), (0, .v .str), (3, .v (.int .i64))]) (m := 36) (g := z7q N) [5, 0, 1] (z7 hb N (zfn N) z2l z1g TabOk.nil [0, 0, 0, 1, 0, 1] _ rfl) (fun x K => by kernel_rfl)

def z48 (N : Nat) (a : (List UInt8)) (b : (List UInt8)) (i : Int) (rec : Int -> Option Int) (k0 : Int -> Option Int) (k1 : Option Int) : Option Int :=
 z49 N a b i
 (cond (Go.Lift.inR i (List.length a))
 (cond (Go.Lift.inR i (List.length b))
 (cond (decide ((((UInt8.toNat (List.getD a (Int.toNat i) (0 : UInt8))) : Nat) : Int) < (((UInt8.toNat (List.getD b (Int.toNat i) (0 : UInt8))) : Nat) : Int)))
 (k0 (-(1 : Int)))
 (cond (Go.Lift.inR i (List.length a))
 (cond (Go.Lift.inR i (List.length b))
 (cond (decide ((((UInt8.toNat (List.getD b (Int.toNat i) (0 : UInt8))) : Nat) : Int) < (((UInt8.toNat (List.getD a (Int.toNat i) (0 : UInt8))) : Nat) : Int)))
 (k0 (1 : Int))
 (rec (Go.IntKind.wrap Go.IntKind.i64 (i + (1 : Int)))))
 (none))
 (none)))
 (none))
 (none))
 (k1)

def z7m (N : Nat) (a : (List UInt8)) (b : (List UInt8)) (i : Int) (k0 : Int -> Option Int) (k1 : Option Int) : Option Int :=
 iter (fun (v : Int) r => z48 N a b v (fun i => (r i)) k0 k1) N i

def z7r (N : Nat) (i : ((List UInt8) × (List UInt8))) (v : Int) (r : Int -> Option Int) (K : Ex -> List A -> Option Int) : Option Int :=
 z48 N i.1 i.2 v (fun i => (r i)) (fun a0 => (K .ret (mkS [(4, .v (.int .i64))] 37 (a0, ())))) (K (.exit 0) (mkS [(0, .v .str), (0, .v .str)] 40 (i.1, i.2, ())))

def z7o (N : Nat) : Hd Int := fun st K => (unS [(0, .v .str), (0, .v .str), (3, .v (.int .i64))] 36 (restr [5, 0, 1] 0 st)).bind fun x => iter (fun v r => z7r N ((fun x => (x.1, x.2.1)) x) v r K) N ((fun x => x.2.2.1) x)

def zfo (N : Nat) : Tab Int := [([0, 0, 0, 1, 0, 1], z7n N)]

theorem zef {N : Nat} {c : Ctx} (hb : Base Go.Proofs.Try.prog (z20 N) c) : zu Go.Proofs.Try.prog c (zf z1g [0, 1, 0, 1]) (z7o N) :=
  z4m (s := [(0, .v .str), (0, .v .str), (3, .v (.int .i64))]) (m := 36) (z7r N) [5, 0, 1] N (fun x => (x.1, x.2.1)) (fun x => x.2.2.1) (fun i v => (i.1, i.2, v, ())) (fun _ => rfl) (z7 hb N (zfo N) z2l z1g (TabOk.cons (zee hb) TabOk.nil) [0, 0, 1, 0, 1] _ rfl) (fun i v r K => by kernel_rfl)

def z4a (N : Nat) (a : (List UInt8)) (b : (List UInt8)) (k0 : Int -> Option Int) (k1 : Option Int) : Option Int :=
 z7m N a b (0 : Int)
 (fun x4 => k0 x4)
 (k1)

def z7s (N : Nat) (x : z2b [(0, .v .str), (0, .v .str)]) (K : Ex -> List A -> Option Int) : Option Int :=
 z4a N x.1 x.2.1 (fun a0 => (K .ret (mkS [(4, .v (.int .i64))] 37 (a0, ())))) (K .normal (mkS [(0, .v .str), (0, .v .str)] 40 (x.1, x.2.1, ())))

def z7p (N : Nat) : Hd Int := fun st K => (unS [(0, .v .str), (0, .v .str)] 40 (restr [0, 1] 0 st)).bind fun x => z7s N x K

def zfp (N : Nat) : Tab Int := [([0, 1, 0, 1], z7o N)]

theorem zeg {N : Nat} {c : Ctx} (hb : Base Go.Proofs.Try.prog (z20 N) c) : zu Go.Proofs.Try.prog c (zf z1g [0, 1]) (z7p N) :=
  zp (s := [(0, .v .str), (0, .v .str)]) (m := 40) (g := z7s N) [0, 1] (z7 hb N (zfp N) z2l z1g (TabOk.cons (zef hb) TabOk.nil) [0, 1] _ rfl) (fun x K => by kernel_rfl)

def z2f (N : Nat) (a : (List UInt8)) (b : (List UInt8)) : Option Int :=
 z4a N a b
 (fun x4 => some x4)
 (cond (decide ((((List.length a) : Nat) : Int) < (((List.length b) : Nat) : Int)))
 (some (-(1 : Int)))
 (cond (decide ((((List.length b) : Nat) : Int) < (((List.length a) : Nat) : Int)))
 (some (1 : Int))
 (some (0 : Int))))

def z8c (N : Nat) : Tab Int := [([0, 1], z7p N)]

theorem zdh (N : Nat) (x : z2b [(0, .v .str), (0, .v .str)]) : zft (z20 N) N (z8c N) z2l Go.Proofs.Try.f32 (mkS [(0, .v .str), (0, .v .str)] 0 x) (z6m (.v (.int .i64)) 2) = z2f N x.1 x.2.1 := by kernel_rfl

def z3s (N : Nat) : List A -> Res := z2x [(0, .v .str), (0, .v .str)] (fun x => z2f N x.1 x.2.1) (zfu (.v (.int .i64)) 2)

theorem z7t (N : Nat) : Contract Go.Proofs.Try.prog z12 32 (z3s N) :=
  Contract.of (E := z20 N) (H := z8c N) (L := z2l) (N := N) (body := z1g) (K := (z6m (.v (.int .i64)) 2)) (zeh N) Go.Proofs.Try.func32 (by kernel_rfl) (by decide) (fun _ hb => (TabOk.cons (zeg hb) TabOk.nil)) (fun x y h => by rw [zdh]; exact h) (z22 (s := (.v (.int .i64))) (m := 2))

def z8 : Code := (Go.Proofs.Try.f11.body).getD .skip

def z15 : List (List Nat × List Nat) := [([0], [1]), ([0, 0, 1], [15, 1]), ([1, 0, 1], [1]), ([0, 0, 1, 0, 1], [2]), ([1, 0, 1, 0, 1], [2]), ([0, 0, 1, 1], [3, 1]), ([0, 1, 0, 1, 1], [3, 1]), ([0, 0, 0, 0, 1, 0, 1, 1], [20, 1, 3]), ([1, 0, 0, 0, 1, 0, 1, 1], [1, 3]), ([1, 1, 0, 0, 0, 1, 0, 1, 1], []), ([0, 0, 0, 1, 0, 0, 1, 0, 1, 1], [4, 3, 1]), ([0, 0, 1, 0, 0, 1, 0, 0, 1, 0, 1, 1], [66, 4, 3, 1]), ([1, 0, 1, 0, 0, 1, 0, 0, 1, 0, 1, 1], [4, 3, 1]), ([0, 0, 1, 0, 1, 0, 0, 1, 0, 0, 1, 0, 1, 1], [2]), ([1, 0, 1, 0, 1, 0, 0, 1, 0, 0, 1, 0, 1, 1], [2]), ([0, 1, 1, 0, 0, 1, 0, 0, 1, 0, 1, 1], [5, 4, 3, 1]), ([0, 1, 1, 1, 0, 0, 1, 0, 0, 1, 0, 1, 1], [5, 4, 3, 1]), ([0, 0, 0, 0, 1, 1, 1, 0, 0, 1, 0, 0, 1, 0, 1, 1], [71, 4, 5, 3, 1]), ([1, 0, 0, 0, 1, 1, 1, 0, 0, 1, 0, 0, 1, 0, 1, 1], [4, 5, 3, 1]), ([1, 1, 0, 0, 0, 1, 1, 1, 0, 0, 1, 0, 0, 1, 0, 1, 1], [3, 1]), ([0, 0, 0, 1, 0, 0, 1, 1, 1, 0, 0, 1, 0, 0, 1, 0, 1, 1], [121, 5, 4, 3, 1]), ([1, 0, 0, 1, 0, 0, 1, 1, 1, 0, 0, 1, 0, 0, 1, 0, 1, 1], [5, 4, 3, 1]), ([0, 0, 1, 0, 0, 1, 0, 0, 1, 1, 1, 0, 0, 1, 0, 0, 1, 0, 1, 1], [2]), ([1, 0, 1, 0, 0, 1, 0, 0, 1, 1, 1, 0, 0, 1, 0, 0, 1, 0, 1, 1], [2]), ([0, 1, 0, 0, 1, 1, 1, 0, 0, 1, 0, 0, 1, 0, 1, 1], [5, 4, 3, 1]), ([1, 1, 0, 0, 1, 1, 1, 0, 0, 1, 0, 0, 1, 0, 1, 1], [5, 4, 3, 1]), ([1, 1, 1, 0, 0, 1, 0, 0, 1, 0, 1, 1], [3, 1]), ([0, 1, 0, 0, 1, 0, 1, 1], [3, 1]), ([1, 1, 0, 0, 1, 0, 1, 1], [3, 1]), ([1, 0, 1, 1], []), ([0, 1, 1, 1], [2]), ([1, 1, 1, 1], [2])]

def z11 (N : Nat) : Env := z5o tys z12 [(32, z3s N), (31, z5l N), (30, z6v N)] [] [] [] false [] []

theorem zgm (N : Nat) : EnvOk Go.Proofs.Try.prog (z11 N) := z1k mixed z2v (FnsOk.cons (z7t N) (FnsOk.cons (zbp N) (FnsOk.cons (zdg N) (FnsOk.nil)))) (ItsOk.nil)

def z5e (N : Nat) (s : ((List ((List UInt8) × (Int × (Int × ((List (Int × ((List UInt8) × Unit))) × Unit))))) × (Int × Unit))) (k0 : Bool -> Option Bool) : Option Bool :=
 cond (decide ((16 : Int) < (((List.length s.1) : Nat) : Int)))
 (k0 true)
 ((z23 N s.2.1 (0 : Int)).bind fun y =>
 k0 (!y))

def z9b (N : Nat) (x : z2b [(1, .box (.pair (.sl (.pair .str (.pair (.int .i64) (.pair (.int .i64) (.pair (.sl (.pair (.int .i64) (.pair .str .unit))) .unit))))) (.pair (.int .i64) .unit)))]) (K : Ex -> List A -> Option Bool) : Option Bool :=
 z5e N x.1 (fun a1 => (K .normal (mkS [(1, .box (.pair (.sl (.pair .str (.pair (.int .i64) (.pair (.int .i64) (.pair (.sl (.pair (.int .i64) (.pair .str .unit))) .unit))))) (.pair (.int .i64) .unit))), (13, .v .bool)] 106 (x.1, a1, ()))))

def z92 (N : Nat) : Hd Bool := fun st K => (unS [(1, .box (.pair (.sl (.pair .str (.pair (.int .i64) (.pair (.int .i64) (.pair (.sl (.pair (.int .i64) (.pair .str .unit))) .unit))))) (.pair (.int .i64) .unit)))] 120 (restr [1] 0 st)).bind fun x => z9b N x K

def zie (N : Nat) : Tab Bool := []

theorem zgk {N : Nat} {c : Ctx} (hb : Base Go.Proofs.Try.prog (z11 N) c) : zu Go.Proofs.Try.prog c (zf z8 [0, 0, 1]) (z92 N) :=
  zp (s := [(1, .box (.pair (.sl (.pair .str (.pair (.int .i64) (.pair (.int .i64) (.pair (.sl (.pair (.int .i64) (.pair .str .unit))) .unit))))) (.pair (.int .i64) .unit)))]) (m := 120) (g := z9b N) [1] (z7 hb N (zie N) z15 z8 TabOk.nil [0, 0, 1] _ rfl) (fun x K => by kernel_rfl)

def z5f (N : Nat) (s : ((List ((List UInt8) × (Int × (Int × ((List (Int × ((List UInt8) × Unit))) × Unit))))) × (Int × Unit))) (k0 : Bool -> Option Bool) (k1 : Option Bool) : Option Bool :=
 z5e N s
 (fun x15 => cond x15
 (k0 false)
 (k1))

def z9c (N : Nat) (x : z2b [(1, .box (.pair (.sl (.pair .str (.pair (.int .i64) (.pair (.int .i64) (.pair (.sl (.pair (.int .i64) (.pair .str .unit))) .unit))))) (.pair (.int .i64) .unit)))]) (K : Ex -> List A -> Option Bool) : Option Bool :=
 z5f N x.1 (fun a0 => (K .ret (mkS [(2, .v .bool)] 119 (a0, ())))) (K .normal (mkS [(1, .box (.pair (.sl (.pair .str (.pair (.int .i64) (.pair (.int .i64) (.pair (.sl (.pair (.int .i64) (.pair .str .unit))) .unit))))) (.pair (.int .i64) .unit)))] 120 (x.1, ())))

def z93 (N : Nat) : Hd Bool := fun st K => (unS [(1, .box (.pair (.sl (.pair .str (.pair (.int .i64) (.pair (.int .i64) (.pair (.sl (.pair (.int .i64) (.pair .str .unit))) .unit))))) (.pair (.int .i64) .unit)))] 120 (restr [1] 0 st)).bind fun x => z9c N x K

def zif (N : Nat) : Tab Bool := [([0, 0, 1], z92 N)]

theorem zgl {N : Nat} {c : Ctx} (hb : Base Go.Proofs.Try.prog (z11 N) c) : zu Go.Proofs.Try.prog c (zf z8 [0, 1]) (z93 N) :=
  zp (s := [(1, .box (.pair (.sl (.pair .str (.pair (.int .i64) (.pair (.int .i64) (.pair (.sl (.pair (.int .i64) (.pair .str .unit))) .unit))))) (.pair (.int .i64) .unit)))]) (m := 120) (g := z9c N) [1] (z7 hb N (zif N) z15 z8 (TabOk.cons (zgk hb) TabOk.nil) [0, 1] _ rfl) (fun x K => by kernel_rfl)

def z3a (N : Nat) (s : ((List ((List UInt8) × (Int × (Int × ((List (Int × ((List UInt8) × Unit))) × Unit))))) × (Int × Unit))) (i : Int) (t : ((List UInt8) × (Int × (Int × ((List (Int × ((List UInt8) × Unit))) × Unit))))) (k0 : Bool -> Option Bool) : Option Bool :=
 (z35 N t.1).bind fun y =>
 cond (!y)
 (k0 true)
 ((z23 N t.2.1 (0 : Int)).bind fun y1 =>
 cond (!y1)
 (k0 true)
 ((z23 N t.2.2.1 (1 : Int)).bind fun y2 =>
 cond (!y2)
 (k0 true)
 (cond (decide ((8 : Int) < (((List.length t.2.2.2.1) : Nat) : Int)))
 (k0 true)
 (cond (decide ((0 : Int) < i))
 (cond (Go.Lift.inR (Go.IntKind.wrap Go.IntKind.i64 (i - (1 : Int))) (List.length s.1))
 ((z2f N (List.getD s.1 (Int.toNat (Go.IntKind.wrap Go.IntKind.i64 (i - (1 : Int)))) (([] : List UInt8), ((0 : Int), ((0 : Int), (([] : List (Int × ((List UInt8) × Unit))), ()))))).1 t.1).bind fun y3 =>
 k0 (decide ((0 : Int) <= y3)))
 (none))
 (k0 false)))))

def z97 (N : Nat) (x : z2b [(1, .box (.pair (.sl (.pair .str (.pair (.int .i64) (.pair (.int .i64) (.pair (.sl (.pair (.int .i64) (.pair .str .unit))) .unit))))) (.pair (.int .i64) .unit))), (1, .v (.int .i64)), (0, .box (.pair .str (.pair (.int .i64) (.pair (.int .i64) (.pair (.sl (.pair (.int .i64) (.pair .str .unit))) .unit)))))]) (K : Ex -> List A -> Option Bool) : Option Bool :=
 z3a N x.1 x.2.1 x.2.2.1 (fun a3 => (K .normal (mkS [(1, .box (.pair (.sl (.pair .str (.pair (.int .i64) (.pair (.int .i64) (.pair (.sl (.pair (.int .i64) (.pair .str .unit))) .unit))))) (.pair (.int .i64) .unit))), (1, .v (.int .i64)), (0, .box (.pair .str (.pair (.int .i64) (.pair (.int .i64) (.pair (.sl (.pair (.int .i64) (.pair .str .unit))) .unit))))), (61, .v .bool)] 55 (x.1, x.2.1, x.2.2.1, a3, ()))))

def z8y (N : Nat) : Hd Bool := fun st K => (unS [(1, .box (.pair (.sl (.pair .str (.pair (.int .i64) (.pair (.int .i64) (.pair (.sl (.pair (.int .i64) (.pair .str .unit))) .unit))))) (.pair (.int .i64) .unit))), (1, .v (.int .i64)), (0, .box (.pair .str (.pair (.int .i64) (.pair (.int .i64) (.pair (.sl (.pair (.int .i64) (.pair .str .unit))) .unit)))))] 117 (restr [4, 3, 1] 0 st)).bind fun x => z97 N x K

def zia (N : Nat) : Tab Bool := []

theorem zgg {N : Nat} {c : Ctx} (hb : Base Go.Proofs.Try.prog (z11 N) c) : zu Go.Proofs.Try.prog c (zf z8 [0, 0, 1, 0, 0, 1, 0, 0, 1, 0, 1, 1]) (z8y N) :=
  zp (s := [(1, .box (.pair (.sl (.pair .str (.pair (.int .i64) (.pair (.int .i64) (.pair (.sl (.pair (.int .i64) (.pair .str .unit))) .unit))))) (.pair (.int .i64) .unit))), (1, .v (.int .i64)), (0, .box (.pair .str (.pair (.int .i64) (.pair (.int .i64) (.pair (.sl (.pair (.int .i64) (.pair .str .unit))) .unit)))))]) (m := 117) (g := z97 N) [4, 3, 1] (z7 hb N (zia N) z15 z8 TabOk.nil [0, 0, 1, 0, 0, 1, 0, 0, 1, 0, 1, 1] _ rfl) (fun x K => by kernel_rfl)

def z5b (N : Nat) (s : ((List ((List UInt8) × (Int × (Int × ((List (Int × ((List UInt8) × Unit))) × Unit))))) × (Int × Unit))) (i : Int) (t : ((List UInt8) × (Int × (Int × ((List (Int × ((List UInt8) × Unit))) × Unit))))) (k0 : Bool -> Option Bool) (k1 : Option Bool) : Option Bool :=
 z3a N s i t
 (fun x66 => cond x66
 (k0 false)
 (k1))

def z98 (N : Nat) (x : z2b [(1, .box (.pair (.sl (.pair .str (.pair (.int .i64) (.pair (.int .i64) (.pair (.sl (.pair (.int .i64) (.pair .str .unit))) .unit))))) (.pair (.int .i64) .unit))), (1, .v (.int .i64)), (0, .box (.pair .str (.pair (.int .i64) (.pair (.int .i64) (.pair (.sl (.pair (.int .i64) (.pair .str .unit))) .unit)))))]) (K : Ex -> List A -> Option Bool) : Option Bool :=
 z5b N x.1 x.2.1 x.2.2.1 (fun a0 => (K .ret (mkS [(2, .v .bool)] 119 (a0, ())))) (K .normal (mkS [(1, .box (.pair (.sl (.pair .str (.pair (.int .i64) (.pair (.int .i64) (.pair (.sl (.pair (.int .i64) (.pair .str .unit))) .unit))))) (.pair (.int .i64) .unit))), (1, .v (.int .i64)), (0, .box (.pair .str (.pair (.int .i64) (.pair (.int .i64) (.pair (.sl (.pair (.int .i64) (.pair .str .unit))) .unit)))))] 117 (x.1, x.2.1, x.2.2.1, ())))

def z8z (N : Nat) : Hd Bool := fun st K => (unS [(1, .box (.pair (.sl (.pair .str (.pair (.int .i64) (.pair (.int .i64) (.pair (.sl (.pair (.int .i64) (.pair .str .unit))) .unit))))) (.pair (.int .i64) .unit))), (1, .v (.int .i64)), (0, .box (.pair .str (.pair (.int .i64) (.pair (.int .i64) (.pair (.sl (.pair (.int .i64) (.pair .str .unit))) .unit)))))] 117 (restr [4, 3, 1] 0 st)).bind fun x => z98 N x K

def zib (N : Nat) : Tab Bool := [([0, 0, 1, 0, 0, 1, 0, 0, 1, 0, 1, 1], z8y N)]

theorem zgh {N : Nat} {c : Ctx} (hb : Base Go.Proofs.Try.prog (z11 N) c) : zu Go.Proofs.Try.prog c (zf z8 [0, 1, 0, 0, 1, 0, 0, 1, 0, 1, 1]) (z8z N) :=
  zp (s := [(1, .box (.pair (.sl (.pair .str (.pair (.int .i64) (.pair (.int .i64) (.pair (.sl (.pair (.int .i64) (.pair .str .unit))) .unit))))) (.pair (.int .i64) .unit))), (1, .v (.int .i64)), (0, .box (.pair .str (.pair (.int .i64) (.pair (.int .i64) (.pair (.sl (.pair (.int .i64) (.pair .str .unit))) .unit)))))]) (m := 117) (g := z98 N) [4, 3, 1] (z7 hb N (zib N) z15 z8 (TabOk.cons (zgg hb) TabOk.nil) [0, 1, 0, 0, 1, 0, 0, 1, 0, 1, 1] _ rfl) (fun x K => by kernel_rfl)

def z58 (N : Nat) (s : ((List ((List UInt8) × (Int × (Int × ((List (Int × ((List UInt8) × Unit))) × Unit))))) × (Int × Unit))) (i : Int) (t : ((List UInt8) × (Int × (Int × ((List (Int × ((List UInt8) × Unit))) × Unit))))) (k : Int) (k0 : Bool -> Option Bool) : Option Bool :=
 cond (Go.Lift.inR k (List.length t.2.2.2.1))
 (cond (decide ((List.getD t.2.2.2.1 (Int.toNat k) ((0 : Int), (([] : List UInt8), ()))).1 < (1 : Int)))
 (k0 true)
 (cond (Go.Lift.inR k (List.length t.2.2.2.1))
 (cond (decide (t.2.2.1 <= (List.getD t.2.2.2.1 (Int.toNat k) ((0 : Int), (([] : List UInt8), ()))).1))
 (k0 true)
 (cond (Go.Lift.inR k (List.length t.2.2.2.1))
 (cond ((((List.length (List.getD t.2.2.2.1 (Int.toNat k) ((0 : Int), (([] : List UInt8), ()))).2.1) : Nat) : Int) != (32 : Int))
 (k0 true)
 (cond (decide ((0 : Int) < k))
 (cond (Go.Lift.inR (Go.IntKind.wrap Go.IntKind.i64 (k - (1 : Int))) (List.length t.2.2.2.1))
 (cond (Go.Lift.inR k (List.length t.2.2.2.1))
 (k0 (decide ((List.getD t.2.2.2.1 (Int.toNat k) ((0 : Int), (([] : List UInt8), ()))).1 <= (List.getD t.2.2.2.1 (Int.toNat (Go.IntKind.wrap Go.IntKind.i64 (k - (1 : Int)))) ((0 : Int), (([] : List UInt8), ()))).1)))
 (none))
 (none))
 (k0 false)))
 (none)))
 (none)))
 (none)

def z94 (N : Nat) (x : z2b [(1, .box (.pair (.sl (.pair .str (.pair (.int .i64) (.pair (.int .i64) (.pair (.sl (.pair (.int .i64) (.pair .str .unit))) .unit))))) (.pair (.int .i64) .unit))), (1, .v (.int .i64)), (0, .box (.pair .str (.pair (.int .i64) (.pair (.int .i64) (.pair (.sl (.pair (.int .i64) (.pair .str .unit))) .unit))))), (0, .v (.int .i64))]) (K : Ex -> List A -> Option Bool) : Option Bool :=
 z58 N x.1 x.2.1 x.2.2.1 x.2.2.2.1 (fun a4 => (K .normal (mkS [(1, .box (.pair (.sl (.pair .str (.pair (.int .i64) (.pair (.int .i64) (.pair (.sl (.pair (.int .i64) (.pair .str .unit))) .unit))))) (.pair (.int .i64) .unit))), (1, .v (.int .i64)), (0, .box (.pair .str (.pair (.int .i64) (.pair (.int .i64) (.pair (.sl (.pair (.int .i64) (.pair .str .unit))) .unit))))), (0, .v (.int .i64)), (115, .v .bool)] 0 (x.1, x.2.1, x.2.2.1, x.2.2.2.1, a4, ()))))

def z8v (N : Nat) : Hd Bool := fun st K => (unS [(1, .box (.pair (.sl (.pair .str (.pair (.int .i64) (.pair (.int .i64) (.pair (.sl (.pair (.int .i64) (.pair .str .unit))) .unit))))) (.pair (.int .i64) .unit))), (1, .v (.int .i64)), (0, .box (.pair .str (.pair (.int .i64) (.pair (.int .i64) (.pair (.sl (.pair (.int .i64) (.pair .str .unit))) .unit))))), (0, .v (.int .i64))] 116 (restr [4, 5, 3, 1] 0 st)).bind fun x => z94 N x K

def zi7 (N : Nat) : Tab Bool := []

theorem zgd {N : Nat} {c : Ctx} (hb : Base Go.Proofs.Try.prog (z11 N) c) : zu Go.Proofs.Try.prog c (zf z8 [0, 0, 0, 1, 0, 0, 1, 1, 1, 0, 0, 1, 0, 0, 1, 0, 1, 1]) (z8v N) :=
  zp (s := [(1, .box (.pair (.sl (.pair .str (.pair (.int .i64) (.pair (.int .i64) (.pair (.sl (.pair (.int .i64) (.pair .str .unit))) .unit))))) (.pair (.int .i64) .unit))), (1, .v (.int .i64)), (0, .box (.pair .str (.pair (.int .i64) (.pair (.int .i64) (.pair (.sl (.pair (.int .i64) (.pair .str .unit))) .unit))))), (0, .v (.int .i64))]) (m := 116) (g := z94 N) [4, 5, 3, 1] (z7 hb N (zi7 N) z15 z8 TabOk.nil [0, 0, 0, 1, 0, 0, 1, 1, 1, 0, 0, 1, 0, 0, 1, 0, 1, 1] _ rfl) (fun x K => by kernel_rfl)

def z59 (N : Nat) (s : ((List ((List UInt8) × (Int × (Int × ((List (Int × ((List UInt8) × Unit))) × Unit))))) × (Int × Unit))) (i : Int) (t : ((List UInt8) × (Int × (Int × ((List (Int × ((List UInt8) × Unit))) × Unit))))) (k : Int) (k0 : Bool -> Option Bool) (k1 : Option Bool) : Option Bool :=
 z58 N s i t k
 (fun x121 => cond x121
 (k0 false)
 (k1))

def z95 (N : Nat) (x : z2b [(1, .box (.pair (.sl (.pair .str (.pair (.int .i64) (.pair (.int .i64) (.pair (.sl (.pair (.int .i64) (.pair .str .unit))) .unit))))) (.pair (.int .i64) .unit))), (1, .v (.int .i64)), (0, .box (.pair .str (.pair (.int .i64) (.pair (.int .i64) (.pair (.sl (.pair (.int .i64) (.pair .str .unit))) .unit))))), (0, .v (.int .i64))]) (K : Ex -> List A -> Option Bool) : Option Bool :=
 z59 N x.1 x.2.1 x.2.2.1 x.2.2.2.1 (fun a0 => (K .ret (mkS [(2, .v .bool)] 119 (a0, ())))) (K .normal (mkS [(1, .box (.pair (.sl (.pair .str (.pair (.int .i64) (.pair (.int .i64) (.pair (.sl (.pair (.int .i64) (.pair .str .unit))) .unit))))) (.pair (.int .i64) .unit))), (1, .v (.int .i64)), (0, .box (.pair .str (.pair (.int .i64) (.pair (.int .i64) (.pair (.sl (.pair (.int .i64) (.pair .str .unit))) .unit))))), (0, .v (.int .i64))] 116 (x.1, x.2.1, x.2.2.1, x.2.2.2.1, ())))

def z8w (N : Nat) : Hd Bool := fun st K => (unS [(1, .box (.pair (.sl (.pair .str (.pair (.int .i64) (.pair (.int .i64) (.pair (.sl (.pair (.int .i64) (.pair .str .unit))) .unit))))) (.pair (.int .i64) .unit))), (1, .v (.int .i64)), (0, .box (.pair .str (.pair (.int .i64) (.pair (.int .i64) (.pair (.sl (.pair (.int .i64) (.pair .str .unit))) .unit))))), (0, .v (.int .i64))] 116 (restr [4, 5, 3, 1] 0 st)).bind fun x => z95 N x K

def zi8 (N : Nat) : Tab Bool := [([0, 0, 0, 1, 0, 0, 1, 1, 1, 0, 0, 1, 0, 0, 1, 0, 1, 1], z8v N)]

theorem zge {N : Nat} {c : Ctx} (hb : Base Go.Proofs.Try.prog (z11 N) c) : zu Go.Proofs.Try.prog c (zf z8 [0, 1, 0, 0, 1, 1, 1, 0, 0, 1, 0, 0, 1, 0, 1, 1]) (z8w N) :=
  zp (s := [(1, .box (.pair (.sl (.pair .str (.pair (.int .i64) (.pair (.int .i64) (.pair (.sl (.pair (.int .i64) (.pair .str .unit))) .unit))))) (.pair (.int .i64) .unit))), (1, .v (.int .i64)), (0, .box (.pair .str (.pair (.int .i64) (.pair (.int .i64) (.pair (.sl (.pair (.int .i64) (.pair .str .unit))) .unit))))), (0, .v (.int .i64))]) (m := 116) (g := z95 N) [4, 5, 3, 1] (z7 hb N (zi8 N) z15 z8 (TabOk.cons (zgd hb) TabOk.nil) [0, 1, 0, 0, 1, 1, 1, 0, 0, 1, 0, 0, 1, 0, 1, 1] _ rfl) (fun x K => by kernel_rfl)

def z56 (N : Nat) (s : ((List ((List UInt8) × (Int × (Int × ((List (Int × ((List UInt8) × Unit))) × Unit))))) × (Int × Unit))) (i : Int) (t : ((List UInt8) × (Int × (Int × ((List (Int × ((List UInt8) × Unit))) × Unit))))) (k : Int) (rec : Int -> Option Bool) (k0 : Bool -> Option Bool) (k1 : Option Bool) : Option Bool :=
 cond (decide (k < (((List.length t.2.2.2.1) : Nat) : Int)))
 (z59 N s i t k
 (fun x2 => k0 x2)
 (rec (Go.IntKind.wrap Go.IntKind.i64 (k + (1 : Int)))))
 (k1)

def z5a (N : Nat) (s : ((List ((List UInt8) × (Int × (Int × ((List (Int × ((List UInt8) × Unit))) × Unit))))) × (Int × Unit))) (i : Int) (t : ((List UInt8) × (Int × (Int × ((List (Int × ((List UInt8) × Unit))) × Unit))))) (k : Int) (k0 : Bool -> Option Bool) (k1 : Option Bool) : Option Bool :=
 iter (fun (v : Int) r => z56 N s i t v (fun k => (r k)) k0 k1) N k

def z96 (N : Nat) (i : (((List ((List UInt8) × (Int × (Int × ((List (Int × ((List UInt8) × Unit))) × Unit))))) × (Int × Unit)) × Int × ((List UInt8) × (Int × (Int × ((List (Int × ((List UInt8) × Unit))) × Unit)))))) (v : Int) (r : Int -> Option Bool) (K : Ex -> List A -> Option Bool) : Option Bool :=
 z56 N i.1 i.2.1 i.2.2 v (fun k => (r k)) (fun a0 => (K .ret (mkS [(2, .v .bool)] 119 (a0, ())))) (K (.exit 2) (mkS [(1, .box (.pair (.sl (.pair .str (.pair (.int .i64) (.pair (.int .i64) (.pair (.sl (.pair (.int .i64) (.pair .str .unit))) .unit))))) (.pair (.int .i64) .unit))), (1, .v (.int .i64))] 118 (i.1, i.2.1, ())))

def z8x (N : Nat) : Hd Bool := fun st K => (unS [(1, .box (.pair (.sl (.pair .str (.pair (.int .i64) (.pair (.int .i64) (.pair (.sl (.pair (.int .i64) (.pair .str .unit))) .unit))))) (.pair (.int .i64) .unit))), (1, .v (.int .i64)), (0, .box (.pair .str (.pair (.int .i64) (.pair (.int .i64) (.pair (.sl (.pair (.int .i64) (.pair .str .unit))) .unit))))), (0, .v (.int .i64))] 116 (restr [5, 4, 3, 1] 0 st)).bind fun x => iter (fun v r => z96 N ((fun x => (x.1, x.2.1, x.2.2.1)) x) v r K) N ((fun x => x.2.2.2.1) x)

def zi9 (N : Nat) : Tab Bool := [([0, 1, 0, 0, 1, 1, 1, 0, 0, 1, 0, 0, 1, 0, 1, 1], z8w N)]

theorem zgf {N : Nat} {c : Ctx} (hb : Base Go.Proofs.Try.prog (z11 N) c) : zu Go.Proofs.Try.prog c (zf z8 [0, 1, 1, 1, 0, 0, 1, 0, 0, 1, 0, 1, 1]) (z8x N) :=
  z4m (s := [(1, .box (.pair (.sl (.pair .str (.pair (.int .i64) (.pair (.int .i64) (.pair (.sl (.pair (.int .i64) (.pair .str .unit))) .unit))))) (.pair (.int .i64) .unit))), (1, .v (.int .i64)), (0, .box (.pair .str (.pair (.int .i64) (.pair (.int .i64) (.pair (.sl (.pair (.int .i64) (.pair .str .unit))) .unit))))), (0, .v (.int .i64))]) (m := 116) (z96 N) [5, 4, 3, 1] N (fun x => (x.1, x.2.1, x.2.2.1)) (fun x => x.2.2.2.1) (fun i v => (i.1, i.2.1, i.2.2, v, ())) (fun _ => rfl) (z7 hb N (zi9 N) z15 z8 (TabOk.cons (zge hb) TabOk.nil) [0, 0, 1, 1, 1, 0, 0, 1, 0, 0, 1, 0, 1, 1] _ rfl) (fun i v r K => by kernel_rfl)

def z5c (N : Nat) (s : ((List ((List UInt8) × (Int × (Int × ((List (Int × ((List UInt8) × Unit))) × Unit))))) × (Int × Unit))) (i : Int) (k0 : Bool -> Option Bool) (k1 : Option Bool) : Option Bool :=
 cond (Go.Lift.inR i (List.length s.1))
 (z5b N s i (List.getD s.1 (Int.toNat i) (([] : List UInt8), ((0 : Int), ((0 : Int), (([] : List (Int × ((List UInt8) × Unit))), ())))))
 (fun x2 => k0 x2)
 (z5a N s i (List.getD s.1 (Int.toNat i) (([] : List UInt8), ((0 : Int), ((0 : Int), (([] : List (Int × ((List UInt8) × Unit))), ()))))) (0 : Int)
 (fun x21 => k0 x21)
 (k1)))
 (none)

def z99 (N : Nat) (x : z2b [(1, .box (.pair (.sl (.pair .str (.pair (.int .i64) (.pair (.int .i64) (.pair (.sl (.pair (.int .i64) (.pair .str .unit))) .unit))))) (.pair (.int .i64) .unit))), (1, .v (.int .i64))]) (K : Ex -> List A -> Option Bool) : Option Bool :=
 z5c N x.1 x.2.1 (fun a0 => (K .ret (mkS [(2, .v .bool)] 119 (a0, ())))) (K .normal (mkS [(1, .box (.pair (.sl (.pair .str (.pair (.int .i64) (.pair (.int .i64) (.pair (.sl (.pair (.int .i64) (.pair .str .unit))) .unit))))) (.pair (.int .i64) .unit))), (1, .v (.int .i64))] 118 (x.1, x.2.1, ())))

def z90 (N : Nat) : Hd Bool := fun st K => (unS [(1, .box (.pair (.sl (.pair .str (.pair (.int .i64) (.pair (.int .i64) (.pair (.sl (.pair (.int .i64) (.pair .str .unit))) .unit))))) (.pair (.int .i64) .unit))), (1, .v (.int .i64))] 118 (restr [1, 3] 0 st)).bind fun x => z99 N x K

def zic (N : Nat) : Tab Bool := [([0, 1, 0, 0, 1, 0, 0, 1, 0, 1, 1], z8z N), ([0, 1, 1, 1, 0, 0, 1, 0, 0, 1, 0, 1, 1], z8x N)]

theorem zgi {N : Nat} {c : Ctx} (hb : Base Go.Proofs.Try.prog (z11 N) c) : zu Go.Proofs.Try.prog c (zf z8 [0, 1, 0, 0, 1, 0, 1, 1]) (z90 N) :=
  zp (s := [(1, .box (.pair (.sl (.pair .str (.pair (.int .i64) (.pair (.int .i64) (.pair (.sl (.pair (.int .i64) (.pair .str .unit))) .unit))))) (.pair (.int .i64) .unit))), (1, .v (.int .i64))]) (m := 118) (g := z99 N) [1, 3] (z7 hb N (zic N) z15 z8 (TabOk.cons (zgh hb) (TabOk.cons (zgf hb) TabOk.nil)) [0, 1, 0, 0, 1, 0, 1, 1] _ rfl) (fun x K => by kernel_rfl)

def z57 (N : Nat) (s : ((List ((List UInt8) × (Int × (Int × ((List (Int × ((List UInt8) × Unit))) × Unit))))) × (Int × Unit))) (i : Int) (rec : Int -> Option Bool) (k0 : Bool -> Option Bool) (k1 : Option Bool) : Option Bool :=
 cond (decide (i < (((List.length s.1) : Nat) : Int)))
 (z5c N s i
 (fun x2 => k0 x2)
 (rec (Go.IntKind.wrap Go.IntKind.i64 (i + (1 : Int)))))
 (k1)

def z5d (N : Nat) (s : ((List ((List UInt8) × (Int × (Int × ((List (Int × ((List UInt8) × Unit))) × Unit))))) × (Int × Unit))) (i : Int) (k0 : Bool -> Option Bool) (k1 : Option Bool) : Option Bool :=
 iter (fun (v : Int) r => z57 N s v (fun i => (r i)) k0 k1) N i

def z9a (N : Nat) (i : ((List ((List UInt8) × (Int × (Int × ((List (Int × ((List UInt8) × Unit))) × Unit))))) × (Int × Unit))) (v : Int) (r : Int -> Option Bool) (K : Ex -> List A -> Option Bool) : Option Bool :=
 z57 N i v (fun i => (r i)) (fun a0 => (K .ret (mkS [(2, .v .bool)] 119 (a0, ())))) (K (.exit 0) (mkS [] 122 ()))

def z91 (N : Nat) : Hd Bool := fun st K => (unS [(1, .box (.pair (.sl (.pair .str (.pair (.int .i64) (.pair (.int .i64) (.pair (.sl (.pair (.int .i64) (.pair .str .unit))) .unit))))) (.pair (.int .i64) .unit))), (1, .v (.int .i64))] 118 (restr [3, 1] 0 st)).bind fun x => iter (fun v r => z9a N ((fun x => x.1) x) v r K) N ((fun x => x.2.1) x)

def zid (N : Nat) : Tab Bool := [([0, 1, 0, 0, 1, 0, 1, 1], z90 N)]

theorem zgj {N : Nat} {c : Ctx} (hb : Base Go.Proofs.Try.prog (z11 N) c) : zu Go.Proofs.Try.prog c (zf z8 [0, 1, 0, 1, 1]) (z91 N) :=
  z4m (s := [(1, .box (.pair (.sl (.pair .str (.pair (.int .i64) (.pair (.int .i64) (.pair (.sl (.pair (.int .i64) (.pair .str .unit))) .unit))))) (.pair (.int .i64) .unit))), (1, .v (.int .i64))]) (m := 118) (z9a N) [3, 1] N (fun x => x.1) (fun x => x.2.1) (fun i v => (i, v, ())) (fun _ => rfl) (z7 hb N (zid N) z15 z8 (TabOk.cons (zgi hb) TabOk.nil) [0, 0, 1, 0, 1, 1] _ rfl) (fun i v r K => by kernel_rfl)

def z2t (N : Nat) (s : ((List ((List UInt8) × (Int × (Int × ((List (Int × ((List UInt8) × Unit))) × Unit))))) × (Int × Unit))) : Option Bool :=
 z5f N s
 (fun x2 => some x2)
 (z5d N s (0 : Int)
 (fun x21 => some x21)
 (some true))

def zaz (N : Nat) : Tab Bool := [([0, 1], z93 N), ([0, 1, 0, 1, 1], z91 N)]

theorem zfk (N : Nat) (x : z2b [(0, .v (.pair (.sl (.pair .str (.pair (.int .i64) (.pair (.int .i64) (.pair (.sl (.pair (.int .i64) (.pair .str .unit))) .unit))))) (.pair (.int .i64) .unit)))]) : zft (z11 N) N (zaz N) z15 Go.Proofs.Try.f11 (mkS [(0, .v (.pair (.sl (.pair .str (.pair (.int .i64) (.pair (.int .i64) (.pair (.sl (.pair (.int .i64) (.pair .str .unit))) .unit))))) (.pair (.int .i64) .unit)))] 0 x) (z6m (.v .bool) 1) = z2t N x.1 := by kernel_rfl

def z4j (N : Nat) : List A -> Res := z2x [(0, .v (.pair (.sl (.pair .str (.pair (.int .i64) (.pair (.int .i64) (.pair (.sl (.pair (.int .i64) (.pair .str .unit))) .unit))))) (.pair (.int .i64) .unit)))] (fun x => z2t N x.1) (zfu (.v .bool) 1)

theorem z9d (N : Nat) : Contract Go.Proofs.Try.prog z12 11 (z4j N) :=
  Contract.of (E := z11 N) (H := zaz N) (L := z15) (N := N) (body := z8) (K := (z6m (.v .bool) 1)) (zgm N) Go.Proofs.Try.func11 (by kernel_rfl) (by decide) (fun _ hb => (TabOk.cons (zgl hb) (TabOk.cons (zgj hb) TabOk.nil))) (fun x y h => by rw [zfk]; exact h) (z22 (s := (.v .bool)) (m := 1))

def z2k : Code := (Go.Proofs.Try.f13.body).getD .skip

def z4c : List (List Nat × List Nat) := [([0], [1]), ([0, 0, 1], [41, 1]), ([1, 0, 1], [1]), ([0, 0, 1, 0, 1], [2]), ([1, 0, 1, 0, 1], [2]), ([0, 0, 1, 1], [44, 1]), ([1, 0, 1, 1], [1]), ([0, 0, 1, 0, 1, 1], [2]), ([1, 0, 1, 0, 1, 1], [2]), ([0, 1, 1, 1], [2]), ([1, 1, 1, 1], [2])]

def z36 (N : Nat) : Env := z5o tys z12 [(31, z5l N), (30, z6v N)] [] [] [] false [] []

theorem zim (N : Nat) : EnvOk Go.Proofs.Try.prog (z36 N) := z1k mixed z2v (FnsOk.cons (zbp N) (FnsOk.cons (zdg N) (FnsOk.nil))) (ItsOk.nil)

def z64 (N : Nat) (e : (Int × ((List UInt8) × (Int × (Int × ((List UInt8) × Unit)))))) (k0 : Bool -> Option Bool) : Option Bool :=
 cond (decide (e.1 < (1 : Int)))
 (k0 true)
 (cond (decide ((4 : Int) < e.1))
 (k0 true)
 (cond (e.1 != (1 : Int))
 (cond (e.2.2.2.1 != (0 : Int))
 (k0 true)
 (cond (e.1 != (2 : Int))
 (cond (!(e.2.2.2.2.1 == ([] : List UInt8)))
 (k0 true)
 (cond (e.1 == (2 : Int))
 (k0 ((((List.length e.2.2.2.2.1) : Nat) : Int) != (32 : Int)))
 (k0 false)))
 (cond (e.1 == (2 : Int))
 (k0 ((((List.length e.2.2.2.2.1) : Nat) : Int) != (32 : Int)))
 (k0 false))))
 (cond (e.1 != (2 : Int))
 (cond (!(e.2.2.2.2.1 == ([] : List UInt8)))
 (k0 true)
 (cond (e.1 == (2 : Int))
 (k0 ((((List.length e.2.2.2.2.1) : Nat) : Int) != (32 : Int)))
 (k0 false)))
 (cond (e.1 == (2 : Int))
 (k0 ((((List.length e.2.2.2.2.1) : Nat) : Int) != (32 : Int)))
 (k0 false)))))

def zb3 (N : Nat) (x : z2b [(1, .box (.pair (.int .i64) (.pair .str (.pair (.int .i64) (.pair (.int .i64) (.pair .str .unit))))))]) (K : Ex -> List A -> Option Bool) : Option Bool :=
 z64 N x.1 (fun a1 => (K .normal (mkS [(1, .box (.pair (.int .i64) (.pair .str (.pair (.int .i64) (.pair (.int .i64) (.pair .str .unit)))))), (39, .v .bool)] 24 (x.1, a1, ()))))

def zb1 (N : Nat) : Hd Bool := fun st K => (unS [(1, .box (.pair (.int .i64) (.pair .str (.pair (.int .i64) (.pair (.int .i64) (.pair .str .unit))))))] 64 (restr [1] 0 st)).bind fun x => zb3 N x K

def zkf (N : Nat) : Tab Bool := []

theorem zik {N : Nat} {c : Ctx} (hb : Base Go.Proofs.Try.prog (z36 N) c) : zu Go.Proofs.Try.prog c (zf z2k [0, 0, 1]) (zb1 N) :=
  zp (s := [(1, .box (.pair (.int .i64) (.pair .str (.pair (.int .i64) (.pair (.int .i64) (.pair .str .unit))))))]) (m := 64) (g := zb3 N) [1] (z7 hb N (zkf N) z4c z2k TabOk.nil [0, 0, 1] _ rfl) (fun x K => by kernel_rfl)

def z65 (N : Nat) (e : (Int × ((List UInt8) × (Int × (Int × ((List UInt8) × Unit)))))) (k0 : Bool -> Option Bool) (k1 : Option Bool) : Option Bool :=
 z64 N e
 (fun x41 => cond x41
 (k0 false)
 (k1))

def zb4 (N : Nat) (x : z2b [(1, .box (.pair (.int .i64) (.pair .str (.pair (.int .i64) (.pair (.int .i64) (.pair .str .unit))))))]) (K : Ex -> List A -> Option Bool) : Option Bool :=
 z65 N x.1 (fun a0 => (K .ret (mkS [(2, .v .bool)] 63 (a0, ())))) (K .normal (mkS [(1, .box (.pair (.int .i64) (.pair .str (.pair (.int .i64) (.pair (.int .i64) (.pair .str .unit))))))] 64 (x.1, ())))

def zb2 (N : Nat) : Hd Bool := fun st K => (unS [(1, .box (.pair (.int .i64) (.pair .str (.pair (.int .i64) (.pair (.int .i64) (.pair .str .unit))))))] 64 (restr [1] 0 st)).bind fun x => zb4 N x K

def zkg (N : Nat) : Tab Bool := [([0, 0, 1], zb1 N)]

theorem zil {N : Nat} {c : Ctx} (hb : Base Go.Proofs.Try.prog (z36 N) c) : zu Go.Proofs.Try.prog c (zf z2k [0, 1]) (zb2 N) :=
  zp (s := [(1, .box (.pair (.int .i64) (.pair .str (.pair (.int .i64) (.pair (.int .i64) (.pair .str .unit))))))]) (m := 64) (g := zb4 N) [1] (z7 hb N (zkg N) z4c z2k (TabOk.cons (zik hb) TabOk.nil) [0, 1] _ rfl) (fun x K => by kernel_rfl)

def z34 (N : Nat) (e : (Int × ((List UInt8) × (Int × (Int × ((List UInt8) × Unit)))))) : Option Bool :=
 z65 N e
 (fun x2 => some x2)
 (cond (e.1 == (4 : Int))
 (cond (e.2.1 == ([] : List UInt8))
 ((z23 N e.2.2.1 (0 : Int)).bind fun y =>
 some y)
 (some false))
 ((z35 N e.2.1).bind fun y1 =>
 cond y1
 ((z23 N e.2.2.1 (1 : Int)).bind fun y2 =>
 cond y2
 ((z23 N e.2.2.2.1 (0 : Int)).bind fun y3 =>
 some y3)
 (some false))
 (some false)))

def zcr (N : Nat) : Tab Bool := [([0, 1], zb2 N)]

theorem zgr (N : Nat) (x : z2b [(0, .v (.pair (.int .i64) (.pair .str (.pair (.int .i64) (.pair (.int .i64) (.pair .str .unit))))))]) : zft (z36 N) N (zcr N) z4c Go.Proofs.Try.f13 (mkS [(0, .v (.pair (.int .i64) (.pair .str (.pair (.int .i64) (.pair (.int .i64) (.pair .str .unit))))))] 0 x) (z6m (.v .bool) 1) = z34 N x.1 := by kernel_rfl

def z5j (N : Nat) : List A -> Res := z2x [(0, .v (.pair (.int .i64) (.pair .str (.pair (.int .i64) (.pair (.int .i64) (.pair .str .unit))))))] (fun x => z34 N x.1) (zfu (.v .bool) 1)

theorem zb5 (N : Nat) : Contract Go.Proofs.Try.prog z12 13 (z5j N) :=
  Contract.of (E := z36 N) (H := zcr N) (L := z4c) (N := N) (body := z2k) (K := (z6m (.v .bool) 1)) (zim N) Go.Proofs.Try.func13 (by kernel_rfl) (by decide) (fun _ hb => (TabOk.cons (zil hb) TabOk.nil)) (fun x y h => by rw [zgr]; exact h) (z22 (s := (.v .bool)) (m := 1))

def z4k : Code := (Go.Proofs.Try.f22.body).getD .skip

def z6w : List (List Nat × List Nat) := [([0], [2, 1]), ([0, 0, 1], [5, 2, 1]), ([0, 1, 0, 1], [5, 2, 1]), ([0, 0, 0, 0, 1, 0, 1], [10, 2, 5, 1]), ([1, 0, 0, 0, 1, 0, 1], [2, 5, 1]), ([1, 1, 0, 0, 0, 1, 0, 1], []), ([0, 0, 0, 1, 0, 0, 1, 0, 1], [20, 5, 2, 1]), ([1, 0, 0, 1, 0, 0, 1, 0, 1], [5, 2, 1]), ([0, 0, 1, 0, 0, 1, 0, 0, 1, 0, 1], [4]), ([1, 0, 1, 0, 0, 1, 0, 0, 1, 0, 1], [4]), ([0, 1, 0, 0, 1, 0, 1], [5, 2, 1]), ([1, 1, 0, 0, 1, 0, 1], [5, 2, 1]), ([1, 0, 1], []), ([0, 1, 1], [4]), ([1, 1, 1], [4])]

def z4d (N : Nat) : Env := z5o tys z12 [] [] [] [] false [] []

theorem zio (N : Nat) : EnvOk Go.Proofs.Try.prog (z4d N) := z1k mixed z2v (FnsOk.nil) (ItsOk.nil)

def z66 (N : Nat) (tenant : (List UInt8)) (s : ((List ((List UInt8) × (Int × (Int × ((List (Int × ((List UInt8) × Unit))) × Unit))))) × (Int × Unit))) (i : Int) (rec : Int -> Option Int) (k0 : Int -> Option Int) (k1 : Option Int) : Option Int :=
 cond (decide (i < (((List.length s.1) : Nat) : Int)))
 (cond (Go.Lift.inR i (List.length s.1))
 (cond ((List.getD s.1 (Int.toNat i) (([] : List UInt8), ((0 : Int), ((0 : Int), (([] : List (Int × ((List UInt8) × Unit))), ()))))).1 == tenant)
 (k0 i)
 (rec (Go.IntKind.wrap Go.IntKind.i64 (i + (1 : Int)))))
 (none))
 (k1)

def zb6 (N : Nat) (tenant : (List UInt8)) (s : ((List ((List UInt8) × (Int × (Int × ((List (Int × ((List UInt8) × Unit))) × Unit))))) × (Int × Unit))) (i : Int) (k0 : Int -> Option Int) (k1 : Option Int) : Option Int :=
 iter (fun (v : Int) r => z66 N tenant s v (fun i => (r i)) k0 k1) N i

def zb8 (N : Nat) (i : ((List UInt8) × ((List ((List UInt8) × (Int × (Int × ((List (Int × ((List UInt8) × Unit))) × Unit))))) × (Int × Unit)))) (v : Int) (r : Int -> Option Int) (K : Ex -> List A -> Option Int) : Option Int :=
 z66 N i.1 i.2 v (fun i => (r i)) (fun a0 => (K .ret (mkS [(4, .v (.int .i64))] 17 (a0, ())))) (K (.exit 0) (mkS [] 22 ()))

def zb7 (N : Nat) : Hd Int := fun st K => (unS [(1, .v .str), (0, .box (.pair (.sl (.pair .str (.pair (.int .i64) (.pair (.int .i64) (.pair (.sl (.pair (.int .i64) (.pair .str .unit))) .unit))))) (.pair (.int .i64) .unit))), (2, .v (.int .i64))] 16 (restr [5, 2, 1] 0 st)).bind fun x => iter (fun v r => zb8 N ((fun x => (x.1, x.2.1)) x) v r K) N ((fun x => x.2.2.1) x)

def zkh (N : Nat) : Tab Int := []

theorem zin {N : Nat} {c : Ctx} (hb : Base Go.Proofs.Try.prog (z4d N) c) : zu Go.Proofs.Try.prog c (zf z4k [0, 1, 0, 1]) (zb7 N) :=
  z4m (s := [(1, .v .str), (0, .box (.pair (.sl (.pair .str (.pair (.int .i64) (.pair (.int .i64) (.pair (.sl (.pair (.int .i64) (.pair .str .unit))) .unit))))) (.pair (.int .i64) .unit))), (2, .v (.int .i64))]) (m := 16) (zb8 N) [5, 2, 1] N (fun x => (x.1, x.2.1)) (fun x => x.2.2.1) (fun i v => (i.1, i.2, v, ())) (fun _ => rfl) (z7 hb N (zkh N) z6w z4k TabOk.nil [0, 0, 1, 0, 1] _ rfl) (fun i v r K => by kernel_rfl)

def z44 (N : Nat) (s : ((List ((List UInt8) × (Int × (Int × ((List (Int × ((List UInt8) × Unit))) × Unit))))) × (Int × Unit))) (tenant : (List UInt8)) : Option Int :=
 zb6 N tenant s (0 : Int)
 (fun x4 => some x4)
 (some (-(1 : Int)))

def zcs (N : Nat) : Tab Int := [([0, 1, 0, 1], zb7 N)]

theorem zgs (N : Nat) (x : z2b [(0, .v (.pair (.sl (.pair .str (.pair (.int .i64) (.pair (.int .i64) (.pair (.sl (.pair (.int .i64) (.pair .str .unit))) .unit))))) (.pair (.int .i64) .unit))), (0, .v .str)]) : zft (z4d N) N (zcs N) z6w Go.Proofs.Try.f22 (mkS [(0, .v (.pair (.sl (.pair .str (.pair (.int .i64) (.pair (.int .i64) (.pair (.sl (.pair (.int .i64) (.pair .str .unit))) .unit))))) (.pair (.int .i64) .unit))), (0, .v .str)] 0 x) (z6m (.v (.int .i64)) 2) = z44 N x.1 x.2.1 := by kernel_rfl

def z9l (N : Nat) : List A -> Res := z2x [(0, .v (.pair (.sl (.pair .str (.pair (.int .i64) (.pair (.int .i64) (.pair (.sl (.pair (.int .i64) (.pair .str .unit))) .unit))))) (.pair (.int .i64) .unit))), (0, .v .str)] (fun x => z44 N x.1 x.2.1) (zfu (.v (.int .i64)) 2)

theorem zki (N : Nat) : Contract Go.Proofs.Try.prog z12 22 (z9l N) :=
  Contract.of (E := z4d N) (H := zcs N) (L := z6w) (N := N) (body := z4k) (K := (z6m (.v (.int .i64)) 2)) (zio N) Go.Proofs.Try.func22 (by kernel_rfl) (by decide) (fun _ hb => (TabOk.cons (zin hb) TabOk.nil)) (fun x y h => by rw [zgs]; exact h) (z22 (s := (.v (.int .i64))) (m := 2))

def z1e : Code := (Go.Proofs.Try.f25.body).getD .skip

def z2s : List (List Nat × List Nat) := [([0], [2, 3, 4]), ([0, 1], [2, 3, 5, 4]), ([0, 1, 1], [2, 3, 6, 5, 4]), ([0, 0, 1, 1, 1], [7, 2, 3, 6, 5, 4]), ([0, 1, 0, 1, 1, 1], [7, 2, 3, 6, 5, 4]), ([0, 0, 0, 0, 1, 0, 1, 1, 1], [16, 2, 7, 3, 6, 5, 4]), ([1, 0, 0, 0, 1, 0, 1, 1, 1], [2, 7, 3, 6, 5, 4]), ([1, 1, 0, 0, 0, 1, 0, 1, 1, 1], [6, 5, 3, 4]), ([0, 0, 0, 1, 0, 0, 1, 0, 1, 1, 1], [6, 8, 5, 3, 2, 7, 4]), ([0, 0, 1, 0, 0, 1, 0, 0, 1, 0, 1, 1, 1], [33, 5, 3, 8, 2, 7, 4, 6]), ([1, 0, 1, 0, 0, 1, 0, 0, 1, 0, 1, 1, 1], [8, 5, 2, 7, 3, 6, 4]), ([0, 0, 1, 0, 1, 0, 0, 1, 0, 0, 1, 0, 1, 1, 1], [8, 5, 2, 7, 3, 4]), ([1, 0, 1, 0, 1, 0, 0, 1, 0, 0, 1, 0, 1, 1, 1], [8, 5, 2, 7, 3, 6, 4]), ([0, 1, 1, 0, 0, 1, 0, 0, 1, 0, 1, 1, 1], [41, 5, 2, 7, 3, 6, 4]), ([1, 1, 1, 0, 0, 1, 0, 0, 1, 0, 1, 1, 1], [7, 2, 3, 6, 5, 4]), ([0, 1, 1, 1, 0, 0, 1, 0, 0, 1, 0, 1, 1, 1], [7, 2, 3, 6, 5, 4]), ([0, 1, 0, 0, 1, 0, 1, 1, 1], [7, 2, 3, 6, 5, 4]), ([1, 1, 0, 0, 1, 0, 1, 1, 1], [7, 2, 3, 6, 5, 4]), ([1, 0, 1, 1, 1], [6, 5, 3, 4]), ([0, 0, 1, 1, 1, 1], [53, 5, 3, 4]), ([1, 0, 1, 1, 1, 1], [5, 4]), ([0, 1, 0, 1, 1, 1, 1], [5, 4]), ([0, 1, 1, 1, 1, 1], [4]), ([1, 1, 1, 1, 1, 1], [4])]

def z2d (N : Nat) : Env := z5o tys z12 [(32, z3s N)] [] [] [] false [(11, (.pair (.own (.pair .str (.pair (.int .i64) (.pair (.int .i64) (.pair (.sl (.pair (.int .i64) (.pair .str .unit))) .unit))))) (.pair (.int .i64) .unit))), (5, (.pair (.own (.pair .str (.pair (.int .i64) (.pair (.int .i64) (.pair (.sl (.pair (.int .i64) (.pair .str .unit))) .unit))))) (.pair (.int .i64) .unit)))] []

theorem zka (N : Nat) : EnvOk Go.Proofs.Try.prog (z2d N) := z1k mixed z2v (FnsOk.cons (z7t N) (FnsOk.nil)) (ItsOk.nil)

def z6r (N : Nat) (s : ((List ((List UInt8) × (Int × (Int × ((List (Int × ((List UInt8) × Unit))) × Unit))))) × (Int × Unit))) (t : ((List UInt8) × (Int × (Int × ((List (Int × ((List UInt8) × Unit))) × Unit))))) (x4 : ((List ((List UInt8) × (Int × (Int × ((List (Int × ((List UInt8) × Unit))) × Unit))))) × (Int × Unit))) (out : ((List ((List UInt8) × (Int × (Int × ((List (Int × ((List UInt8) × Unit))) × Unit))))) × (Int × Unit))) (done : Bool) (i : Int) (c : Int) (k0 : Bool -> Option ((List ((List UInt8) × (Int × (Int × ((List (Int × ((List UInt8) × Unit))) × Unit))))) × (Int × Unit))) : Option ((List ((List UInt8) × (Int × (Int × ((List (Int × ((List UInt8) × Unit))) × Unit))))) × (Int × Unit)) :=
 cond (!done)
 (k0 (decide ((0 : Int) <= c)))
 (k0 false)

def zck (N : Nat) (x : z2b [(2, .box (.pair (.sl (.pair .str (.pair (.int .i64) (.pair (.int .i64) (.pair (.sl (.pair (.int .i64) (.pair .str .unit))) .unit))))) (.pair (.int .i64) .unit))), (0, .box (.pair .str (.pair (.int .i64) (.pair (.int .i64) (.pair (.sl (.pair (.int .i64) (.pair .str .unit))) .unit))))), (0, .box (.pair (.sl (.pair .str (.pair (.int .i64) (.pair (.int .i64) (.pair (.sl (.pair (.int .i64) (.pair .str .unit))) .unit))))) (.pair (.int .i64) .unit))), (0, .box (.pair (.own (.pair .str (.pair (.int .i64) (.pair (.int .i64) (.pair (.sl (.pair (.int .i64) (.pair .str .unit))) .unit))))) (.pair (.int .i64) .unit))), (0, .v .bool), (0, .v (.int .i64)), (0, .v (.int .i64))]) (K : Ex -> List A -> Option ((List ((List UInt8) × (Int × (Int × ((List (Int × ((List UInt8) × Unit))) × Unit))))) × (Int × Unit))) : Option ((List ((List UInt8) × (Int × (Int × ((List (Int × ((List UInt8) × Unit))) × Unit))))) × (Int × Unit)) :=
 z6r N x.1 x.2.1 x.2.2.1 x.2.2.2.1 x.2.2.2.2.1 x.2.2.2.2.2.1 x.2.2.2.2.2.2.1 (fun a7 => (K .normal (mkS [(2, .box (.pair (.sl (.pair .str (.pair (.int .i64) (.pair (.int .i64) (.pair (.sl (.pair (.int .i64) (.pair .str .unit))) .unit))))) (.pair (.int .i64) .unit))), (0, .box (.pair .str (.pair (.int .i64) (.pair (.int .i64) (.pair (.sl (.pair (.int .i64) (.pair .str .unit))) .unit))))), (0, .box (.pair (.sl (.pair .str (.pair (.int .i64) (.pair (.int .i64) (.pair (.sl (.pair (.int .i64) (.pair .str .unit))) .unit))))) (.pair (.int .i64) .unit))), (0, .box (.pair (.own (.pair .str (.pair (.int .i64) (.pair (.int .i64) (.pair (.sl (.pair (.int .i64) (.pair .str .unit))) .unit))))) (.pair (.int .i64) .unit))), (0, .v .bool), (0, .v (.int .i64)), (0, .v (.int .i64)), (24, .v .bool)] 27 (x.1, x.2.1, x.2.2.1, x.2.2.2.1, x.2.2.2.2.1, x.2.2.2.2.2.1, x.2.2.2.2.2.2.1, a7, ()))))

def zcg (N : Nat) : Hd ((List ((List UInt8) × (Int × (Int × ((List (Int × ((List UInt8) × Unit))) × Unit))))) × (Int × Unit)) := fun st K => (unS [(2, .box (.pair (.sl (.pair .str (.pair (.int .i64) (.pair (.int .i64) (.pair (.sl (.pair (.int .i64) (.pair .str .unit))) .unit))))) (.pair (.int .i64) .unit))), (0, .box (.pair .str (.pair (.int .i64) (.pair (.int .i64) (.pair (.sl (.pair (.int .i64) (.pair .str .unit))) .unit))))), (0, .box (.pair (.sl (.pair .str (.pair (.int .i64) (.pair (.int .i64) (.pair (.sl (.pair (.int .i64) (.pair .str .unit))) .unit))))) (.pair (.int .i64) .unit))), (0, .box (.pair (.own (.pair .str (.pair (.int .i64) (.pair (.int .i64) (.pair (.sl (.pair (.int .i64) (.pair .str .unit))) .unit))))) (.pair (.int .i64) .unit))), (0, .v .bool), (0, .v (.int .i64)), (0, .v (.int .i64))] 52 (restr [6, 8, 5, 3, 2, 7, 4] 0 st)).bind fun x => zck N x K

def zlq (N : Nat) : Tab ((List ((List UInt8) × (Int × (Int × ((List (Int × ((List UInt8) × Unit))) × Unit))))) × (Int × Unit)) := []

theorem zk6 {N : Nat} {c : Ctx} (hb : Base Go.Proofs.Try.prog (z2d N) c) : zu Go.Proofs.Try.prog c (zf z1e [0, 0, 1, 0, 0, 1, 0, 0, 1, 0, 1, 1, 1]) (zcg N) :=
  zp (s := [(2, .box (.pair (.sl (.pair .str (.pair (.int .i64) (.pair (.int .i64) (.pair (.sl (.pair (.int .i64) (.pair .str .unit))) .unit))))) (.pair (.int .i64) .unit))), (0, .box (.pair .str (.pair (.int .i64) (.pair (.int .i64) (.pair (.sl (.pair (.int .i64) (.pair .str .unit))) .unit))))), (0, .box (.pair (.sl (.pair .str (.pair (.int .i64) (.pair (.int .i64) (.pair (.sl (.pair (.int .i64) (.pair .str .unit))) .unit))))) (.pair (.int .i64) .unit))), (0, .box (.pair (.own (.pair .str (.pair (.int .i64) (.pair (.int .i64) (.pair (.sl (.pair (.int .i64) (.pair .str .unit))) .unit))))) (.pair (.int .i64) .unit))), (0, .v .bool), (0, .v (.int .i64)), (0, .v (.int .i64))]) (m := 52) (g := zck N) [6, 8, 5, 3, 2, 7, 4] (z7 hb N (zlq N) z2s z1e TabOk.nil [0, 0, 1, 0, 0, 1, 0, 0, 1, 0, 1, 1, 1] _ rfl) (fun x K => by kernel_rfl)

def z6s (N : Nat) (s : ((List ((List UInt8) × (Int × (Int × ((List (Int × ((List UInt8) × Unit))) × Unit))))) × (Int × Unit))) (t : ((List UInt8) × (Int × (Int × ((List (Int × ((List UInt8) × Unit))) × Unit))))) (x4 : ((List ((List UInt8) × (Int × (Int × ((List (Int × ((List UInt8) × Unit))) × Unit))))) × (Int × Unit))) (out : ((List ((List UInt8) × (Int × (Int × ((List (Int × ((List UInt8) × Unit))) × Unit))))) × (Int × Unit))) (done : Bool) (i : Int) (c : Int) (k0 : ((List ((List UInt8) × (Int × (Int × ((List (Int × ((List UInt8) × Unit))) × Unit))))) × (Int × Unit)) -> Bool -> Option ((List ((List UInt8) × (Int × (Int × ((List (Int × ((List UInt8) × Unit))) × Unit))))) × (Int × Unit))) : Option ((List ((List UInt8) × (Int × (Int × ((List (Int × ((List UInt8) × Unit))) × Unit))))) × (Int × Unit)) :=
 z6r N s t x4 out done i c
 (fun x33 => cond x33
 (cond (decide ((((List.length out.1) + 1) * 56) <= 70368744177664))
 (k0 ((out.1 ++ ([t] : List ((List UInt8) × (Int × (Int × ((List (Int × ((List UInt8) × Unit))) × Unit)))))), out.2) true)
 (none))
 (k0 out done))

def zcl (N : Nat) (x : z2b [(2, .box (.pair (.sl (.pair .str (.pair (.int .i64) (.pair (.int .i64) (.pair (.sl (.pair (.int .i64) (.pair .str .unit))) .unit))))) (.pair (.int .i64) .unit))), (0, .box (.pair .str (.pair (.int .i64) (.pair (.int .i64) (.pair (.sl (.pair (.int .i64) (.pair .str .unit))) .unit))))), (0, .box (.pair (.sl (.pair .str (.pair (.int .i64) (.pair (.int .i64) (.pair (.sl (.pair (.int .i64) (.pair .str .unit))) .unit))))) (.pair (.int .i64) .unit))), (0, .box (.pair (.own (.pair .str (.pair (.int .i64) (.pair (.int .i64) (.pair (.sl (.pair (.int .i64) (.pair .str .unit))) .unit))))) (.pair (.int .i64) .unit))), (0, .v .bool), (0, .v (.int .i64)), (0, .v (.int .i64))]) (K : Ex -> List A -> Option ((List ((List UInt8) × (Int × (Int × ((List (Int × ((List UInt8) × Unit))) × Unit))))) × (Int × Unit))) : Option ((List ((List UInt8) × (Int × (Int × ((List (Int × ((List UInt8) × Unit))) × Unit))))) × (Int × Unit)) :=
 z6s N x.1 x.2.1 x.2.2.1 x.2.2.2.1 x.2.2.2.2.1 x.2.2.2.2.2.1 x.2.2.2.2.2.2.1 (fun a3 a4 => (K .normal (mkS [(2, .box (.pair (.sl (.pair .str (.pair (.int .i64) (.pair (.int .i64) (.pair (.sl (.pair (.int .i64) (.pair .str .unit))) .unit))))) (.pair (.int .i64) .unit))), (0, .box (.pair .str (.pair (.int .i64) (.pair (.int .i64) (.pair (.sl (.pair (.int .i64) (.pair .str .unit))) .unit))))), (0, .box (.pair (.sl (.pair .str (.pair (.int .i64) (.pair (.int .i64) (.pair (.sl (.pair (.int .i64) (.pair .str .unit))) .unit))))) (.pair (.int .i64) .unit))), (0, .box (.pair (.own (.pair .str (.pair (.int .i64) (.pair (.int .i64) (.pair (.sl (.pair (.int .i64) (.pair .str .unit))) .unit))))) (.pair (.int .i64) .unit))), (0, .v .bool), (0, .v (.int .i64)), (0, .v (.int .i64))] 52 (x.1, x.2.1, x.2.2.1, a3, a4, x.2.2.2.2.2.1, x.2.2.2.2.2.2.1, ()))))

def zch (N : Nat) : Hd ((List ((List UInt8) × (Int × (Int × ((List (Int × ((List UInt8) × Unit))) × Unit))))) × (Int × Unit)) := fun st K => (unS [(2, .box (.pair (.sl (.pair .str (.pair (.int .i64) (.pair (.int .i64) (.pair (.sl (.pair (.int .i64) (.pair .str .unit))) .unit))))) (.pair (.int .i64) .unit))), (0, .box (.pair .str (.pair (.int .i64) (.pair (.int .i64) (.pair (.sl (.pair (.int .i64) (.pair .str .unit))) .unit))))), (0, .box (.pair (.sl (.pair .str (.pair (.int .i64) (.pair (.int .i64) (.pair (.sl (.pair (.int .i64) (.pair .str .unit))) .unit))))) (.pair (.int .i64) .unit))), (0, .box (.pair (.own (.pair .str (.pair (.int .i64) (.pair (.int .i64) (.pair (.sl (.pair (.int .i64) (.pair .str .unit))) .unit))))) (.pair (.int .i64) .unit))), (0, .v .bool), (0, .v (.int .i64)), (0, .v (.int .i64))] 52 (restr [6, 8, 5, 3, 2, 7, 4] 0 st)).bind fun x => zcl N x K

def zlr (N : Nat) : Tab ((List ((List UInt8) × (Int × (Int × ((List (Int × ((List UInt8) × Unit))) × Unit))))) × (Int × Unit)) := [([0, 0, 1, 0, 0, 1, 0, 0, 1, 0, 1, 1, 1], zcg N)]

theorem zk7 {N : Nat} {c : Ctx} (hb : Base Go.Proofs.Try.prog (z2d N) c) : zu Go.Proofs.Try.prog c (zf z1e [0, 1, 0, 0, 1, 0, 0, 1, 0, 1, 1, 1]) (zch N) :=
  zp (s := [(2, .box (.pair (.sl (.pair .str (.pair (.int .i64) (.pair (.int .i64) (.pair (.sl (.pair (.int .i64) (.pair .str .unit))) .unit))))) (.pair (.int .i64) .unit))), (0, .box (.pair .str (.pair (.int .i64) (.pair (.int .i64) (.pair (.sl (.pair (.int .i64) (.pair .str .unit))) .unit))))), (0, .box (.pair (.sl (.pair .str (.pair (.int .i64) (.pair (.int .i64) (.pair (.sl (.pair (.int .i64) (.pair .str .unit))) .unit))))) (.pair (.int .i64) .unit))), (0, .box (.pair (.own (.pair .str (.pair (.int .i64) (.pair (.int .i64) (.pair (.sl (.pair (.int .i64) (.pair .str .unit))) .unit))))) (.pair (.int .i64) .unit))), (0, .v .bool), (0, .v (.int .i64)), (0, .v (.int .i64))]) (m := 52) (g := zcl N) [6, 8, 5, 3, 2, 7, 4] (z7 hb N (zlr N) z2s z1e (TabOk.cons (zk6 hb) TabOk.nil) [0, 1, 0, 0, 1, 0, 0, 1, 0, 1, 1, 1] _ rfl) (fun x K => by kernel_rfl)

def z6t (N : Nat) (s : ((List ((List UInt8) × (Int × (Int × ((List (Int × ((List UInt8) × Unit))) × Unit))))) × (Int × Unit))) (t : ((List UInt8) × (Int × (Int × ((List (Int × ((List UInt8) × Unit))) × Unit))))) (x4 : ((List ((List UInt8) × (Int × (Int × ((List (Int × ((List UInt8) × Unit))) × Unit))))) × (Int × Unit))) (out : ((List ((List UInt8) × (Int × (Int × ((List (Int × ((List UInt8) × Unit))) × Unit))))) × (Int × Unit))) (done : Bool) (i : Int) (k0 : ((List ((List UInt8) × (Int × (Int × ((List (Int × ((List UInt8) × Unit))) × Unit))))) × (Int × Unit)) -> Bool -> Option ((List ((List UInt8) × (Int × (Int × ((List (Int × ((List UInt8) × Unit))) × Unit))))) × (Int × Unit))) : Option ((List ((List UInt8) × (Int × (Int × ((List (Int × ((List UInt8) × Unit))) × Unit))))) × (Int × Unit)) :=
 cond (Go.Lift.inR i (List.length s.1))
 ((z2f N (List.getD s.1 (Int.toNat i) (([] : List UInt8), ((0 : Int), ((0 : Int), (([] : List (Int × ((List UInt8) × Unit))), ()))))).1 t.1).bind fun y =>
 z6s N s t x4 out done i y
 (fun out1 done1 => cond (y != (0 : Int))
 (cond (Go.Lift.inR i (List.length s.1))
 (cond (decide ((((List.length out1.1) + 1) * 56) <= 70368744177664))
 (k0 ((out1.1 ++ ([(List.getD s.1 (Int.toNat i) (([] : List UInt8), ((0 : Int), ((0 : Int), (([] : List (Int × ((List UInt8) × Unit))), ())))))] : List ((List UInt8) × (Int × (Int × ((List (Int × ((List UInt8) × Unit))) × Unit)))))), out1.2) done1)
 (none))
 (none))
 (k0 out1 done1)))
 (none)

def zcm (N : Nat) (x : z2b [(2, .box (.pair (.sl (.pair .str (.pair (.int .i64) (.pair (.int .i64) (.pair (.sl (.pair (.int .i64) (.pair .str .unit))) .unit))))) (.pair (.int .i64) .unit))), (0, .box (.pair .str (.pair (.int .i64) (.pair (.int .i64) (.pair (.sl (.pair (.int .i64) (.pair .str .unit))) .unit))))), (0, .box (.pair (.sl (.pair .str (.pair (.int .i64) (.pair (.int .i64) (.pair (.sl (.pair (.int .i64) (.pair .str .unit))) .unit))))) (.pair (.int .i64) .unit))), (0, .box (.pair (.own (.pair .str (.pair (.int .i64) (.pair (.int .i64) (.pair (.sl (.pair (.int .i64) (.pair .str .unit))) .unit))))) (.pair (.int .i64) .unit))), (0, .v .bool), (0, .v (.int .i64))]) (K : Ex -> List A -> Option ((List ((List UInt8) × (Int × (Int × ((List (Int × ((List UInt8) × Unit))) × Unit))))) × (Int × Unit))) : Option ((List ((List UInt8) × (Int × (Int × ((List (Int × ((List UInt8) × Unit))) × Unit))))) × (Int × Unit)) :=
 z6t N x.1 x.2.1 x.2.2.1 x.2.2.2.1 x.2.2.2.2.1 x.2.2.2.2.2.1 (fun a3 a4 => (K .normal (mkS [(2, .box (.pair (.sl (.pair .str (.pair (.int .i64) (.pair (.int .i64) (.pair (.sl (.pair (.int .i64) (.pair .str .unit))) .unit))))) (.pair (.int .i64) .unit))), (0, .box (.pair .str (.pair (.int .i64) (.pair (.int .i64) (.pair (.sl (.pair (.int .i64) (.pair .str .unit))) .unit))))), (0, .box (.pair (.sl (.pair .str (.pair (.int .i64) (.pair (.int .i64) (.pair (.sl (.pair (.int .i64) (.pair .str .unit))) .unit))))) (.pair (.int .i64) .unit))), (0, .box (.pair (.own (.pair .str (.pair (.int .i64) (.pair (.int .i64) (.pair (.sl (.pair (.int .i64) (.pair .str .unit))) .unit))))) (.pair (.int .i64) .unit))), (0, .v .bool), (0, .v (.int .i64))] 53 (x.1, x.2.1, x.2.2.1, a3, a4, x.2.2.2.2.2.1, ()))))

def zci (N : Nat) : Hd ((List ((List UInt8) × (Int × (Int × ((List (Int × ((List UInt8) × Unit))) × Unit))))) × (Int × Unit)) := fun st K => (unS [(2, .box (.pair (.sl (.pair .str (.pair (.int .i64) (.pair (.int .i64) (.pair (.sl (.pair (.int .i64) (.pair .str .unit))) .unit))))) (.pair (.int .i64) .unit))), (0, .box (.pair .str (.pair (.int .i64) (.pair (.int .i64) (.pair (.sl (.pair (.int .i64) (.pair .str .unit))) .unit))))), (0, .box (.pair (.sl (.pair .str (.pair (.int .i64) (.pair (.int .i64) (.pair (.sl (.pair (.int .i64) (.pair .str .unit))) .unit))))) (.pair (.int .i64) .unit))), (0, .box (.pair (.own (.pair .str (.pair (.int .i64) (.pair (.int .i64) (.pair (.sl (.pair (.int .i64) (.pair .str .unit))) .unit))))) (.pair (.int .i64) .unit))), (0, .v .bool), (0, .v (.int .i64))] 53 (restr [2, 7, 3, 6, 5, 4] 0 st)).bind fun x => zcm N x K

def zls (N : Nat) : Tab ((List ((List UInt8) × (Int × (Int × ((List (Int × ((List UInt8) × Unit))) × Unit))))) × (Int × Unit)) := [([0, 1, 0, 0, 1, 0, 0, 1, 0, 1, 1, 1], zch N)]

theorem zk8 {N : Nat} {c : Ctx} (hb : Base Go.Proofs.Try.prog (z2d N) c) : zu Go.Proofs.Try.prog c (zf z1e [0, 1, 0, 0, 1, 0, 1, 1, 1]) (zci N) :=
  zp (s := [(2, .box (.pair (.sl (.pair .str (.pair (.int .i64) (.pair (.int .i64) (.pair (.sl (.pair (.int .i64) (.pair .str .unit))) .unit))))) (.pair (.int .i64) .unit))), (0, .box (.pair .str (.pair (.int .i64) (.pair (.int .i64) (.pair (.sl (.pair (.int .i64) (.pair .str .unit))) .unit))))), (0, .box (.pair (.sl (.pair .str (.pair (.int .i64) (.pair (.int .i64) (.pair (.sl (.pair (.int .i64) (.pair .str .unit))) .unit))))) (.pair (.int .i64) .unit))), (0, .box (.pair (.own (.pair .str (.pair (.int .i64) (.pair (.int .i64) (.pair (.sl (.pair (.int .i64) (.pair .str .unit))) .unit))))) (.pair (.int .i64) .unit))), (0, .v .bool), (0, .v (.int .i64))]) (m := 53) (g := zcm N) [2, 7, 3, 6, 5, 4] (z7 hb N (zls N) z2s z1e (TabOk.cons (zk7 hb) TabOk.nil) [0, 1, 0, 0, 1, 0, 1, 1, 1] _ rfl) (fun x K => by kernel_rfl)

def z6q (N : Nat) (s : ((List ((List UInt8) × (Int × (Int × ((List (Int × ((List UInt8) × Unit))) × Unit))))) × (Int × Unit))) (t : ((List UInt8) × (Int × (Int × ((List (Int × ((List UInt8) × Unit))) × Unit))))) (x4 : ((List ((List UInt8) × (Int × (Int × ((List (Int × ((List UInt8) × Unit))) × Unit))))) × (Int × Unit))) (out : ((List ((List UInt8) × (Int × (Int × ((List (Int × ((List UInt8) × Unit))) × Unit))))) × (Int × Unit))) (done : Bool) (i : Int) (rec : ((List ((List UInt8) × (Int × (Int × ((List (Int × ((List UInt8) × Unit))) × Unit))))) × (Int × Unit)) -> Bool -> Int -> Option ((List ((List UInt8) × (Int × (Int × ((List (Int × ((List UInt8) × Unit))) × Unit))))) × (Int × Unit))) (k0 : ((List ((List UInt8) × (Int × (Int × ((List (Int × ((List UInt8) × Unit))) × Unit))))) × (Int × Unit)) -> Bool -> Option ((List ((List UInt8) × (Int × (Int × ((List (Int × ((List UInt8) × Unit))) × Unit))))) × (Int × Unit))) : Option ((List ((List UInt8) × (Int × (Int × ((List (Int × ((List UInt8) × Unit))) × Unit))))) × (Int × Unit)) :=
 cond (decide (i < (((List.length s.1) : Nat) : Int)))
 (z6t N s t x4 out done i
 (fun out1 done1 => rec out1 done1 (Go.IntKind.wrap Go.IntKind.i64 (i + (1 : Int)))))
 (k0 out done)

def zcf (N : Nat) (s : ((List ((List UInt8) × (Int × (Int × ((List (Int × ((List UInt8) × Unit))) × Unit))))) × (Int × Unit))) (t : ((List UInt8) × (Int × (Int × ((List (Int × ((List UInt8) × Unit))) × Unit))))) (x4 : ((List ((List UInt8) × (Int × (Int × ((List (Int × ((List UInt8) × Unit))) × Unit))))) × (Int × Unit))) (out : ((List ((List UInt8) × (Int × (Int × ((List (Int × ((List UInt8) × Unit))) × Unit))))) × (Int × Unit))) (done : Bool) (i : Int) (k0 : ((List ((List UInt8) × (Int × (Int × ((List (Int × ((List UInt8) × Unit))) × Unit))))) × (Int × Unit)) -> Bool -> Option ((List ((List UInt8) × (Int × (Int × ((List (Int × ((List UInt8) × Unit))) × Unit))))) × (Int × Unit))) : Option ((List ((List UInt8) × (Int × (Int × ((List (Int × ((List UInt8) × Unit))) × Unit))))) × (Int × Unit)) :=
 iter (fun (v : (((List ((List UInt8) × (Int × (Int × ((List (Int × ((List UInt8) × Unit))) × Unit))))) × (Int × Unit)) × Bool × Int)) r => z6q N s t x4 v.1 v.2.1 v.2.2 (fun out done i => (r (out, done, i))) k0) N (out, done, i)

def zcn (N : Nat) (i : (((List ((List UInt8) × (Int × (Int × ((List (Int × ((List UInt8) × Unit))) × Unit))))) × (Int × Unit)) × ((List UInt8) × (Int × (Int × ((List (Int × ((List UInt8) × Unit))) × Unit)))) × ((List ((List UInt8) × (Int × (Int × ((List (Int × ((List UInt8) × Unit))) × Unit))))) × (Int × Unit)))) (v : (((List ((List UInt8) × (Int × (Int × ((List (Int × ((List UInt8) × Unit))) × Unit))))) × (Int × Unit)) × Bool × Int)) (r : (((List ((List UInt8) × (Int × (Int × ((List (Int × ((List UInt8) × Unit))) × Unit))))) × (Int × Unit)) × Bool × Int) -> Option ((List ((List UInt8) × (Int × (Int × ((List (Int × ((List UInt8) × Unit))) × Unit))))) × (Int × Unit))) (K : Ex -> List A -> Option ((List ((List UInt8) × (Int × (Int × ((List (Int × ((List UInt8) × Unit))) × Unit))))) × (Int × Unit))) : Option ((List ((List UInt8) × (Int × (Int × ((List (Int × ((List UInt8) × Unit))) × Unit))))) × (Int × Unit)) :=
 z6q N i.1 i.2.1 i.2.2 v.1 v.2.1 v.2.2 (fun out done i => (r (out, done, i))) (fun a2 a3 => (K (.exit 0) (mkS [(3, .box (.pair .str (.pair (.int .i64) (.pair (.int .i64) (.pair (.sl (.pair (.int .i64) (.pair .str .unit))) .unit))))), (0, .box (.pair (.sl (.pair .str (.pair (.int .i64) (.pair (.int .i64) (.pair (.sl (.pair (.int .i64) (.pair .str .unit))) .unit))))) (.pair (.int .i64) .unit))), (0, .box (.pair (.own (.pair .str (.pair (.int .i64) (.pair (.int .i64) (.pair (.sl (.pair (.int .i64) (.pair .str .unit))) .unit))))) (.pair (.int .i64) .unit))), (0, .v .bool)] 54 (i.2.1, i.2.2, a2, a3, ()))))

def zcj (N : Nat) : Hd ((List ((List UInt8) × (Int × (Int × ((List (Int × ((List UInt8) × Unit))) × Unit))))) × (Int × Unit)) := fun st K => (unS [(2, .box (.pair (.sl (.pair .str (.pair (.int .i64) (.pair (.int .i64) (.pair (.sl (.pair (.int .i64) (.pair .str .unit))) .unit))))) (.pair (.int .i64) .unit))), (0, .box (.pair .str (.pair (.int .i64) (.pair (.int .i64) (.pair (.sl (.pair (.int .i64) (.pair .str .unit))) .unit))))), (0, .box (.pair (.sl (.pair .str (.pair (.int .i64) (.pair (.int .i64) (.pair (.sl (.pair (.int .i64) (.pair .str .unit))) .unit))))) (.pair (.int .i64) .unit))), (0, .box (.pair (.own (.pair .str (.pair (.int .i64) (.pair (.int .i64) (.pair (.sl (.pair (.int .i64) (.pair .str .unit))) .unit))))) (.pair (.int .i64) .unit))), (0, .v .bool), (0, .v (.int .i64))] 53 (restr [7, 2, 3, 6, 5, 4] 0 st)).bind fun x => iter (fun v r => zcn N ((fun x => (x.1, x.2.1, x.2.2.1)) x) v r K) N ((fun x => (x.2.2.2.1, x.2.2.2.2.1, x.2.2.2.2.2.1)) x)

def zlt (N : Nat) : Tab ((List ((List UInt8) × (Int × (Int × ((List (Int × ((List UInt8) × Unit))) × Unit))))) × (Int × Unit)) := [([0, 1, 0, 0, 1, 0, 1, 1, 1], zci N)]

theorem zk9 {N : Nat} {c : Ctx} (hb : Base Go.Proofs.Try.prog (z2d N) c) : zu Go.Proofs.Try.prog c (zf z1e [0, 1, 0, 1, 1, 1]) (zcj N) :=
  z4m (s := [(2, .box (.pair (.sl (.pair .str (.pair (.int .i64) (.pair (.int .i64) (.pair (.sl (.pair (.int .i64) (.pair .str .unit))) .unit))))) (.pair (.int .i64) .unit))), (0, .box (.pair .str (.pair (.int .i64) (.pair (.int .i64) (.pair (.sl (.pair (.int .i64) (.pair .str .unit))) .unit))))), (0, .box (.pair (.sl (.pair .str (.pair (.int .i64) (.pair (.int .i64) (.pair (.sl (.pair (.int .i64) (.pair .str .unit))) .unit))))) (.pair (.int .i64) .unit))), (0, .box (.pair (.own (.pair .str (.pair (.int .i64) (.pair (.int .i64) (.pair (.sl (.pair (.int .i64) (.pair .str .unit))) .unit))))) (.pair (.int .i64) .unit))), (0, .v .bool), (0, .v (.int .i64))]) (m := 53) (zcn N) [7, 2, 3, 6, 5, 4] N (fun x => (x.1, x.2.1, x.2.2.1)) (fun x => (x.2.2.2.1, x.2.2.2.2.1, x.2.2.2.2.2.1)) (fun i v => (i.1, i.2.1, i.2.2, v.1, v.2.1, v.2.2, ())) (fun _ => rfl) (z7 hb N (zlt N) z2s z1e (TabOk.cons (zk8 hb) TabOk.nil) [0, 0, 1, 0, 1, 1, 1] _ rfl) (fun i v r K => by kernel_rfl)

def z2j (N : Nat) (s : ((List ((List UInt8) × (Int × (Int × ((List (Int × ((List UInt8) × Unit))) × Unit))))) × (Int × Unit))) (t : ((List UInt8) × (Int × (Int × ((List (Int × ((List UInt8) × Unit))) × Unit))))) : Option ((List ((List UInt8) × (Int × (Int × ((List (Int × ((List UInt8) × Unit))) × Unit))))) × (Int × Unit)) :=
 zcf N s t (([] : List ((List UInt8) × (Int × (Int × ((List (Int × ((List UInt8) × Unit))) × Unit))))), ((0 : Int), ())) (([] : List ((List UInt8) × (Int × (Int × ((List (Int × ((List UInt8) × Unit))) × Unit))))), (s.2.1, ())) false (0 : Int)
 (fun out done => cond (!done)
 (cond (decide ((((List.length out.1) + 1) * 56) <= 70368744177664))
 (some ((out.1 ++ ([t] : List ((List UInt8) × (Int × (Int × ((List (Int × ((List UInt8) × Unit))) × Unit)))))), (out.2.1, out.2.2)))
 (none))
 (some (out.1, (out.2.1, out.2.2))))

def zde (N : Nat) : Tab ((List ((List UInt8) × (Int × (Int × ((List (Int × ((List UInt8) × Unit))) × Unit))))) × (Int × Unit)) := [([0, 1, 0, 1, 1, 1], zcj N)]

theorem zi5 (N : Nat) (x : z2b [(0, .v (.pair (.sl (.pair .str (.pair (.int .i64) (.pair (.int .i64) (.pair (.sl (.pair (.int .i64) (.pair .str .unit))) .unit))))) (.pair (.int .i64) .unit))), (0, .v (.pair .str (.pair (.int .i64) (.pair (.int .i64) (.pair (.sl (.pair (.int .i64) (.pair .str .unit))) .unit)))))]) : zft (z2d N) N (zde N) z2s Go.Proofs.Try.f25 (mkS [(0, .v (.pair (.sl (.pair .str (.pair (.int .i64) (.pair (.int .i64) (.pair (.sl (.pair (.int .i64) (.pair .str .unit))) .unit))))) (.pair (.int .i64) .unit))), (0, .v (.pair .str (.pair (.int .i64) (.pair (.int .i64) (.pair (.sl (.pair (.int .i64) (.pair .str .unit))) .unit)))))] 0 x) (z6m (.v (.pair (.sl (.pair .str (.pair (.int .i64) (.pair (.int .i64) (.pair (.sl (.pair (.int .i64) (.pair .str .unit))) .unit))))) (.pair (.int .i64) .unit))) 2) = z2j N x.1 x.2.1 := by kernel_rfl

def zax (N : Nat) : List A -> Res := z2x [(0, .v (.pair (.sl (.pair .str (.pair (.int .i64) (.pair (.int .i64) (.pair (.sl (.pair (.int .i64) (.pair .str .unit))) .unit))))) (.pair (.int .i64) .unit))), (0, .v (.pair .str (.pair (.int .i64) (.pair (.int .i64) (.pair (.sl (.pair (.int .i64) (.pair .str .unit))) .unit)))))] (fun x => z2j N x.1 x.2.1) (zfu (.v (.pair (.sl (.pair .str (.pair (.int .i64) (.pair (.int .i64) (.pair (.sl (.pair (.int .i64) (.pair .str .unit))) .unit))))) (.pair (.int .i64) .unit))) 2)

theorem zlu (N : Nat) : Contract Go.Proofs.Try.prog z12 25 (zax N) :=
  Contract.of (E := z2d N) (H := zde N) (L := z2s) (N := N) (body := z1e) (K := (z6m (.v (.pair (.sl (.pair .str (.pair (.int .i64) (.pair (.int .i64) (.pair (.sl (.pair (.int .i64) (.pair .str .unit))) .unit))))) (.pair (.int .i64) .unit))) 2)) (zka N) Go.Proofs.Try.func25 (by kernel_rfl) (by decide) (fun _ hb => (TabOk.cons (zk9 hb) TabOk.nil)) (fun x y h => by rw [zi5]; exact h) (z22 (s := (.v (.pair (.sl (.pair .str (.pair (.int .i64) (.pair (.int .i64) (.pair (.sl (.pair (.int .i64) (.pair .str .unit))) .unit))))) (.pair (.int .i64) .unit)))) (m := 2))

def z55 : Code := (Go.Proofs.Try.f26.body).getD .skip

def z80 : List (List Nat × List Nat) := [([0], [0, 1]), ([0, 0, 1], [5, 0, 1]), ([0, 1, 0, 1], [5, 0, 1]), ([0, 0, 0, 0, 1, 0, 1], [9, 0, 5, 1]), ([1, 0, 0, 0, 1, 0, 1], [0, 5, 1]), ([1, 1, 0, 0, 0, 1, 0, 1], []), ([0, 0, 0, 1, 0, 0, 1, 0, 1], [18, 5, 0, 1]), ([1, 0, 0, 1, 0, 0, 1, 0, 1], [5, 0, 1]), ([0, 0, 1, 0, 0, 1, 0, 0, 1, 0, 1], [4]), ([1, 0, 1, 0, 0, 1, 0, 0, 1, 0, 1], [4]), ([0, 1, 0, 0, 1, 0, 1], [5, 0, 1]), ([1, 1, 0, 0, 1, 0, 1], [5, 0, 1]), ([1, 0, 1], []), ([0, 1, 1], [4]), ([1, 1, 1], [4])]

def z4w (N : Nat) : Env := z5o tys z12 [] [] [] [] false [] []

theorem zkc (N : Nat) : EnvOk Go.Proofs.Try.prog (z4w N) := z1k mixed z2v (FnsOk.nil) (ItsOk.nil)

def z6u (N : Nat) (l : (List (Int × ((List UInt8) × Unit)))) (num : Int) (i : Int) (rec : Int -> Option Int) (k0 : Int -> Option Int) (k1 : Option Int) : Option Int :=
 cond (decide (i < (((List.length l) : Nat) : Int)))
 (cond (Go.Lift.inR i (List.length l))
 (cond ((List.getD l (Int.toNat i) ((0 : Int), (([] : List UInt8), ()))).1 == num)
 (k0 i)
 (rec (Go.IntKind.wrap Go.IntKind.i64 (i + (1 : Int)))))
 (none))
 (k1)

def zco (N : Nat) (l : (List (Int × ((List UInt8) × Unit)))) (num : Int) (i : Int) (k0 : Int -> Option Int) (k1 : Option Int) : Option Int :=
 iter (fun (v : Int) r => z6u N l num v (fun i => (r i)) k0 k1) N i

def zcq (N : Nat) (i : ((List (Int × ((List UInt8) × Unit))) × Int)) (v : Int) (r : Int -> Option Int) (K : Ex -> List A -> Option Int) : Option Int :=
 z6u N i.1 i.2 v (fun i => (r i)) (fun a0 => (K .ret (mkS [(4, .v (.int .i64))] 15 (a0, ())))) (K (.exit 0) (mkS [] 20 ()))

def zcp (N : Nat) : Hd Int := fun st K => (unS [(0, .v (.sl (.pair (.int .i64) (.pair .str .unit)))), (0, .v (.int .i64)), (3, .v (.int .i64))] 14 (restr [5, 0, 1] 0 st)).bind fun x => iter (fun v r => zcq N ((fun x => (x.1, x.2.1)) x) v r K) N ((fun x => x.2.2.1) x)

def zlv (N : Nat) : Tab Int := []

theorem zkb {N : Nat} {c : Ctx} (hb : Base Go.Proofs.Try.prog (z4w N) c) : zu Go.Proofs.Try.prog c (zf z55 [0, 1, 0, 1]) (zcp N) :=
  z4m (s := [(0, .v (.sl (.pair (.int .i64) (.pair .str .unit)))), (0, .v (.int .i64)), (3, .v (.int .i64))]) (m := 14) (zcq N) [5, 0, 1] N (fun x => (x.1, x.2.1)) (fun x => x.2.2.1) (fun i v => (i.1, i.2, v, ())) (fun _ => rfl) (z7 hb N (zlv N) z80 z55 TabOk.nil [0, 0, 1, 0, 1] _ rfl) (fun i v r K => by kernel_rfl)

def z4i (N : Nat) (l : (List (Int × ((List UInt8) × Unit)))) (num : Int) : Option Int :=
 zco N l num (0 : Int)
 (fun x4 => some x4)
 (some (-(1 : Int)))

def zdf (N : Nat) : Tab Int := [([0, 1, 0, 1], zcp N)]

theorem zi6 (N : Nat) (x : z2b [(0, .v (.sl (.pair (.int .i64) (.pair .str .unit)))), (0, .v (.int .i64))]) : zft (z4w N) N (zdf N) z80 Go.Proofs.Try.f26 (mkS [(0, .v (.sl (.pair (.int .i64) (.pair .str .unit)))), (0, .v (.int .i64))] 0 x) (z6m (.v (.int .i64)) 2) = z4i N x.1 x.2.1 := by kernel_rfl

def zay (N : Nat) : List A -> Res := z2x [(0, .v (.sl (.pair (.int .i64) (.pair .str .unit)))), (0, .v (.int .i64))] (fun x => z4i N x.1 x.2.1) (zfu (.v (.int .i64)) 2)

theorem zlw (N : Nat) : Contract Go.Proofs.Try.prog z12 26 (zay N) :=
  Contract.of (E := z4w N) (H := zdf N) (L := z80) (N := N) (body := z55) (K := (z6m (.v (.int .i64)) 2)) (zkc N) Go.Proofs.Try.func26 (by kernel_rfl) (by decide) (fun _ hb => (TabOk.cons (zkb hb) TabOk.nil)) (fun x y h => by rw [zi6]; exact h) (z22 (s := (.v (.int .i64))) (m := 2))

def z1c : Code := (Go.Proofs.Try.f27.body).getD .skip

def z2p : List (List Nat × List Nat) := [([0], [0, 3]), ([0, 1], [0, 3, 5]), ([0, 1, 1], [0, 6, 3, 5]), ([0, 0, 1, 1, 1], [7, 0, 6, 3, 5]), ([0, 1, 0, 1, 1, 1], [7, 0, 6, 3, 5]), ([0, 0, 0, 0, 1, 0, 1, 1, 1], [11, 6, 0, 7, 3, 5]), ([1, 0, 0, 0, 1, 0, 1, 1, 1], [6, 0, 7, 3, 5]), ([1, 1, 0, 0, 0, 1, 0, 1, 1, 1], [6, 5, 3]), ([0, 0, 0, 0, 1, 0, 0, 1, 0, 1, 1, 1], [25, 5, 3, 0, 7, 6]), ([1, 0, 0, 0, 1, 0, 0, 1, 0, 1, 1, 1], [5, 0, 7, 6, 3]), ([0, 0, 1, 0, 0, 0, 1, 0, 0, 1, 0, 1, 1, 1], [5, 0, 7, 3]), ([1, 0, 1, 0, 0, 0, 1, 0, 0, 1, 0, 1, 1, 1], [5, 0, 7, 6, 3]), ([1, 0, 0, 1, 0, 0, 1, 0, 1, 1, 1], [7, 0, 6, 3, 5]), ([0, 1, 0, 0, 1, 0, 1, 1, 1], [7, 0, 6, 3, 5]), ([1, 1, 0, 0, 1, 0, 1, 1, 1], [7, 0, 6, 3, 5]), ([1, 0, 1, 1, 1], [6, 5, 3]), ([0, 0, 1, 1, 1, 1], [38, 5, 3]), ([1, 0, 1, 1, 1, 1], [5]), ([0, 1, 0, 1, 1, 1, 1], [5]), ([0, 1, 1, 1, 1, 1], [4]), ([1, 1, 1, 1, 1, 1], [4])]

def z26 (N : Nat) : Env := z5o tys z12 [] [(5, (.pair (.int .i64) (.pair .str .unit))), (4, (.pair (.int .i64) (.pair .str .unit)))] [] [] false [] []

theorem zi4 (N : Nat) : EnvOk Go.Proofs.Try.prog (z26 N) := z1k mixed z2v (FnsOk.nil) (ItsOk.nil)

def z61 (N : Nat) (l : (List (Int × ((List UInt8) × Unit)))) (k : (Int × ((List UInt8) × Unit))) (out : (List (Int × ((List UInt8) × Unit)))) (done : Bool) (i : Int) (k0 : Bool -> Option (List (Int × ((List UInt8) × Unit)))) : Option (List (Int × ((List UInt8) × Unit))) :=
 cond (!done)
 (cond (Go.Lift.inR i (List.length l))
 (k0 (decide (k.1 < (List.getD l (Int.toNat i) ((0 : Int), (([] : List UInt8), ()))).1)))
 (none))
 (k0 false)

def zat (N : Nat) (x : z2b [(0, .v (.sl (.pair (.int .i64) (.pair .str .unit)))), (2, .box (.pair (.int .i64) (.pair .str .unit))), (1, .row (.pair (.int .i64) (.pair .str .unit))), (0, .v .bool), (0, .v (.int .i64))]) (K : Ex -> List A -> Option (List (Int × ((List UInt8) × Unit)))) : Option (List (Int × ((List UInt8) × Unit))) :=
 z61 N x.1 x.2.1 x.2.2.1 x.2.2.2.1 x.2.2.2.2.1 (fun a5 => (K .normal (mkS [(0, .v (.sl (.pair (.int .i64) (.pair .str .unit)))), (2, .box (.pair (.int .i64) (.pair .str .unit))), (1, .row (.pair (.int .i64) (.pair .str .unit))), (0, .v .bool), (0, .v (.int .i64)), (17, .v .bool)] 18 (x.1, x.2.1, x.2.2.1, x.2.2.2.1, x.2.2.2.2.1, a5, ()))))

def zap (N : Nat) : Hd (List (Int × ((List UInt8) × Unit))) := fun st K => (unS [(0, .v (.sl (.pair (.int .i64) (.pair .str .unit)))), (2, .box (.pair (.int .i64) (.pair .str .unit))), (1, .row (.pair (.int .i64) (.pair .str .unit))), (0, .v .bool), (0, .v (.int .i64))] 36 (restr [6, 0, 7, 3, 5] 0 st)).bind fun x => zat N x K

def zk1 (N : Nat) : Tab (List (Int × ((List UInt8) × Unit))) := []

theorem zi0 {N : Nat} {c : Ctx} (hb : Base Go.Proofs.Try.prog (z26 N) c) : zu Go.Proofs.Try.prog c (zf z1c [0, 0, 0, 0, 1, 0, 0, 1, 0, 1, 1, 1]) (zap N) :=
  zp (s := [(0, .v (.sl (.pair (.int .i64) (.pair .str .unit)))), (2, .box (.pair (.int .i64) (.pair .str .unit))), (1, .row (.pair (.int .i64) (.pair .str .unit))), (0, .v .bool), (0, .v (.int .i64))]) (m := 36) (g := zat N) [6, 0, 7, 3, 5] (z7 hb N (zk1 N) z2p z1c TabOk.nil [0, 0, 0, 0, 1, 0, 0, 1, 0, 1, 1, 1] _ rfl) (fun x K => by kernel_rfl)

def z62 (N : Nat) (l : (List (Int × ((List UInt8) × Unit)))) (k : (Int × ((List UInt8) × Unit))) (out : (List (Int × ((List UInt8) × Unit)))) (done : Bool) (i : Int) (k0 : (List (Int × ((List UInt8) × Unit))) -> Bool -> Option (List (Int × ((List UInt8) × Unit)))) : Option (List (Int × ((List UInt8) × Unit))) :=
 z61 N l k out done i
 (fun x25 => cond x25
 (cond (decide ((((List.length out) + 1) * 24) <= 70368744177664))
 (k0 (out ++ ([k] : List (Int × ((List UInt8) × Unit)))) true)
 (none))
 (k0 out done))

def zau (N : Nat) (x : z2b [(0, .v (.sl (.pair (.int .i64) (.pair .str .unit)))), (2, .box (.pair (.int .i64) (.pair .str .unit))), (1, .row (.pair (.int .i64) (.pair .str .unit))), (0, .v .bool), (0, .v (.int .i64))]) (K : Ex -> List A -> Option (List (Int × ((List UInt8) × Unit)))) : Option (List (Int × ((List UInt8) × Unit))) :=
 z62 N x.1 x.2.1 x.2.2.1 x.2.2.2.1 x.2.2.2.2.1 (fun a2 a3 => (K .normal (mkS [(0, .v (.sl (.pair (.int .i64) (.pair .str .unit)))), (2, .box (.pair (.int .i64) (.pair .str .unit))), (1, .row (.pair (.int .i64) (.pair .str .unit))), (0, .v .bool), (0, .v (.int .i64))] 36 (x.1, x.2.1, a2, a3, x.2.2.2.2.1, ()))))

def zaq (N : Nat) : Hd (List (Int × ((List UInt8) × Unit))) := fun st K => (unS [(0, .v (.sl (.pair (.int .i64) (.pair .str .unit)))), (2, .box (.pair (.int .i64) (.pair .str .unit))), (1, .row (.pair (.int .i64) (.pair .str .unit))), (0, .v .bool), (0, .v (.int .i64))] 36 (restr [6, 0, 7, 3, 5] 0 st)).bind fun x => zau N x K

def zk2 (N : Nat) : Tab (List (Int × ((List UInt8) × Unit))) := [([0, 0, 0, 0, 1, 0, 0, 1, 0, 1, 1, 1], zap N)]

theorem zi1 {N : Nat} {c : Ctx} (hb : Base Go.Proofs.Try.prog (z26 N) c) : zu Go.Proofs.Try.prog c (zf z1c [0, 0, 0, 1, 0, 0, 1, 0, 1, 1, 1]) (zaq N) :=
  zp (s := [(0, .v (.sl (.pair (.int .i64) (.pair .str .unit)))), (2, .box (.pair (.int .i64) (.pair .str .unit))), (1, .row (.pair (.int .i64) (.pair .str .unit))), (0, .v .bool), (0, .v (.int .i64))]) (m := 36) (g := zau N) [6, 0, 7, 3, 5] (z7 hb N (zk2 N) z2p z1c (TabOk.cons (zi0 hb) TabOk.nil) [0, 0, 0, 1, 0, 0, 1, 0, 1, 1, 1] _ rfl) (fun x K => by kernel_rfl)

def z63 (N : Nat) (l : (List (Int × ((List UInt8) × Unit)))) (k : (Int × ((List UInt8) × Unit))) (out : (List (Int × ((List UInt8) × Unit)))) (done : Bool) (i : Int) (k0 : (List (Int × ((List UInt8) × Unit))) -> Bool -> Option (List (Int × ((List UInt8) × Unit)))) : Option (List (Int × ((List UInt8) × Unit))) :=
 z62 N l k out done i
 (fun out1 done1 => cond (Go.Lift.inR i (List.length l))
 (cond (decide ((((List.length out1) + 1) * 24) <= 70368744177664))
 (k0 (out1 ++ ([(List.getD l (Int.toNat i) ((0 : Int), (([] : List UInt8), ())))] : List (Int × ((List UInt8) × Unit)))) done1)
 (none))
 (none))

def zav (N : Nat) (x : z2b [(0, .v (.sl (.pair (.int .i64) (.pair .str .unit)))), (2, .box (.pair (.int .i64) (.pair .str .unit))), (1, .row (.pair (.int .i64) (.pair .str .unit))), (0, .v .bool), (0, .v (.int .i64))]) (K : Ex -> List A -> Option (List (Int × ((List UInt8) × Unit)))) : Option (List (Int × ((List UInt8) × Unit))) :=
 z63 N x.1 x.2.1 x.2.2.1 x.2.2.2.1 x.2.2.2.2.1 (fun a2 a3 => (K .normal (mkS [(0, .v (.sl (.pair (.int .i64) (.pair .str .unit)))), (2, .box (.pair (.int .i64) (.pair .str .unit))), (1, .row (.pair (.int .i64) (.pair .str .unit))), (0, .v .bool), (0, .v (.int .i64))] 36 (x.1, x.2.1, a2, a3, x.2.2.2.2.1, ()))))

def zar (N : Nat) : Hd (List (Int × ((List UInt8) × Unit))) := fun st K => (unS [(0, .v (.sl (.pair (.int .i64) (.pair .str .unit)))), (2, .box (.pair (.int .i64) (.pair .str .unit))), (1, .row (.pair (.int .i64) (.pair .str .unit))), (0, .v .bool), (0, .v (.int .i64))] 36 (restr [6, 0, 7, 3, 5] 0 st)).bind fun x => zav N x K

def zk3 (N : Nat) : Tab (List (Int × ((List UInt8) × Unit))) := [([0, 0, 0, 1, 0, 0, 1, 0, 1, 1, 1], zaq N)]

theorem zi2 {N : Nat} {c : Ctx} (hb : Base Go.Proofs.Try.prog (z26 N) c) : zu Go.Proofs.Try.prog c (zf z1c [0, 1, 0, 0, 1, 0, 1, 1, 1]) (zar N) :=
  zp (s := [(0, .v (.sl (.pair (.int .i64) (.pair .str .unit)))), (2, .box (.pair (.int .i64) (.pair .str .unit))), (1, .row (.pair (.int .i64) (.pair .str .unit))), (0, .v .bool), (0, .v (.int .i64))]) (m := 36) (g := zav N) [6, 0, 7, 3, 5] (z7 hb N (zk3 N) z2p z1c (TabOk.cons (zi1 hb) TabOk.nil) [0, 1, 0, 0, 1, 0, 1, 1, 1] _ rfl) (fun x K => by kernel_rfl)

def z60 (N : Nat) (l : (List (Int × ((List UInt8) × Unit)))) (k : (Int × ((List UInt8) × Unit))) (out : (List (Int × ((List UInt8) × Unit)))) (done : Bool) (i : Int) (rec : (List (Int × ((List UInt8) × Unit))) -> Bool -> Int -> Option (List (Int × ((List UInt8) × Unit)))) (k0 : (List (Int × ((List UInt8) × Unit))) -> Bool -> Option (List (Int × ((List UInt8) × Unit)))) : Option (List (Int × ((List UInt8) × Unit))) :=
 cond (decide (i < (((List.length l) : Nat) : Int)))
 (z63 N l k out done i
 (fun out1 done1 => rec out1 done1 (Go.IntKind.wrap Go.IntKind.i64 (i + (1 : Int)))))
 (k0 out done)

def zao (N : Nat) (l : (List (Int × ((List UInt8) × Unit)))) (k : (Int × ((List UInt8) × Unit))) (out : (List (Int × ((List UInt8) × Unit)))) (done : Bool) (i : Int) (k0 : (List (Int × ((List UInt8) × Unit))) -> Bool -> Option (List (Int × ((List UInt8) × Unit)))) : Option (List (Int × ((List UInt8) × Unit))) :=
 iter (fun (v : ((List (Int × ((List UInt8) × Unit))) × Bool × Int)) r => z60 N l k v.1 v.2.1 v.2.2 (fun out done i => (r (out, done, i))) k0) N (out, done, i)

def zaw (N : Nat) (i : ((List (Int × ((List UInt8) × Unit))) × (Int × ((List UInt8) × Unit)))) (v : ((List (Int × ((List UInt8) × Unit))) × Bool × Int)) (r : ((List (Int × ((List UInt8) × Unit))) × Bool × Int) -> Option (List (Int × ((List UInt8) × Unit)))) (K : Ex -> List A -> Option (List (Int × ((List UInt8) × Unit)))) : Option (List (Int × ((List UInt8) × Unit))) :=
 z60 N i.1 i.2 v.1 v.2.1 v.2.2 (fun out done i => (r (out, done, i))) (fun a1 a2 => (K (.exit 0) (mkS [(3, .box (.pair (.int .i64) (.pair .str .unit))), (1, .row (.pair (.int .i64) (.pair .str .unit))), (0, .v .bool)] 37 (i.2, a1, a2, ()))))

def zas (N : Nat) : Hd (List (Int × ((List UInt8) × Unit))) := fun st K => (unS [(0, .v (.sl (.pair (.int .i64) (.pair .str .unit)))), (2, .box (.pair (.int .i64) (.pair .str .unit))), (1, .row (.pair (.int .i64) (.pair .str .unit))), (0, .v .bool), (0, .v (.int .i64))] 36 (restr [7, 0, 6, 3, 5] 0 st)).bind fun x => iter (fun v r => zaw N ((fun x => (x.1, x.2.1)) x) v r K) N ((fun x => (x.2.2.1, x.2.2.2.1, x.2.2.2.2.1)) x)

def zk4 (N : Nat) : Tab (List (Int × ((List UInt8) × Unit))) := [([0, 1, 0, 0, 1, 0, 1, 1, 1], zar N)]

theorem zi3 {N : Nat} {c : Ctx} (hb : Base Go.Proofs.Try.prog (z26 N) c) : zu Go.Proofs.Try.prog c (zf z1c [0, 1, 0, 1, 1, 1]) (zas N) :=
  z4m (s := [(0, .v (.sl (.pair (.int .i64) (.pair .str .unit)))), (2, .box (.pair (.int .i64) (.pair .str .unit))), (1, .row (.pair (.int .i64) (.pair .str .unit))), (0, .v .bool), (0, .v (.int .i64))]) (m := 36) (zaw N) [7, 0, 6, 3, 5] N (fun x => (x.1, x.2.1)) (fun x => (x.2.2.1, x.2.2.2.1, x.2.2.2.2.1)) (fun i v => (i.1, i.2, v.1, v.2.1, v.2.2, ())) (fun _ => rfl) (z7 hb N (zk4 N) z2p z1c (TabOk.cons (zi2 hb) TabOk.nil) [0, 0, 1, 0, 1, 1, 1] _ rfl) (fun i v r K => by kernel_rfl)

def z43 (N : Nat) (l : (List (Int × ((List UInt8) × Unit)))) (k : (Int × ((List UInt8) × Unit))) : Option (List (Int × ((List UInt8) × Unit))) :=
 zao N l k ([] : List (Int × ((List UInt8) × Unit))) false (0 : Int)
 (fun out done => cond (!done)
 (cond (decide ((((List.length out) + 1) * 24) <= 70368744177664))
 (some (out ++ ([k] : List (Int × ((List UInt8) × Unit)))))
 (none))
 (some out))

def zce (N : Nat) : Tab (List (Int × ((List UInt8) × Unit))) := [([0, 1, 0, 1, 1, 1], zas N)]

theorem zgc (N : Nat) (x : z2b [(0, .v (.sl (.pair (.int .i64) (.pair .str .unit)))), (0, .v (.pair (.int .i64) (.pair .str .unit)))]) : zft (z26 N) N (zce N) z2p Go.Proofs.Try.f27 (mkS [(0, .v (.sl (.pair (.int .i64) (.pair .str .unit)))), (0, .v (.pair (.int .i64) (.pair .str .unit)))] 0 x) (z6m (.v (.sl (.pair (.int .i64) (.pair .str .unit)))) 2) = z43 N x.1 x.2.1 := by kernel_rfl

def z8u (N : Nat) : List A -> Res := z2x [(0, .v (.sl (.pair (.int .i64) (.pair .str .unit)))), (0, .v (.pair (.int .i64) (.pair .str .unit)))] (fun x => z43 N x.1 x.2.1) (zfu (.v (.sl (.pair (.int .i64) (.pair .str .unit)))) 2)

theorem zk5 (N : Nat) : Contract Go.Proofs.Try.prog z12 27 (z8u N) :=
  Contract.of (E := z26 N) (H := zce N) (L := z2p) (N := N) (body := z1c) (K := (z6m (.v (.sl (.pair (.int .i64) (.pair .str .unit)))) 2)) (zi4 N) Go.Proofs.Try.func27 (by kernel_rfl) (by decide) (fun _ hb => (TabOk.cons (zi3 hb) TabOk.nil)) (fun x y h => by rw [zgc]; exact h) (z22 (s := (.v (.sl (.pair (.int .i64) (.pair .str .unit))))) (m := 2))

def zw : Code := (Go.Proofs.Try.f9.body).getD .skip

def z1z : List (List Nat × List Nat) := [([0], [2, 4, 3]), ([0, 0, 1], [11, 4, 3, 2]), ([1, 0, 1], [3, 4, 2]), ([0, 0, 1, 0, 1], [4, 5]), ([1, 0, 1, 0, 1], [4, 5]), ([0, 0, 1, 1], [15, 4, 3, 2]), ([1, 0, 1, 1], [3, 2, 4]), ([0, 0, 1, 0, 1, 1], [4, 5]), ([1, 0, 1, 0, 1, 1], [4, 5]), ([0, 0, 1, 1, 1], [19, 3, 2, 4]), ([1, 0, 1, 1, 1], [2, 3, 4]), ([0, 0, 0, 1, 0, 1, 1, 1], [24, 4, 2, 3]), ([1, 0, 0, 1, 0, 1, 1, 1], [2, 3, 4]), ([0, 0, 1, 0, 0, 1, 0, 1, 1, 1], [4, 5]), ([1, 0, 1, 0, 0, 1, 0, 1, 1, 1], [4, 5]), ([0, 1, 0, 1, 0, 1, 1, 1], [4, 5]), ([1, 1, 0, 1, 0, 1, 1, 1], [4, 5]), ([0, 1, 1, 1, 1], [3, 6, 2, 4]), ([0, 1, 1, 1, 1, 1], [6, 2, 7, 3, 4]), ([0, 0, 1, 1, 1, 1, 1, 1], [39, 2, 6, 7, 3, 4]), ([1, 0, 1, 1, 1, 1, 1, 1], [3, 6, 2, 4, 7]), ([0, 1, 0, 1, 1, 1, 1, 1, 1], [3, 6, 2, 4, 7]), ([0, 0, 1, 1, 1, 1, 1, 1, 1], [47, 6, 2, 4, 3, 7]), ([1, 0, 1, 1, 1, 1, 1, 1, 1], [6, 4, 7, 3, 2]), ([0, 0, 0, 1, 0, 1, 1, 1, 1, 1, 1, 1], [55, 4, 3, 7, 2]), ([1, 0, 0, 1, 0, 1, 1, 1, 1, 1, 1, 1], [3, 7, 4, 2]), ([0, 0, 1, 0, 0, 1, 0, 1, 1, 1, 1, 1, 1, 1], [4, 5]), ([1, 0, 1, 0, 0, 1, 0, 1, 1, 1, 1, 1, 1, 1], [4, 5]), ([0, 0, 1, 0, 1, 0, 1, 1, 1, 1, 1, 1, 1], [68, 4, 3, 7, 2]), ([1, 0, 1, 0, 1, 0, 1, 1, 1, 1, 1, 1, 1], [3, 7, 2, 4]), ([0, 0, 1, 0, 1, 0, 1, 0, 1, 1, 1, 1, 1, 1, 1], [4, 5]), ([1, 0, 1, 0, 1, 0, 1, 0, 1, 1, 1, 1, 1, 1, 1], [4, 5]), ([0, 1, 1, 0, 1, 0, 1, 1, 1, 1, 1, 1, 1], [3, 7, 2, 4]), ([0, 1, 1, 1, 0, 1, 0, 1, 1, 1, 1, 1, 1, 1], [2, 7, 4]), ([0, 1, 1, 1, 1, 0, 1, 0, 1, 1, 1, 1, 1, 1, 1], [4, 5]), ([1, 1, 1, 1, 1, 0, 1, 0, 1, 1, 1, 1, 1, 1, 1], [4, 5]), ([0, 0, 1, 1, 1, 1, 1, 1, 1, 1], [80, 4, 7, 3, 2]), ([1, 0, 1, 1, 1, 1, 1, 1, 1, 1], [7, 3, 4, 2]), ([0, 0, 1, 0, 1, 1, 1, 1, 1, 1, 1, 1], [4, 5]), ([1, 0, 1, 0, 1, 1, 1, 1, 1, 1, 1, 1], [4, 5]), ([0, 1, 1, 1, 1, 1, 1, 1, 1, 1], [3, 8, 4, 7, 2]), ([0, 0, 1, 1, 1, 1, 1, 1, 1, 1, 1, 1], [89, 8, 4, 7, 2, 3]), ([1, 0, 1, 1, 1, 1, 1, 1, 1, 1, 1, 1], [3, 7, 4, 8, 2]), ([0, 0, 0, 1, 0, 1, 1, 1, 1, 1, 1, 1, 1, 1, 1], [91, 4, 7, 8, 2]), ([1, 0, 0, 1, 0, 1, 1, 1, 1, 1, 1, 1, 1, 1, 1], [7, 8, 2, 4]), ([0, 0, 1, 0, 0, 1, 0, 1, 1, 1, 1, 1, 1, 1, 1, 1, 1], [4, 5]), ([1, 0, 1, 0, 0, 1, 0, 1, 1, 1, 1, 1, 1, 1, 1, 1, 1], [4, 5]), ([0, 1, 0, 1, 0, 1, 1, 1, 1, 1, 1, 1, 1, 1, 1], [2, 7, 4]), ([0, 1, 1, 0, 1, 0, 1, 1, 1, 1, 1, 1, 1, 1, 1, 1], [4, 5]), ([1, 1, 1, 0, 1, 0, 1, 1, 1, 1, 1, 1, 1, 1, 1, 1], [4, 5]), ([0, 0, 1, 1, 1, 1, 1, 1, 1, 1, 1, 1, 1], [113, 4, 8, 7, 3, 2]), ([1, 0, 1, 1, 1, 1, 1, 1, 1, 1, 1, 1, 1], [8, 4, 7, 3, 2]), ([0, 0, 1, 0, 1, 1, 1, 1, 1, 1, 1, 1, 1, 1, 1], [4, 5]), ([1, 0, 1, 0, 1, 1, 1, 1, 1, 1, 1, 1, 1, 1, 1], [4, 5]), ([0, 0, 1, 1, 1, 1, 1, 1, 1, 1, 1, 1, 1, 1], [116, 4, 7, 3, 2]), ([1, 0, 1, 1, 1, 1, 1, 1, 1, 1, 1, 1, 1, 1], [7, 4, 3, 2]), ([0, 0, 1, 0, 1, 1, 1, 1, 1, 1, 1, 1, 1, 1, 1, 1], [4, 5]), ([1, 0, 1, 0, 1, 1, 1, 1, 1, 1, 1, 1, 1, 1, 1, 1], [4, 5]), ([0, 0, 1, 1, 1, 1, 1, 1, 1, 1, 1, 1, 1, 1, 1], [121, 4, 7, 3, 2]), ([1, 0, 1, 1, 1, 1, 1, 1, 1, 1, 1, 1, 1, 1, 1], [7, 3, 2, 4]), ([0, 0, 1, 0, 1, 1, 1, 1, 1, 1, 1, 1, 1, 1, 1, 1, 1], [4, 5]), ([1, 0, 1, 0, 1, 1, 1, 1, 1, 1, 1, 1, 1, 1, 1, 1, 1], [4, 5]), ([0, 1, 1, 1, 1, 1, 1, 1, 1, 1, 1, 1, 1, 1, 1], [2, 7, 4]), ([0, 1, 1, 1, 1, 1, 1, 1, 1, 1, 1, 1, 1, 1, 1, 1], [4, 5]), ([1, 1, 1, 1, 1, 1, 1, 1, 1, 1, 1, 1, 1, 1, 1, 1], [4, 5])]

def z1p (N : Nat) : Env := z5o tys z12 [(27, z8u N), (26, zay N), (25, zax N), (22, z9l N), (13, z5j N), (11, z4j N)] [] [] [] false [] []

theorem zgy (N : Nat) : EnvOk Go.Proofs.Try.prog (z1p N) := z1k mixed z2v (FnsOk.cons (zk5 N) (FnsOk.cons (zlw N) (FnsOk.cons (zlu N) (FnsOk.cons (zki N) (FnsOk.cons (zb5 N) (FnsOk.cons (z9d N) (FnsOk.nil))))))) (ItsOk.nil)

def z5k (N : Nat) (s : ((List ((List UInt8) × (Int × (Int × ((List (Int × ((List UInt8) × Unit))) × Unit))))) × (Int × Unit))) (e : (Int × ((List UInt8) × (Int × (Int × ((List UInt8) × Unit)))))) (x4 : ((List ((List UInt8) × (Int × (Int × ((List (Int × ((List UInt8) × Unit))) × Unit))))) × (Int × Unit))) (at_ : Int) (t : ((List UInt8) × (Int × (Int × ((List (Int × ((List UInt8) × Unit))) × Unit))))) (k0 : ((List UInt8) × (Int × (Int × ((List (Int × ((List UInt8) × Unit))) × Unit)))) -> Option (((List ((List UInt8) × (Int × (Int × ((List (Int × ((List UInt8) × Unit))) × Unit))))) × (Int × Unit)) × Int × Unit)) : Option (((List ((List UInt8) × (Int × (Int × ((List (Int × ((List UInt8) × Unit))) × Unit))))) × (Int × Unit)) × Int × Unit) :=
 cond (decide ((0 : Int) <= at_))
 (cond (Go.Lift.inR at_ (List.length s.1))
 (k0 (List.getD s.1 (Int.toNat at_) (([] : List UInt8), ((0 : Int), ((0 : Int), (([] : List (Int × ((List UInt8) × Unit))), ()))))))
 (none))
 (k0 t)

def z9v (N : Nat) (x : z2b [(2, .box (.pair (.sl (.pair .str (.pair (.int .i64) (.pair (.int .i64) (.pair (.sl (.pair (.int .i64) (.pair .str .unit))) .unit))))) (.pair (.int .i64) .unit))), (0, .box (.pair (.int .i64) (.pair .str (.pair (.int .i64) (.pair (.int .i64) (.pair .str .unit)))))), (0, .box (.pair (.sl (.pair .str (.pair (.int .i64) (.pair (.int .i64) (.pair (.sl (.pair (.int .i64) (.pair .str .unit))) .unit))))) (.pair (.int .i64) .unit))), (1, .v (.int .i64)), (0, .box (.pair .str (.pair (.int .i64) (.pair (.int .i64) (.pair (.sl (.pair (.int .i64) (.pair .str .unit))) .unit)))))]) (K : Ex -> List A -> Option (((List ((List UInt8) × (Int × (Int × ((List (Int × ((List UInt8) × Unit))) × Unit))))) × (Int × Unit)) × Int × Unit)) : Option (((List ((List UInt8) × (Int × (Int × ((List (Int × ((List UInt8) × Unit))) × Unit))))) × (Int × Unit)) × Int × Unit) :=
 z5k N x.1 x.2.1 x.2.2.1 x.2.2.2.1 x.2.2.2.2.1 (fun a4 => (K .normal (mkS [(2, .box (.pair (.sl (.pair .str (.pair (.int .i64) (.pair (.int .i64) (.pair (.sl (.pair (.int .i64) (.pair .str .unit))) .unit))))) (.pair (.int .i64) .unit))), (0, .box (.pair (.int .i64) (.pair .str (.pair (.int .i64) (.pair (.int .i64) (.pair .str .unit)))))), (0, .box (.pair (.sl (.pair .str (.pair (.int .i64) (.pair (.int .i64) (.pair (.sl (.pair (.int .i64) (.pair .str .unit))) .unit))))) (.pair (.int .i64) .unit))), (1, .v (.int .i64)), (0, .box (.pair .str (.pair (.int .i64) (.pair (.int .i64) (.pair (.sl (.pair (.int .i64) (.pair .str .unit))) .unit)))))] 127 (x.1, x.2.1, x.2.2.1, x.2.2.2.1, a4, ()))))

def z9q (N : Nat) : Hd (((List ((List UInt8) × (Int × (Int × ((List (Int × ((List UInt8) × Unit))) × Unit))))) × (Int × Unit)) × Int × Unit) := fun st K => (unS [(2, .box (.pair (.sl (.pair .str (.pair (.int .i64) (.pair (.int .i64) (.pair (.sl (.pair (.int .i64) (.pair .str .unit))) .unit))))) (.pair (.int .i64) .unit))), (0, .box (.pair (.int .i64) (.pair .str (.pair (.int .i64) (.pair (.int .i64) (.pair .str .unit)))))), (0, .box (.pair (.sl (.pair .str (.pair (.int .i64) (.pair (.int .i64) (.pair (.sl (.pair (.int .i64) (.pair .str .unit))) .unit))))) (.pair (.int .i64) .unit))), (1, .v (.int .i64)), (0, .box (.pair .str (.pair (.int .i64) (.pair (.int .i64) (.pair (.sl (.pair (.int .i64) (.pair .str .unit))) .unit)))))] 127 (restr [6, 2, 7, 3, 4] 0 st)).bind fun x => z9v N x K

def ziu (N : Nat) : Tab (((List ((List UInt8) × (Int × (Int × ((List (Int × ((List UInt8) × Unit))) × Unit))))) × (Int × Unit)) × Int × Unit) := []

theorem zgx {N : Nat} {c : Ctx} (hb : Base Go.Proofs.Try.prog (z1p N) c) : zu Go.Proofs.Try.prog c (zf zw [0, 1, 1, 1, 1, 1, 1]) (z9q N) :=
  zp (s := [(2, .box (.pair (.sl (.pair .str (.pair (.int .i64) (.pair (.int .i64) (.pair (.sl (.pair (.int .i64) (.pair .str .unit))) .unit))))) (.pair (.int .i64) .unit))), (0, .box (.pair (.int .i64) (.pair .str (.pair (.int .i64) (.pair (.int .i64) (.pair .str .unit)))))), (0, .box (.pair (.sl (.pair .str (.pair (.int .i64) (.pair (.int .i64) (.pair (.sl (.pair (.int .i64) (.pair .str .unit))) .unit))))) (.pair (.int .i64) .unit))), (1, .v (.int .i64)), (0, .box (.pair .str (.pair (.int .i64) (.pair (.int .i64) (.pair (.sl (.pair (.int .i64) (.pair .str .unit))) .unit)))))]) (m := 127) (g := z9v N) [6, 2, 7, 3, 4] (z7 hb N (ziu N) z1z zw TabOk.nil [0, 1, 1, 1, 1, 1, 1] _ rfl) (fun x K => by kernel_rfl)

def z3d (N : Nat) (s : ((List ((List UInt8) × (Int × (Int × ((List (Int × ((List UInt8) × Unit))) × Unit))))) × (Int × Unit))) (e : (Int × ((List UInt8) × (Int × (Int × ((List UInt8) × Unit)))))) (x4 : ((List ((List UInt8) × (Int × (Int × ((List (Int × ((List UInt8) × Unit))) × Unit))))) × (Int × Unit))) (at_ : Int) (t : ((List UInt8) × (Int × (Int × ((List (Int × ((List UInt8) × Unit))) × Unit))))) (k0 : Bool -> Option (((List ((List UInt8) × (Int × (Int × ((List (Int × ((List UInt8) × Unit))) × Unit))))) × (Int × Unit)) × Int × Unit)) : Option (((List ((List UInt8) × (Int × (Int × ((List (Int × ((List UInt8) × Unit))) × Unit))))) × (Int × Unit)) × Int × Unit) :=
 cond (decide (at_ < (0 : Int)))
 (k0 ((((List.length s.1) : Nat) : Int) == (16 : Int)))
 (k0 false)

def z9t (N : Nat) (x : z2b [(2, .box (.pair (.sl (.pair .str (.pair (.int .i64) (.pair (.int .i64) (.pair (.sl (.pair (.int .i64) (.pair .str .unit))) .unit))))) (.pair (.int .i64) .unit))), (0, .box (.pair (.int .i64) (.pair .str (.pair (.int .i64) (.pair (.int .i64) (.pair .str .unit)))))), (0, .box (.pair (.sl (.pair .str (.pair (.int .i64) (.pair (.int .i64) (.pair (.sl (.pair (.int .i64) (.pair .str .unit))) .unit))))) (.pair (.int .i64) .unit))), (1, .v (.int .i64)), (0, .box (.pair .str (.pair (.int .i64) (.pair (.int .i64) (.pair (.sl (.pair (.int .i64) (.pair .str .unit))) .unit)))))]) (K : Ex -> List A -> Option (((List ((List UInt8) × (Int × (Int × ((List (Int × ((List UInt8) × Unit))) × Unit))))) × (Int × Unit)) × Int × Unit)) : Option (((List ((List UInt8) × (Int × (Int × ((List (Int × ((List UInt8) × Unit))) × Unit))))) × (Int × Unit)) × Int × Unit) :=
 z3d N x.1 x.2.1 x.2.2.1 x.2.2.2.1 x.2.2.2.2.1 (fun a4 => (K .normal (mkS [(2, .box (.pair (.sl (.pair .str (.pair (.int .i64) (.pair (.int .i64) (.pair (.sl (.pair (.int .i64) (.pair .str .unit))) .unit))))) (.pair (.int .i64) .unit))), (0, .box (.pair (.int .i64) (.pair .str (.pair (.int .i64) (.pair (.int .i64) (.pair .str .unit)))))), (0, .box (.pair (.sl (.pair .str (.pair (.int .i64) (.pair (.int .i64) (.pair (.sl (.pair (.int .i64) (.pair .str .unit))) .unit))))) (.pair (.int .i64) .unit))), (2, .box (.pair .str (.pair (.int .i64) (.pair (.int .i64) (.pair (.sl (.pair (.int .i64) (.pair .str .unit))) .unit))))), (47, .v .bool)] 79 (x.1, x.2.1, x.2.2.1, x.2.2.2.2.1, a4, ()))))

def z9o (N : Nat) : Hd (((List ((List UInt8) × (Int × (Int × ((List (Int × ((List UInt8) × Unit))) × Unit))))) × (Int × Unit)) × Int × Unit) := fun st K => (unS [(2, .box (.pair (.sl (.pair .str (.pair (.int .i64) (.pair (.int .i64) (.pair (.sl (.pair (.int .i64) (.pair .str .unit))) .unit))))) (.pair (.int .i64) .unit))), (0, .box (.pair (.int .i64) (.pair .str (.pair (.int .i64) (.pair (.int .i64) (.pair .str .unit)))))), (0, .box (.pair (.sl (.pair .str (.pair (.int .i64) (.pair (.int .i64) (.pair (.sl (.pair (.int .i64) (.pair .str .unit))) .unit))))) (.pair (.int .i64) .unit))), (1, .v (.int .i64)), (0, .box (.pair .str (.pair (.int .i64) (.pair (.int .i64) (.pair (.sl (.pair (.int .i64) (.pair .str .unit))) .unit)))))] 127 (restr [6, 2, 4, 3, 7] 0 st)).bind fun x => z9t N x K

def zis (N : Nat) : Tab (((List ((List UInt8) × (Int × (Int × ((List (Int × ((List UInt8) × Unit))) × Unit))))) × (Int × Unit)) × Int × Unit) := []

theorem zgv {N : Nat} {c : Ctx} (hb : Base Go.Proofs.Try.prog (z1p N) c) : zu Go.Proofs.Try.prog c (zf zw [0, 0, 0, 1, 0, 1, 1, 1, 1, 1, 1, 1]) (z9o N) :=
  zp (s := [(2, .box (.pair (.sl (.pair .str (.pair (.int .i64) (.pair (.int .i64) (.pair (.sl (.pair (.int .i64) (.pair .str .unit))) .unit))))) (.pair (.int .i64) .unit))), (0, .box (.pair (.int .i64) (.pair .str (.pair (.int .i64) (.pair (.int .i64) (.pair .str .unit)))))), (0, .box (.pair (.sl (.pair .str (.pair (.int .i64) (.pair (.int .i64) (.pair (.sl (.pair (.int .i64) (.pair .str .unit))) .unit))))) (.pair (.int .i64) .unit))), (1, .v (.int .i64)), (0, .box (.pair .str (.pair (.int .i64) (.pair (.int .i64) (.pair (.sl (.pair (.int .i64) (.pair .str .unit))) .unit)))))]) (m := 127) (g := z9t N) [6, 2, 4, 3, 7] (z7 hb N (zis N) z1z zw TabOk.nil [0, 0, 0, 1, 0, 1, 1, 1, 1, 1, 1, 1] _ rfl) (fun x K => by kernel_rfl)

def z3e (N : Nat) (s : ((List ((List UInt8) × (Int × (Int × ((List (Int × ((List UInt8) × Unit))) × Unit))))) × (Int × Unit))) (e : (Int × ((List UInt8) × (Int × (Int × ((List UInt8) × Unit)))))) (x4 : ((List ((List UInt8) × (Int × (Int × ((List (Int × ((List UInt8) × Unit))) × Unit))))) × (Int × Unit))) (at_ : Int) (t : ((List UInt8) × (Int × (Int × ((List (Int × ((List UInt8) × Unit))) × Unit))))) (k0 : ((List ((List UInt8) × (Int × (Int × ((List (Int × ((List UInt8) × Unit))) × Unit))))) × (Int × Unit)) -> Int -> Option (((List ((List UInt8) × (Int × (Int × ((List (Int × ((List UInt8) × Unit))) × Unit))))) × (Int × Unit)) × Int × Unit)) (k1 : Option (((List ((List UInt8) × (Int × (Int × ((List (Int × ((List UInt8) × Unit))) × Unit))))) × (Int × Unit)) × Int × Unit)) : Option (((List ((List UInt8) × (Int × (Int × ((List (Int × ((List UInt8) × Unit))) × Unit))))) × (Int × Unit)) × Int × Unit) :=
 z3d N s e x4 at_ t
 (fun x55 => cond x55
 (k0 (([] : List ((List UInt8) × (Int × (Int × ((List (Int × ((List UInt8) × Unit))) × Unit))))), ((0 : Int), ())) (3 : Int))
 (k1))

def z9u (N : Nat) (x : z2b [(2, .box (.pair (.sl (.pair .str (.pair (.int .i64) (.pair (.int .i64) (.pair (.sl (.pair (.int .i64) (.pair .str .unit))) .unit))))) (.pair (.int .i64) .unit))), (0, .box (.pair (.int .i64) (.pair .str (.pair (.int .i64) (.pair (.int .i64) (.pair .str .unit)))))), (0, .box (.pair (.sl (.pair .str (.pair (.int .i64) (.pair (.int .i64) (.pair (.sl (.pair (.int .i64) (.pair .str .unit))) .unit))))) (.pair (.int .i64) .unit))), (1, .v (.int .i64)), (0, .box (.pair .str (.pair (.int .i64) (.pair (.int .i64) (.pair (.sl (.pair (.int .i64) (.pair .str .unit))) .unit)))))]) (K : Ex -> List A -> Option (((List ((List UInt8) × (Int × (Int × ((List (Int × ((List UInt8) × Unit))) × Unit))))) × (Int × Unit)) × Int × Unit)) : Option (((List ((List UInt8) × (Int × (Int × ((List (Int × ((List UInt8) × Unit))) × Unit))))) × (Int × Unit)) × Int × Unit) :=
 z3e N x.1 x.2.1 x.2.2.1 x.2.2.2.1 x.2.2.2.2.1 (fun a0 a1 => (K .ret (mkS [(4, .box (.pair (.sl (.pair .str (.pair (.int .i64) (.pair (.int .i64) (.pair (.sl (.pair (.int .i64) (.pair .str .unit))) .unit))))) (.pair (.int .i64) .unit))), (0, .v (.int .i64))] 129 (a0, a1, ())))) (K .normal (mkS [(2, .box (.pair (.sl (.pair .str (.pair (.int .i64) (.pair (.int .i64) (.pair (.sl (.pair (.int .i64) (.pair .str .unit))) .unit))))) (.pair (.int .i64) .unit))), (0, .box (.pair (.int .i64) (.pair .str (.pair (.int .i64) (.pair (.int .i64) (.pair .str .unit)))))), (0, .box (.pair (.sl (.pair .str (.pair (.int .i64) (.pair (.int .i64) (.pair (.sl (.pair (.int .i64) (.pair .str .unit))) .unit))))) (.pair (.int .i64) .unit))), (2, .box (.pair .str (.pair (.int .i64) (.pair (.int .i64) (.pair (.sl (.pair (.int .i64) (.pair .str .unit))) .unit)))))] 127 (x.1, x.2.1, x.2.2.1, x.2.2.2.2.1, ())))

def z9p (N : Nat) : Hd (((List ((List UInt8) × (Int × (Int × ((List (Int × ((List UInt8) × Unit))) × Unit))))) × (Int × Unit)) × Int × Unit) := fun st K => (unS [(2, .box (.pair (.sl (.pair .str (.pair (.int .i64) (.pair (.int .i64) (.pair (.sl (.pair (.int .i64) (.pair .str .unit))) .unit))))) (.pair (.int .i64) .unit))), (0, .box (.pair (.int .i64) (.pair .str (.pair (.int .i64) (.pair (.int .i64) (.pair .str .unit)))))), (0, .box (.pair (.sl (.pair .str (.pair (.int .i64) (.pair (.int .i64) (.pair (.sl (.pair (.int .i64) (.pair .str .unit))) .unit))))) (.pair (.int .i64) .unit))), (1, .v (.int .i64)), (0, .box (.pair .str (.pair (.int .i64) (.pair (.int .i64) (.pair (.sl (.pair (.int .i64) (.pair .str .unit))) .unit)))))] 127 (restr [6, 2, 4, 3, 7] 0 st)).bind fun x => z9u N x K

def zit (N : Nat) : Tab (((List ((List UInt8) × (Int × (Int × ((List (Int × ((List UInt8) × Unit))) × Unit))))) × (Int × Unit)) × Int × Unit) := [([0, 0, 0, 1, 0, 1, 1, 1, 1, 1, 1, 1], z9o N)]

theorem zgw {N : Nat} {c : Ctx} (hb : Base Go.Proofs.Try.prog (z1p N) c) : zu Go.Proofs.Try.prog c (zf zw [0, 0, 1, 0, 1, 1, 1, 1, 1, 1, 1]) (z9p N) :=
  zp (s := [(2, .box (.pair (.sl (.pair .str (.pair (.int .i64) (.pair (.int .i64) (.pair (.sl (.pair (.int .i64) (.pair .str .unit))) .unit))))) (.pair (.int .i64) .unit))), (0, .box (.pair (.int .i64) (.pair .str (.pair (.int .i64) (.pair (.int .i64) (.pair .str .unit)))))), (0, .box (.pair (.sl (.pair .str (.pair (.int .i64) (.pair (.int .i64) (.pair (.sl (.pair (.int .i64) (.pair .str .unit))) .unit))))) (.pair (.int .i64) .unit))), (1, .v (.int .i64)), (0, .box (.pair .str (.pair (.int .i64) (.pair (.int .i64) (.pair (.sl (.pair (.int .i64) (.pair .str .unit))) .unit)))))]) (m := 127) (g := z9u N) [6, 2, 4, 3, 7] (z7 hb N (zit N) z1z zw (TabOk.cons (zgv hb) TabOk.nil) [0, 0, 1, 0, 1, 1, 1, 1, 1, 1, 1] _ rfl) (fun x K => by kernel_rfl)

def z3b (N : Nat) (s : ((List ((List UInt8) × (Int × (Int × ((List (Int × ((List UInt8) × Unit))) × Unit))))) × (Int × Unit))) (e : (Int × ((List UInt8) × (Int × (Int × ((List UInt8) × Unit)))))) (x4 : ((List ((List UInt8) × (Int × (Int × ((List (Int × ((List UInt8) × Unit))) × Unit))))) × (Int × Unit))) (t : ((List UInt8) × (Int × (Int × ((List (Int × ((List UInt8) × Unit))) × Unit))))) (k0 : Bool -> Option (((List ((List UInt8) × (Int × (Int × ((List (Int × ((List UInt8) × Unit))) × Unit))))) × (Int × Unit)) × Int × Unit)) : Option (((List ((List UInt8) × (Int × (Int × ((List (Int × ((List UInt8) × Unit))) × Unit))))) × (Int × Unit)) × Int × Unit) :=
 cond (decide (e.2.2.2.1 < t.2.1))
 (k0 true)
 (k0 (decide (e.2.2.1 < t.2.2.1)))

def z9r (N : Nat) (x : z2b [(2, .box (.pair (.sl (.pair .str (.pair (.int .i64) (.pair (.int .i64) (.pair (.sl (.pair (.int .i64) (.pair .str .unit))) .unit))))) (.pair (.int .i64) .unit))), (0, .box (.pair (.int .i64) (.pair .str (.pair (.int .i64) (.pair (.int .i64) (.pair .str .unit)))))), (0, .box (.pair (.sl (.pair .str (.pair (.int .i64) (.pair (.int .i64) (.pair (.sl (.pair (.int .i64) (.pair .str .unit))) .unit))))) (.pair (.int .i64) .unit))), (2, .box (.pair .str (.pair (.int .i64) (.pair (.int .i64) (.pair (.sl (.pair (.int .i64) (.pair .str .unit))) .unit)))))]) (K : Ex -> List A -> Option (((List ((List UInt8) × (Int × (Int × ((List (Int × ((List UInt8) × Unit))) × Unit))))) × (Int × Unit)) × Int × Unit)) : Option (((List ((List UInt8) × (Int × (Int × ((List (Int × ((List UInt8) × Unit))) × Unit))))) × (Int × Unit)) × Int × Unit) :=
 z3b N x.1 x.2.1 x.2.2.1 x.2.2.2.1 (fun a4 => (K .normal (mkS [(2, .box (.pair (.sl (.pair .str (.pair (.int .i64) (.pair (.int .i64) (.pair (.sl (.pair (.int .i64) (.pair .str .unit))) .unit))))) (.pair (.int .i64) .unit))), (0, .box (.pair (.int .i64) (.pair .str (.pair (.int .i64) (.pair (.int .i64) (.pair .str .unit)))))), (0, .box (.pair (.sl (.pair .str (.pair (.int .i64) (.pair (.int .i64) (.pair (.sl (.pair (.int .i64) (.pair .str .unit))) .unit))))) (.pair (.int .i64) .unit))), (2, .box (.pair .str (.pair (.int .i64) (.pair (.int .i64) (.pair (.sl (.pair (.int .i64) (.pair .str .unit))) .unit))))), (60, .v .bool)] 66 (x.1, x.2.1, x.2.2.1, x.2.2.2.1, a4, ()))))

def z9m (N : Nat) : Hd (((List ((List UInt8) × (Int × (Int × ((List (Int × ((List UInt8) × Unit))) × Unit))))) × (Int × Unit)) × Int × Unit) := fun st K => (unS [(2, .box (.pair (.sl (.pair .str (.pair (.int .i64) (.pair (.int .i64) (.pair (.sl (.pair (.int .i64) (.pair .str .unit))) .unit))))) (.pair (.int .i64) .unit))), (0, .box (.pair (.int .i64) (.pair .str (.pair (.int .i64) (.pair (.int .i64) (.pair .str .unit)))))), (0, .box (.pair (.sl (.pair .str (.pair (.int .i64) (.pair (.int .i64) (.pair (.sl (.pair (.int .i64) (.pair .str .unit))) .unit))))) (.pair (.int .i64) .unit))), (2, .box (.pair .str (.pair (.int .i64) (.pair (.int .i64) (.pair (.sl (.pair (.int .i64) (.pair .str .unit))) .unit)))))] 127 (restr [3, 7, 4, 2] 0 st)).bind fun x => z9r N x K

def ziq (N : Nat) : Tab (((List ((List UInt8) × (Int × (Int × ((List (Int × ((List UInt8) × Unit))) × Unit))))) × (Int × Unit)) × Int × Unit) := []

theorem zgt {N : Nat} {c : Ctx} (hb : Base Go.Proofs.Try.prog (z1p N) c) : zu Go.Proofs.Try.prog c (zf zw [0, 0, 1, 0, 1, 0, 1, 1, 1, 1, 1, 1, 1]) (z9m N) :=
  zp (s := [(2, .box (.pair (.sl (.pair .str (.pair (.int .i64) (.pair (.int .i64) (.pair (.sl (.pair (.int .i64) (.pair .str .unit))) .unit))))) (.pair (.int .i64) .unit))), (0, .box (.pair (.int .i64) (.pair .str (.pair (.int .i64) (.pair (.int .i64) (.pair .str .unit)))))), (0, .box (.pair (.sl (.pair .str (.pair (.int .i64) (.pair (.int .i64) (.pair (.sl (.pair (.int .i64) (.pair .str .unit))) .unit))))) (.pair (.int .i64) .unit))), (2, .box (.pair .str (.pair (.int .i64) (.pair (.int .i64) (.pair (.sl (.pair (.int .i64) (.pair .str .unit))) .unit)))))]) (m := 127) (g := z9r N) [3, 7, 4, 2] (z7 hb N (ziq N) z1z zw TabOk.nil [0, 0, 1, 0, 1, 0, 1, 1, 1, 1, 1, 1, 1] _ rfl) (fun x K => by kernel_rfl)

def z3c (N : Nat) (s : ((List ((List UInt8) × (Int × (Int × ((List (Int × ((List UInt8) × Unit))) × Unit))))) × (Int × Unit))) (e : (Int × ((List UInt8) × (Int × (Int × ((List UInt8) × Unit)))))) (x4 : ((List ((List UInt8) × (Int × (Int × ((List (Int × ((List UInt8) × Unit))) × Unit))))) × (Int × Unit))) (t : ((List UInt8) × (Int × (Int × ((List (Int × ((List UInt8) × Unit))) × Unit))))) (k0 : ((List ((List UInt8) × (Int × (Int × ((List (Int × ((List UInt8) × Unit))) × Unit))))) × (Int × Unit)) -> Int -> Option (((List ((List UInt8) × (Int × (Int × ((List (Int × ((List UInt8) × Unit))) × Unit))))) × (Int × Unit)) × Int × Unit)) (k1 : Option (((List ((List UInt8) × (Int × (Int × ((List (Int × ((List UInt8) × Unit))) × Unit))))) × (Int × Unit)) × Int × Unit)) : Option (((List ((List UInt8) × (Int × (Int × ((List (Int × ((List UInt8) × Unit))) × Unit))))) × (Int × Unit)) × Int × Unit) :=
 z3b N s e x4 t
 (fun x68 => cond x68
 (k0 (([] : List ((List UInt8) × (Int × (Int × ((List (Int × ((List UInt8) × Unit))) × Unit))))), ((0 : Int), ())) (7 : Int))
 (k1))

def z9s (N : Nat) (x : z2b [(2, .box (.pair (.sl (.pair .str (.pair (.int .i64) (.pair (.int .i64) (.pair (.sl (.pair (.int .i64) (.pair .str .unit))) .unit))))) (.pair (.int .i64) .unit))), (0, .box (.pair (.int .i64) (.pair .str (.pair (.int .i64) (.pair (.int .i64) (.pair .str .unit)))))), (0, .box (.pair (.sl (.pair .str (.pair (.int .i64) (.pair (.int .i64) (.pair (.sl (.pair (.int .i64) (.pair .str .unit))) .unit))))) (.pair (.int .i64) .unit))), (2, .box (.pair .str (.pair (.int .i64) (.pair (.int .i64) (.pair (.sl (.pair (.int .i64) (.pair .str .unit))) .unit)))))]) (K : Ex -> List A -> Option (((List ((List UInt8) × (Int × (Int × ((List (Int × ((List UInt8) × Unit))) × Unit))))) × (Int × Unit)) × Int × Unit)) : Option (((List ((List UInt8) × (Int × (Int × ((List (Int × ((List UInt8) × Unit))) × Unit))))) × (Int × Unit)) × Int × Unit) :=
 z3c N x.1 x.2.1 x.2.2.1 x.2.2.2.1 (fun a0 a1 => (K .ret (mkS [(4, .box (.pair (.sl (.pair .str (.pair (.int .i64) (.pair (.int .i64) (.pair (.sl (.pair (.int .i64) (.pair .str .unit))) .unit))))) (.pair (.int .i64) .unit))), (0, .v (.int .i64))] 129 (a0, a1, ())))) (K .normal (mkS [(2, .box (.pair (.sl (.pair .str (.pair (.int .i64) (.pair (.int .i64) (.pair (.sl (.pair (.int .i64) (.pair .str .unit))) .unit))))) (.pair (.int .i64) .unit))), (0, .box (.pair (.int .i64) (.pair .str (.pair (.int .i64) (.pair (.int .i64) (.pair .str .unit)))))), (0, .box (.pair (.sl (.pair .str (.pair (.int .i64) (.pair (.int .i64) (.pair (.sl (.pair (.int .i64) (.pair .str .unit))) .unit))))) (.pair (.int .i64) .unit))), (2, .box (.pair .str (.pair (.int .i64) (.pair (.int .i64) (.pair (.sl (.pair (.int .i64) (.pair .str .unit))) .unit)))))] 127 (x.1, x.2.1, x.2.2.1, x.2.2.2.1, ())))

def z9n (N : Nat) : Hd (((List ((List UInt8) × (Int × (Int × ((List (Int × ((List UInt8) × Unit))) × Unit))))) × (Int × Unit)) × Int × Unit) := fun st K => (unS [(2, .box (.pair (.sl (.pair .str (.pair (.int .i64) (.pair (.int .i64) (.pair (.sl (.pair (.int .i64) (.pair .str .unit))) .unit))))) (.pair (.int .i64) .unit))), (0, .box (.pair (.int .i64) (.pair .str (.pair (.int .i64) (.pair (.int .i64) (.pair .str .unit)))))), (0, .box (.pair (.sl (.pair .str (.pair (.int .i64) (.pair (.int .i64) (.pair (.sl (.pair (.int .i64) (.pair .str .unit))) .unit))))) (.pair (.int .i64) .unit))), (2, .box (.pair .str (.pair (.int .i64) (.pair (.int .i64) (.pair (.sl (.pair (.int .i64) (.pair .str .unit))) .unit)))))] 127 (restr [3, 7, 4, 2] 0 st)).bind fun x => z9s N x K

def zir (N : Nat) : Tab (((List ((List UInt8) × (Int × (Int × ((List (Int × ((List UInt8) × Unit))) × Unit))))) × (Int × Unit)) × Int × Unit) := [([0, 0, 1, 0, 1, 0, 1, 1, 1, 1, 1, 1, 1], z9m N)]

theorem zgu {N : Nat} {c : Ctx} (hb : Base Go.Proofs.Try.prog (z1p N) c) : zu Go.Proofs.Try.prog c (zf zw [0, 1, 0, 1, 0, 1, 1, 1, 1, 1, 1, 1]) (z9n N) :=
  zp (s := [(2, .box (.pair (.sl (.pair .str (.pair (.int .i64) (.pair (.int .i64) (.pair (.sl (.pair (.int .i64) (.pair .str .unit))) .unit))))) (.pair (.int .i64) .unit))), (0, .box (.pair (.int .i64) (.pair .str (.pair (.int .i64) (.pair (.int .i64) (.pair .str .unit)))))), (0, .box (.pair (.sl (.pair .str (.pair (.int .i64) (.pair (.int .i64) (.pair (.sl (.pair (.int .i64) (.pair .str .unit))) .unit))))) (.pair (.int .i64) .unit))), (2, .box (.pair .str (.pair (.int .i64) (.pair (.int .i64) (.pair (.sl (.pair (.int .i64) (.pair .str .unit))) .unit)))))]) (m := 127) (g := z9s N) [3, 7, 4, 2] (z7 hb N (zir N) z1z zw (TabOk.cons (zgt hb) TabOk.nil) [0, 1, 0, 1, 0, 1, 1, 1, 1, 1, 1, 1] _ rfl) (fun x K => by kernel_rfl)

def z3h (N : Nat) (s : ((List ((List UInt8) × (Int × (Int × ((List (Int × ((List UInt8) × Unit))) × Unit))))) × (Int × Unit))) (e : (Int × ((List UInt8) × (Int × (Int × ((List UInt8) × Unit)))))) : Option (((List ((List UInt8) × (Int × (Int × ((List (Int × ((List UInt8) × Unit))) × Unit))))) × (Int × Unit)) × Int × Unit) :=
 (z2t N s).bind fun y =>
 cond (!y)
 (some ((([] : List ((List UInt8) × (Int × (Int × ((List (Int × ((List UInt8) × Unit))) × Unit))))), ((0 : Int), ())), ((7 : Int), ())))
 ((z34 N e).bind fun y1 =>
 cond (!y1)
 (some ((([] : List ((List UInt8) × (Int × (Int × ((List (Int × ((List UInt8) × Unit))) × Unit))))), ((0 : Int), ())), ((2 : Int), ())))
 (cond (e.1 == (4 : Int))
 (cond (decide (e.2.2.1 < s.2.1))
 (some ((([] : List ((List UInt8) × (Int × (Int × ((List (Int × ((List UInt8) × Unit))) × Unit))))), ((0 : Int), ())), ((7 : Int), ())))
 (some ((s.1, (e.2.2.1, ())), ((0 : Int), ()))))
 ((z44 N s e.2.1).bind fun y2 =>
 z5k N s e (([] : List ((List UInt8) × (Int × (Int × ((List (Int × ((List UInt8) × Unit))) × Unit))))), ((0 : Int), ())) y2 (e.2.1, ((0 : Int), ((0 : Int), (([] : List (Int × ((List UInt8) × Unit))), ()))))
 (fun t => cond (e.1 == (1 : Int))
 (z3e N s e (([] : List ((List UInt8) × (Int × (Int × ((List (Int × ((List UInt8) × Unit))) × Unit))))), ((0 : Int), ())) y2 t
 (fun x4 x5 => some (x4, (x5, ())))
 (z3c N s e (([] : List ((List UInt8) × (Int × (Int × ((List (Int × ((List UInt8) × Unit))) × Unit))))), ((0 : Int), ())) t
 (fun x41 x51 => some (x41, (x51, ())))
 ((z2j N s (t.1, (e.2.2.2.1, (e.2.2.1, t.2.2.2)))).bind fun y3 =>
 some (y3, ((0 : Int), ())))))
 (cond (decide (y2 < (0 : Int)))
 (some ((([] : List ((List UInt8) × (Int × (Int × ((List (Int × ((List UInt8) × Unit))) × Unit))))), ((0 : Int), ())), ((6 : Int), ())))
 ((z4i N t.2.2.2.1 e.2.2.1).bind fun y4 =>
 cond (e.1 == (3 : Int))
 (cond (decide (y4 < (0 : Int)))
 (some ((([] : List ((List UInt8) × (Int × (Int × ((List (Int × ((List UInt8) × Unit))) × Unit))))), ((0 : Int), ())), ((6 : Int), ())))
 (cond (decide (((0 : Int) <= y4) /\ (y4 <= (((List.length t.2.2.2.1) : Nat) : Int))))
 (cond (decide (((0 + (List.length (Go.Lift.cut t.2.2.2.1 0 (Int.toNat y4)))) * 24) <= 70368744177664))
 (cond (decide (((0 : Int) <= (Go.IntKind.wrap Go.IntKind.i64 (y4 + (1 : Int)))) /\ ((Go.IntKind.wrap Go.IntKind.i64 (y4 + (1 : Int))) <= (((List.length t.2.2.2.1) : Nat) : Int))))
 (cond (decide ((((List.length (([] : List (Int × ((List UInt8) × Unit))) ++ (Go.Lift.cut t.2.2.2.1 0 (Int.toNat y4)))) + (List.length (Go.Lift.cut t.2.2.2.1 (Int.toNat (Go.IntKind.wrap Go.IntKind.i64 (y4 + (1 : Int)))) (List.length t.2.2.2.1)))) * 24) <= 70368744177664))
 ((z2j N s (t.1, (t.2.1, (t.2.2.1, (((([] : List (Int × ((List UInt8) × Unit))) ++ (Go.Lift.cut t.2.2.2.1 0 (Int.toNat y4))) ++ (Go.Lift.cut t.2.2.2.1 (Int.toNat (Go.IntKind.wrap Go.IntKind.i64 (y4 + (1 : Int)))) (List.length t.2.2.2.1))), t.2.2.2.2))))).bind fun y5 =>
 some (y5, ((0 : Int), ())))
 (none))
 (none))
 (none))
 (none)))
 (cond (decide (t.2.2.1 <= e.2.2.1))
 (some ((([] : List ((List UInt8) × (Int × (Int × ((List (Int × ((List UInt8) × Unit))) × Unit))))), ((0 : Int), ())), ((7 : Int), ())))
 (cond (decide ((0 : Int) <= y4))
 (some ((([] : List ((List UInt8) × (Int × (Int × ((List (Int × ((List UInt8) × Unit))) × Unit))))), ((0 : Int), ())), ((5 : Int), ())))
 (cond ((((List.length t.2.2.2.1) : Nat) : Int) == (8 : Int))
 (some ((([] : List ((List UInt8) × (Int × (Int × ((List (Int × ((List UInt8) × Unit))) × Unit))))), ((0 : Int), ())), ((3 : Int), ())))
 ((z43 N t.2.2.2.1 (e.2.2.1, (e.2.2.2.2.1, ()))).bind fun y6 =>
 (z2j N s (t.1, (t.2.1, (t.2.2.1, (y6, t.2.2.2.2))))).bind fun y7 =>
 some (y7, ((0 : Int), ()))))))))))))

def zb9 (N : Nat) : Tab (((List ((List UInt8) × (Int × (Int × ((List (Int × ((List UInt8) × Unit))) × Unit))))) × (Int × Unit)) × Int × Unit) := [([0, 1, 1, 1, 1, 1, 1], z9q N), ([0, 0, 1, 0, 1, 1, 1, 1, 1, 1, 1], z9p N), ([0, 1, 0, 1, 0, 1, 1, 1, 1, 1, 1, 1], z9n N)]

theorem zfm (N : Nat) (x : z2b [(0, .v (.pair (.sl (.pair .str (.pair (.int .i64) (.pair (.int .i64) (.pair (.sl (.pair (.int .i64) (.pair .str .unit))) .unit))))) (.pair (.int .i64) .unit))), (0, .v (.pair (.int .i64) (.pair .str (.pair (.int .i64) (.pair (.int .i64) (.pair .str .unit))))))]) : zft (z1p N) N (zb9 N) z1z Go.Proofs.Try.f9 (mkS [(0, .v (.pair (.sl (.pair .str (.pair (.int .i64) (.pair (.int .i64) (.pair (.sl (.pair (.int .i64) (.pair .str .unit))) .unit))))) (.pair (.int .i64) .unit))), (0, .v (.pair (.int .i64) (.pair .str (.pair (.int .i64) (.pair (.int .i64) (.pair .str .unit))))))] 0 x) (z6m (.tup [(.pair (.sl (.pair .str (.pair (.int .i64) (.pair (.int .i64) (.pair (.sl (.pair (.int .i64) (.pair .str .unit))) .unit))))) (.pair (.int .i64) .unit)), (.int .i64)]) 2) = z3h N x.1 x.2.1 := by kernel_rfl

def z8b (N : Nat) : List A -> Res := z2x [(0, .v (.pair (.sl (.pair .str (.pair (.int .i64) (.pair (.int .i64) (.pair (.sl (.pair (.int .i64) (.pair .str .unit))) .unit))))) (.pair (.int .i64) .unit))), (0, .v (.pair (.int .i64) (.pair .str (.pair (.int .i64) (.pair (.int .i64) (.pair .str .unit))))))] (fun x => z3h N x.1 x.2.1) (zfu (.tup [(.pair (.sl (.pair .str (.pair (.int .i64) (.pair (.int .i64) (.pair (.sl (.pair (.int .i64) (.pair .str .unit))) .unit))))) (.pair (.int .i64) .unit)), (.int .i64)]) 2)

theorem ziv (N : Nat) : Contract Go.Proofs.Try.prog z12 9 (z8b N) :=
  Contract.of (E := z1p N) (H := zb9 N) (L := z1z) (N := N) (body := zw) (K := (z6m (.tup [(.pair (.sl (.pair .str (.pair (.int .i64) (.pair (.int .i64) (.pair (.sl (.pair (.int .i64) (.pair .str .unit))) .unit))))) (.pair (.int .i64) .unit)), (.int .i64)]) 2)) (zgy N) Go.Proofs.Try.func9 (by kernel_rfl) (by decide) (fun _ hb => (TabOk.cons (zgx hb) (TabOk.cons (zgw hb) (TabOk.cons (zgu hb) TabOk.nil)))) (fun x y h => by rw [zfm]; exact h) (z22 (s := (.tup [(.pair (.sl (.pair .str (.pair (.int .i64) (.pair (.int .i64) (.pair (.sl (.pair (.int .i64) (.pair .str .unit))) .unit))))) (.pair (.int .i64) .unit)), (.int .i64)])) (m := 2))

def zd : Code := (Go.Proofs.Try.f14.body).getD .skip

def z17 : List (List Nat × List Nat) := [([0], [2, 3]), ([0, 0, 1], [22, 2, 3]), ([1, 0, 1], [2, 3]), ([0, 0, 1, 0, 1], [4]), ([1, 0, 1, 0, 1], [4]), ([0, 0, 1, 1], [5, 2, 3]), ([0, 1, 0, 1, 1], [5, 2, 3]), ([0, 0, 0, 0, 1, 0, 1, 1], [27, 2, 5, 3]), ([1, 0, 0, 0, 1, 0, 1, 1], [2, 5, 3]), ([1, 1, 0, 0, 0, 1, 0, 1, 1], []), ([0, 0, 0, 1, 0, 0, 1, 0, 1, 1], [6, 7, 5, 2, 3]), ([0, 0, 1, 0, 0, 1, 0, 0, 1, 0, 1, 1], [67, 6, 7, 5, 2, 3]), ([1, 0, 1, 0, 0, 1, 0, 0, 1, 0, 1, 1], [6, 7, 5, 2, 3]), ([0, 0, 1, 0, 1, 0, 0, 1, 0, 0, 1, 0, 1, 1], [4]), ([1, 0, 1, 0, 1, 0, 0, 1, 0, 0, 1, 0, 1, 1], [4]), ([0, 1, 1, 0, 0, 1, 0, 0, 1, 0, 1, 1], [8, 6, 7, 5, 2, 3]), ([0, 1, 1, 1, 0, 0, 1, 0, 0, 1, 0, 1, 1], [8, 6, 7, 5, 2, 3]), ([0, 0, 0, 0, 1, 1, 1, 0, 0, 1, 0, 0, 1, 0, 1, 1], [72, 6, 8, 7, 5, 2, 3]), ([1, 0, 0, 0, 1, 1, 1, 0, 0, 1, 0, 0, 1, 0, 1, 1], [6, 8, 7, 5, 2, 3]), ([1, 1, 0, 0, 0, 1, 1, 1, 0, 0, 1, 0, 0, 1, 0, 1, 1], [5, 2, 3]), ([0, 0, 0, 1, 0, 0, 1, 1, 1, 0, 0, 1, 0, 0, 1, 0, 1, 1], [85, 8, 6, 7, 5, 2, 3]), ([1, 0, 0, 1, 0, 0, 1, 1, 1, 0, 0, 1, 0, 0, 1, 0, 1, 1], [8, 6, 7, 5, 2, 3]), ([0, 0, 1, 0, 0, 1, 0, 0, 1, 1, 1, 0, 0, 1, 0, 0, 1, 0, 1, 1], [4]), ([1, 0, 1, 0, 0, 1, 0, 0, 1, 1, 1, 0, 0, 1, 0, 0, 1, 0, 1, 1], [4]), ([0, 1, 0, 0, 1, 1, 1, 0, 0, 1, 0, 0, 1, 0, 1, 1], [8, 6, 7, 5, 2, 3]), ([1, 1, 0, 0, 1, 1, 1, 0, 0, 1, 0, 0, 1, 0, 1, 1], [8, 6, 7, 5, 2, 3]), ([1, 1, 1, 0, 0, 1, 0, 0, 1, 0, 1, 1], [5, 2, 3]), ([0, 1, 0, 0, 1, 0, 1, 1], [5, 2, 3]), ([1, 1, 0, 0, 1, 0, 1, 1], [5, 2, 3]), ([1, 0, 1, 1], []), ([0, 1, 1, 1], [4]), ([1, 1, 1, 1], [4])]

def z10 (N : Nat) : Env := z5o tys z12 [] [] [] [] false [] []

theorem zdp (N : Nat) : EnvOk Go.Proofs.Try.prog (z10 N) := z1k mixed z2v (FnsOk.nil) (ItsOk.nil)

def z3y (N : Nat) (a : ((List ((List UInt8) × (Int × (Int × ((List (Int × ((List UInt8) × Unit))) × Unit))))) × (Int × Unit))) (b : ((List ((List UInt8) × (Int × (Int × ((List (Int × ((List UInt8) × Unit))) × Unit))))) × (Int × Unit))) (k0 : Bool -> Option Bool) : Option Bool :=
 cond (a.2.1 != b.2.1)
 (k0 true)
 (k0 ((((List.length a.1) : Nat) : Int) != (((List.length b.1) : Nat) : Int)))

def z7b (N : Nat) (x : z2b [(2, .box (.pair (.sl (.pair .str (.pair (.int .i64) (.pair (.int .i64) (.pair (.sl (.pair (.int .i64) (.pair .str .unit))) .unit))))) (.pair (.int .i64) .unit))), (0, .box (.pair (.sl (.pair .str (.pair (.int .i64) (.pair (.int .i64) (.pair (.sl (.pair (.int .i64) (.pair .str .unit))) .unit))))) (.pair (.int .i64) .unit)))]) (K : Ex -> List A -> Option Bool) : Option Bool :=
 z3y N x.1 x.2.1 (fun a2 => (K .normal (mkS [(2, .box (.pair (.sl (.pair .str (.pair (.int .i64) (.pair (.int .i64) (.pair (.sl (.pair (.int .i64) (.pair .str .unit))) .unit))))) (.pair (.int .i64) .unit))), (0, .box (.pair (.sl (.pair .str (.pair (.int .i64) (.pair (.int .i64) (.pair (.sl (.pair (.int .i64) (.pair .str .unit))) .unit))))) (.pair (.int .i64) .unit))), (18, .v .bool)] 63 (x.1, x.2.1, a2, ()))))

def z74 (N : Nat) : Hd Bool := fun st K => (unS [(2, .box (.pair (.sl (.pair .str (.pair (.int .i64) (.pair (.int .i64) (.pair (.sl (.pair (.int .i64) (.pair .str .unit))) .unit))))) (.pair (.int .i64) .unit))), (0, .box (.pair (.sl (.pair .str (.pair (.int .i64) (.pair (.int .i64) (.pair (.sl (.pair (.int .i64) (.pair .str .unit))) .unit))))) (.pair (.int .i64) .unit)))] 82 (restr [2, 3] 0 st)).bind fun x => z7b N x K

def zen (N : Nat) : Tab Bool := []

theorem zdn {N : Nat} {c : Ctx} (hb : Base Go.Proofs.Try.prog (z10 N) c) : zu Go.Proofs.Try.prog c (zf zd [0, 0, 1]) (z74 N) :=
  zp (s := [(2, .box (.pair (.sl (.pair .str (.pair (.int .i64) (.pair (.int .i64) (.pair (.sl (.pair (.int .i64) (.pair .str .unit))) .unit))))) (.pair (.int .i64) .unit))), (0, .box (.pair (.sl (.pair .str (.pair (.int .i64) (.pair (.int .i64) (.pair (.sl (.pair (.int .i64) (.pair .str .unit))) .unit))))) (.pair (.int .i64) .unit)))]) (m := 82) (g := z7b N) [2, 3] (z7 hb N (zen N) z17 zd TabOk.nil [0, 0, 1] _ rfl) (fun x K => by kernel_rfl)

def z3z (N : Nat) (a : ((List ((List UInt8) × (Int × (Int × ((List (Int × ((List UInt8) × Unit))) × Unit))))) × (Int × Unit))) (b : ((List ((List UInt8) × (Int × (Int × ((List (Int × ((List UInt8) × Unit))) × Unit))))) × (Int × Unit))) (k0 : Bool -> Option Bool) (k1 : Option Bool) : Option Bool :=
 z3y N a b
 (fun x22 => cond x22
 (k0 false)
 (k1))

def z7c (N : Nat) (x : z2b [(2, .box (.pair (.sl (.pair .str (.pair (.int .i64) (.pair (.int .i64) (.pair (.sl (.pair (.int .i64) (.pair .str .unit))) .unit))))) (.pair (.int .i64) .unit))), (0, .box (.pair (.sl (.pair .str (.pair (.int .i64) (.pair (.int .i64) (.pair (.sl (.pair (.int .i64) (.pair .str .unit))) .unit))))) (.pair (.int .i64) .unit)))]) (K : Ex -> List A -> Option Bool) : Option Bool :=
 z3z N x.1 x.2.1 (fun a0 => (K .ret (mkS [(4, .v .bool)] 81 (a0, ())))) (K .normal (mkS [(2, .box (.pair (.sl (.pair .str (.pair (.int .i64) (.pair (.int .i64) (.pair (.sl (.pair (.int .i64) (.pair .str .unit))) .unit))))) (.pair (.int .i64) .unit))), (0, .box (.pair (.sl (.pair .str (.pair (.int .i64) (.pair (.int .i64) (.pair (.sl (.pair (.int .i64) (.pair .str .unit))) .unit))))) (.pair (.int .i64) .unit)))] 82 (x.1, x.2.1, ())))

def z75 (N : Nat) : Hd Bool := fun st K => (unS [(2, .box (.pair (.sl (.pair .str (.pair (.int .i64) (.pair (.int .i64) (.pair (.sl (.pair (.int .i64) (.pair .str .unit))) .unit))))) (.pair (.int .i64) .unit))), (0, .box (.pair (.sl (.pair .str (.pair (.int .i64) (.pair (.int .i64) (.pair (.sl (.pair (.int .i64) (.pair .str .unit))) .unit))))) (.pair (.int .i64) .unit)))] 82 (restr [2, 3] 0 st)).bind fun x => z7c N x K

def zeo (N : Nat) : Tab Bool := [([0, 0, 1], z74 N)]

theorem zdo {N : Nat} {c : Ctx} (hb : Base Go.Proofs.Try.prog (z10 N) c) : zu Go.Proofs.Try.prog c (zf zd [0, 1]) (z75 N) :=
  zp (s := [(2, .box (.pair (.sl (.pair .str (.pair (.int .i64) (.pair (.int .i64) (.pair (.sl (.pair (.int .i64) (.pair .str .unit))) .unit))))) (.pair (.int .i64) .unit))), (0, .box (.pair (.sl (.pair .str (.pair (.int .i64) (.pair (.int .i64) (.pair (.sl (.pair (.int .i64) (.pair .str .unit))) .unit))))) (.pair (.int .i64) .unit)))]) (m := 82) (g := z7c N) [2, 3] (z7 hb N (zeo N) z17 zd (TabOk.cons (zdn hb) TabOk.nil) [0, 1] _ rfl) (fun x K => by kernel_rfl)

def z3v (N : Nat) (a : ((List ((List UInt8) × (Int × (Int × ((List (Int × ((List UInt8) × Unit))) × Unit))))) × (Int × Unit))) (b : ((List ((List UInt8) × (Int × (Int × ((List (Int × ((List UInt8) × Unit))) × Unit))))) × (Int × Unit))) (i : Int) (x6 : ((List UInt8) × (Int × (Int × ((List (Int × ((List UInt8) × Unit))) × Unit))))) (y : ((List UInt8) × (Int × (Int × ((List (Int × ((List UInt8) × Unit))) × Unit))))) (k0 : Bool -> Option Bool) : Option Bool :=
 cond (!(x6.1 == y.1))
 (k0 true)
 (cond (x6.2.1 != y.2.1)
 (k0 true)
 (cond (x6.2.2.1 != y.2.2.1)
 (k0 true)
 (k0 ((((List.length x6.2.2.2.1) : Nat) : Int) != (((List.length y.2.2.2.1) : Nat) : Int)))))

def z77 (N : Nat) (x : z2b [(2, .box (.pair (.sl (.pair .str (.pair (.int .i64) (.pair (.int .i64) (.pair (.sl (.pair (.int .i64) (.pair .str .unit))) .unit))))) (.pair (.int .i64) .unit))), (0, .box (.pair (.sl (.pair .str (.pair (.int .i64) (.pair (.int .i64) (.pair (.sl (.pair (.int .i64) (.pair .str .unit))) .unit))))) (.pair (.int .i64) .unit))), (1, .v (.int .i64)), (0, .box (.pair .str (.pair (.int .i64) (.pair (.int .i64) (.pair (.sl (.pair (.int .i64) (.pair .str .unit))) .unit))))), (0, .box (.pair .str (.pair (.int .i64) (.pair (.int .i64) (.pair (.sl (.pair (.int .i64) (.pair .str .unit))) .unit)))))]) (K : Ex -> List A -> Option Bool) : Option Bool :=
 z3v N x.1 x.2.1 x.2.2.1 x.2.2.2.1 x.2.2.2.2.1 (fun a5 => (K .normal (mkS [(2, .box (.pair (.sl (.pair .str (.pair (.int .i64) (.pair (.int .i64) (.pair (.sl (.pair (.int .i64) (.pair .str .unit))) .unit))))) (.pair (.int .i64) .unit))), (0, .box (.pair (.sl (.pair .str (.pair (.int .i64) (.pair (.int .i64) (.pair (.sl (.pair (.int .i64) (.pair .str .unit))) .unit))))) (.pair (.int .i64) .unit))), (1, .v (.int .i64)), (0, .box (.pair .str (.pair (.int .i64) (.pair (.int .i64) (.pair (.sl (.pair (.int .i64) (.pair .str .unit))) .unit))))), (0, .box (.pair .str (.pair (.int .i64) (.pair (.int .i64) (.pair (.sl (.pair (.int .i64) (.pair .str .unit))) .unit))))), (59, .v .bool)] 18 (x.1, x.2.1, x.2.2.1, x.2.2.2.1, x.2.2.2.2.1, a5, ()))))

def z70 (N : Nat) : Hd Bool := fun st K => (unS [(2, .box (.pair (.sl (.pair .str (.pair (.int .i64) (.pair (.int .i64) (.pair (.sl (.pair (.int .i64) (.pair .str .unit))) .unit))))) (.pair (.int .i64) .unit))), (0, .box (.pair (.sl (.pair .str (.pair (.int .i64) (.pair (.int .i64) (.pair (.sl (.pair (.int .i64) (.pair .str .unit))) .unit))))) (.pair (.int .i64) .unit))), (1, .v (.int .i64)), (0, .box (.pair .str (.pair (.int .i64) (.pair (.int .i64) (.pair (.sl (.pair (.int .i64) (.pair .str .unit))) .unit))))), (0, .box (.pair .str (.pair (.int .i64) (.pair (.int .i64) (.pair (.sl (.pair (.int .i64) (.pair .str .unit))) .unit)))))] 78 (restr [6, 7, 5, 2, 3] 0 st)).bind fun x => z77 N x K

def zej (N : Nat) : Tab Bool := []

theorem zdj {N : Nat} {c : Ctx} (hb : Base Go.Proofs.Try.prog (z10 N) c) : zu Go.Proofs.Try.prog c (zf zd [0, 0, 1, 0, 0, 1, 0, 0, 1, 0, 1, 1]) (z70 N) :=
  zp (s := [(2, .box (.pair (.sl (.pair .str (.pair (.int .i64) (.pair (.int .i64) (.pair (.sl (.pair (.int .i64) (.pair .str .unit))) .unit))))) (.pair (.int .i64) .unit))), (0, .box (.pair (.sl (.pair .str (.pair (.int .i64) (.pair (.int .i64) (.pair (.sl (.pair (.int .i64) (.pair .str .unit))) .unit))))) (.pair (.int .i64) .unit))), (1, .v (.int .i64)), (0, .box (.pair .str (.pair (.int .i64) (.pair (.int .i64) (.pair (.sl (.pair (.int .i64) (.pair .str .unit))) .unit))))), (0, .box (.pair .str (.pair (.int .i64) (.pair (.int .i64) (.pair (.sl (.pair (.int .i64) (.pair .str .unit))) .unit)))))]) (m := 78) (g := z77 N) [6, 7, 5, 2, 3] (z7 hb N (zej N) z17 zd TabOk.nil [0, 0, 1, 0, 0, 1, 0, 0, 1, 0, 1, 1] _ rfl) (fun x K => by kernel_rfl)

def z3w (N : Nat) (a : ((List ((List UInt8) × (Int × (Int × ((List (Int × ((List UInt8) × Unit))) × Unit))))) × (Int × Unit))) (b : ((List ((List UInt8) × (Int × (Int × ((List (Int × ((List UInt8) × Unit))) × Unit))))) × (Int × Unit))) (i : Int) (x6 : ((List UInt8) × (Int × (Int × ((List (Int × ((List UInt8) × Unit))) × Unit))))) (y : ((List UInt8) × (Int × (Int × ((List (Int × ((List UInt8) × Unit))) × Unit))))) (k0 : Bool -> Option Bool) (k1 : Option Bool) : Option Bool :=
 z3v N a b i x6 y
 (fun x67 => cond x67
 (k0 false)
 (k1))

def z78 (N : Nat) (x : z2b [(2, .box (.pair (.sl (.pair .str (.pair (.int .i64) (.pair (.int .i64) (.pair (.sl (.pair (.int .i64) (.pair .str .unit))) .unit))))) (.pair (.int .i64) .unit))), (0, .box (.pair (.sl (.pair .str (.pair (.int .i64) (.pair (.int .i64) (.pair (.sl (.pair (.int .i64) (.pair .str .unit))) .unit))))) (.pair (.int .i64) .unit))), (1, .v (.int .i64)), (0, .box (.pair .str (.pair (.int .i64) (.pair (.int .i64) (.pair (.sl (.pair (.int .i64) (.pair .str .unit))) .unit))))), (0, .box (.pair .str (.pair (.int .i64) (.pair (.int .i64) (.pair (.sl (.pair (.int .i64) (.pair .str .unit))) .unit)))))]) (K : Ex -> List A -> Option Bool) : Option Bool :=
 z3w N x.1 x.2.1 x.2.2.1 x.2.2.2.1 x.2.2.2.2.1 (fun a0 => (K .ret (mkS [(4, .v .bool)] 81 (a0, ())))) (K .normal (mkS [(2, .box (.pair (.sl (.pair .str (.pair (.int .i64) (.pair (.int .i64) (.pair (.sl (.pair (.int .i64) (.pair .str .unit))) .unit))))) (.pair (.int .i64) .unit))), (0, .box (.pair (.sl (.pair .str (.pair (.int .i64) (.pair (.int .i64) (.pair (.sl (.pair (.int .i64) (.pair .str .unit))) .unit))))) (.pair (.int .i64) .unit))), (1, .v (.int .i64)), (0, .box (.pair .str (.pair (.int .i64) (.pair (.int .i64) (.pair (.sl (.pair (.int .i64) (.pair .str .unit))) .unit))))), (0, .box (.pair .str (.pair (.int .i64) (.pair (.int .i64) (.pair (.sl (.pair (.int .i64) (.pair .str .unit))) .unit)))))] 78 (x.1, x.2.1, x.2.2.1, x.2.2.2.1, x.2.2.2.2.1, ())))

def z71 (N : Nat) : Hd Bool := fun st K => (unS [(2, .box (.pair (.sl (.pair .str (.pair (.int .i64) (.pair (.int .i64) (.pair (.sl (.pair (.int .i64) (.pair .str .unit))) .unit))))) (.pair (.int .i64) .unit))), (0, .box (.pair (.sl (.pair .str (.pair (.int .i64) (.pair (.int .i64) (.pair (.sl (.pair (.int .i64) (.pair .str .unit))) .unit))))) (.pair (.int .i64) .unit))), (1, .v (.int .i64)), (0, .box (.pair .str (.pair (.int .i64) (.pair (.int .i64) (.pair (.sl (.pair (.int .i64) (.pair .str .unit))) .unit))))), (0, .box (.pair .str (.pair (.int .i64) (.pair (.int .i64) (.pair (.sl (.pair (.int .i64) (.pair .str .unit))) .unit)))))] 78 (restr [6, 7, 5, 2, 3] 0 st)).bind fun x => z78 N x K

def zek (N : Nat) : Tab Bool := [([0, 0, 1, 0, 0, 1, 0, 0, 1, 0, 1, 1], z70 N)]

theorem zdk {N : Nat} {c : Ctx} (hb : Base Go.Proofs.Try.prog (z10 N) c) : zu Go.Proofs.Try.prog c (zf zd [0, 1, 0, 0, 1, 0, 0, 1, 0, 1, 1]) (z71 N) :=
  zp (s := [(2, .box (.pair (.sl (.pair .str (.pair (.int .i64) (.pair (.int .i64) (.pair (.sl (.pair (.int .i64) (.pair .str .unit))) .unit))))) (.pair (.int .i64) .unit))), (0, .box (.pair (.sl (.pair .str (.pair (.int .i64) (.pair (.int .i64) (.pair (.sl (.pair (.int .i64) (.pair .str .unit))) .unit))))) (.pair (.int .i64) .unit))), (1, .v (.int .i64)), (0, .box (.pair .str (.pair (.int .i64) (.pair (.int .i64) (.pair (.sl (.pair (.int .i64) (.pair .str .unit))) .unit))))), (0, .box (.pair .str (.pair (.int .i64) (.pair (.int .i64) (.pair (.sl (.pair (.int .i64) (.pair .str .unit))) .unit)))))]) (m := 78) (g := z78 N) [6, 7, 5, 2, 3] (z7 hb N (zek N) z17 zd (TabOk.cons (zdj hb) TabOk.nil) [0, 1, 0, 0, 1, 0, 0, 1, 0, 1, 1] _ rfl) (fun x K => by kernel_rfl)

def z3t (N : Nat) (a : ((List ((List UInt8) × (Int × (Int × ((List (Int × ((List UInt8) × Unit))) × Unit))))) × (Int × Unit))) (b : ((List ((List UInt8) × (Int × (Int × ((List (Int × ((List UInt8) × Unit))) × Unit))))) × (Int × Unit))) (i : Int) (x6 : ((List UInt8) × (Int × (Int × ((List (Int × ((List UInt8) × Unit))) × Unit))))) (y : ((List UInt8) × (Int × (Int × ((List (Int × ((List UInt8) × Unit))) × Unit))))) (k : Int) (rec : Int -> Option Bool) (k0 : Bool -> Option Bool) (k1 : Option Bool) : Option Bool :=
 cond (decide (k < (((List.length x6.2.2.2.1) : Nat) : Int)))
 (cond (Go.Lift.inR k (List.length x6.2.2.2.1))
 (cond (Go.Lift.inR k (List.length y.2.2.2.1))
 (cond (!(Go.Lift.eqD (Go.Lift.unT (Go.Lift.T.pair (Go.Lift.T.int Go.IntKind.i64) (Go.Lift.T.pair Go.Lift.T.str Go.Lift.T.unit))) (List.getD x6.2.2.2.1 (Int.toNat k) ((0 : Int), (([] : List UInt8), ()))) (List.getD y.2.2.2.1 (Int.toNat k) ((0 : Int), (([] : List UInt8), ())))))
 (k0 false)
 (rec (Go.IntKind.wrap Go.IntKind.i64 (k + (1 : Int)))))
 (none))
 (none))
 (k1)

def z6x (N : Nat) (a : ((List ((List UInt8) × (Int × (Int × ((List (Int × ((List UInt8) × Unit))) × Unit))))) × (Int × Unit))) (b : ((List ((List UInt8) × (Int × (Int × ((List (Int × ((List UInt8) × Unit))) × Unit))))) × (Int × Unit))) (i : Int) (x6 : ((List UInt8) × (Int × (Int × ((List (Int × ((List UInt8) × Unit))) × Unit))))) (y : ((List UInt8) × (Int × (Int × ((List (Int × ((List UInt8) × Unit))) × Unit))))) (k : Int) (k0 : Bool -> Option Bool) (k1 : Option Bool) : Option Bool :=
 iter (fun (v : Int) r => z3t N a b i x6 y v (fun k => (r k)) k0 k1) N k

def z76 (N : Nat) (i : (((List ((List UInt8) × (Int × (Int × ((List (Int × ((List UInt8) × Unit))) × Unit))))) × (Int × Unit)) × ((List ((List UInt8) × (Int × (Int × ((List (Int × ((List UInt8) × Unit))) × Unit))))) × (Int × Unit)) × Int × ((List UInt8) × (Int × (Int × ((List (Int × ((List UInt8) × Unit))) × Unit)))) × ((List UInt8) × (Int × (Int × ((List (Int × ((List UInt8) × Unit))) × Unit)))))) (v : Int) (r : Int -> Option Bool) (K : Ex -> List A -> Option Bool) : Option Bool :=
 z3t N i.1 i.2.1 i.2.2.1 i.2.2.2.1 i.2.2.2.2 v (fun k => (r k)) (fun a0 => (K .ret (mkS [(4, .v .bool)] 81 (a0, ())))) (K (.exit 2) (mkS [(2, .box (.pair (.sl (.pair .str (.pair (.int .i64) (.pair (.int .i64) (.pair (.sl (.pair (.int .i64) (.pair .str .unit))) .unit))))) (.pair (.int .i64) .unit))), (0, .box (.pair (.sl (.pair .str (.pair (.int .i64) (.pair (.int .i64) (.pair (.sl (.pair (.int .i64) (.pair .str .unit))) .unit))))) (.pair (.int .i64) .unit))), (1, .v (.int .i64))] 80 (i.1, i.2.1, i.2.2.1, ())))

def z6z (N : Nat) : Hd Bool := fun st K => (unS [(2, .box (.pair (.sl (.pair .str (.pair (.int .i64) (.pair (.int .i64) (.pair (.sl (.pair (.int .i64) (.pair .str .unit))) .unit))))) (.pair (.int .i64) .unit))), (0, .box (.pair (.sl (.pair .str (.pair (.int .i64) (.pair (.int .i64) (.pair (.sl (.pair (.int .i64) (.pair .str .unit))) .unit))))) (.pair (.int .i64) .unit))), (1, .v (.int .i64)), (0, .box (.pair .str (.pair (.int .i64) (.pair (.int .i64) (.pair (.sl (.pair (.int .i64) (.pair .str .unit))) .unit))))), (0, .box (.pair .str (.pair (.int .i64) (.pair (.int .i64) (.pair (.sl (.pair (.int .i64) (.pair .str .unit))) .unit))))), (0, .v (.int .i64))] 77 (restr [8, 6, 7, 5, 2, 3] 0 st)).bind fun x => iter (fun v r => z76 N ((fun x => (x.1, x.2.1, x.2.2.1, x.2.2.2.1, x.2.2.2.2.1)) x) v r K) N ((fun x => x.2.2.2.2.2.1) x)

def zei (N : Nat) : Tab Bool := []

theorem zdi {N : Nat} {c : Ctx} (hb : Base Go.Proofs.Try.prog (z10 N) c) : zu Go.Proofs.Try.prog c (zf zd [0, 1, 1, 1, 0, 0, 1, 0, 0, 1, 0, 1, 1]) (z6z N) :=
  z4m (s := [(2, .box (.pair (.sl (.pair .str (.pair (.int .i64) (.pair (.int .i64) (.pair (.sl (.pair (.int .i64) (.pair .str .unit))) .unit))))) (.pair (.int .i64) .unit))), (0, .box (.pair (.sl (.pair .str (.pair (.int .i64) (.pair (.int .i64) (.pair (.sl (.pair (.int .i64) (.pair .str .unit))) .unit))))) (.pair (.int .i64) .unit))), (1, .v (.int .i64)), (0, .box (.pair .str (.pair (.int .i64) (.pair (.int .i64) (.pair (.sl (.pair (.int .i64) (.pair .str .unit))) .unit))))), (0, .box (.pair .str (.pair (.int .i64) (.pair (.int .i64) (.pair (.sl (.pair (.int .i64) (.pair .str .unit))) .unit))))), (0, .v (.int .i64))]) (m := 77) (z76 N) [8, 6, 7, 5, 2, 3] N (fun x => (x.1, x.2.1, x.2.2.1, x.2.2.2.1, x.2.2.2.2.1)) (fun x => x.2.2.2.2.2.1) (fun i v => (i.1, i.2.1, i.2.2.1, i.2.2.2.1, i.2.2.2.2, v, ())) (fun _ => rfl) (z7 hb N (zei N) z17 zd TabOk.nil [0, 0, 1, 1, 1, 0, 0, 1, 0, 0, 1, 0, 1, 1] _ rfl) (fun i v r K => by kernel_rfl)

def z3x (N : Nat) (a : ((List ((List UInt8) × (Int × (Int × ((List (Int × ((List UInt8) × Unit))) × Unit))))) × (Int × Unit))) (b : ((List ((List UInt8) × (Int × (Int × ((List (Int × ((List UInt8) × Unit))) × Unit))))) × (Int × Unit))) (i : Int) (k0 : Bool -> Option Bool) (k1 : Option Bool) : Option Bool :=
 cond (Go.Lift.inR i (List.length a.1))
 (cond (Go.Lift.inR i (List.length b.1))
 (z3w N a b i (List.getD a.1 (Int.toNat i) (([] : List UInt8), ((0 : Int), ((0 : Int), (([] : List (Int × ((List UInt8) × Unit))), ()))))) (List.getD b.1 (Int.toNat i) (([] : List UInt8), ((0 : Int), ((0 : Int), (([] : List (Int × ((List UInt8) × Unit))), ())))))
 (fun x4 => k0 x4)
 (z6x N a b i (List.getD a.1 (Int.toNat i) (([] : List UInt8), ((0 : Int), ((0 : Int), (([] : List (Int × ((List UInt8) × Unit))), ()))))) (List.getD b.1 (Int.toNat i) (([] : List UInt8), ((0 : Int), ((0 : Int), (([] : List (Int × ((List UInt8) × Unit))), ()))))) (0 : Int)
 (fun x41 => k0 x41)
 (k1)))
 (none))
 (none)

def z79 (N : Nat) (x : z2b [(2, .box (.pair (.sl (.pair .str (.pair (.int .i64) (.pair (.int .i64) (.pair (.sl (.pair (.int .i64) (.pair .str .unit))) .unit))))) (.pair (.int .i64) .unit))), (0, .box (.pair (.sl (.pair .str (.pair (.int .i64) (.pair (.int .i64) (.pair (.sl (.pair (.int .i64) (.pair .str .unit))) .unit))))) (.pair (.int .i64) .unit))), (1, .v (.int .i64))]) (K : Ex -> List A -> Option Bool) : Option Bool :=
 z3x N x.1 x.2.1 x.2.2.1 (fun a0 => (K .ret (mkS [(4, .v .bool)] 81 (a0, ())))) (K .normal (mkS [(2, .box (.pair (.sl (.pair .str (.pair (.int .i64) (.pair (.int .i64) (.pair (.sl (.pair (.int .i64) (.pair .str .unit))) .unit))))) (.pair (.int .i64) .unit))), (0, .box (.pair (.sl (.pair .str (.pair (.int .i64) (.pair (.int .i64) (.pair (.sl (.pair (.int .i64) (.pair .str .unit))) .unit))))) (.pair (.int .i64) .unit))), (1, .v (.int .i64))] 80 (x.1, x.2.1, x.2.2.1, ())))

def z72 (N : Nat) : Hd Bool := fun st K => (unS [(2, .box (.pair (.sl (.pair .str (.pair (.int .i64) (.pair (.int .i64) (.pair (.sl (.pair (.int .i64) (.pair .str .unit))) .unit))))) (.pair (.int .i64) .unit))), (0, .box (.pair (.sl (.pair .str (.pair (.int .i64) (.pair (.int .i64) (.pair (.sl (.pair (.int .i64) (.pair .str .unit))) .unit))))) (.pair (.int .i64) .unit))), (1, .v (.int .i64))] 80 (restr [2, 5, 3] 0 st)).bind fun x => z79 N x K

def zel (N : Nat) : Tab Bool := [([0, 1, 0, 0, 1, 0, 0, 1, 0, 1, 1], z71 N), ([0, 1, 1, 1, 0, 0, 1, 0, 0, 1, 0, 1, 1], z6z N)]

theorem zdl {N : Nat} {c : Ctx} (hb : Base Go.Proofs.Try.prog (z10 N) c) : zu Go.Proofs.Try.prog c (zf zd [0, 1, 0, 0, 1, 0, 1, 1]) (z72 N) :=
  zp (s := [(2, .box (.pair (.sl (.pair .str (.pair (.int .i64) (.pair (.int .i64) (.pair (.sl (.pair (.int .i64) (.pair .str .unit))) .unit))))) (.pair (.int .i64) .unit))), (0, .box (.pair (.sl (.pair .str (.pair (.int .i64) (.pair (.int .i64) (.pair (.sl (.pair (.int .i64) (.pair .str .unit))) .unit))))) (.pair (.int .i64) .unit))), (1, .v (.int .i64))]) (m := 80) (g := z79 N) [2, 5, 3] (z7 hb N (zel N) z17 zd (TabOk.cons (zdk hb) (TabOk.cons (zdi hb) TabOk.nil)) [0, 1, 0, 0, 1, 0, 1, 1] _ rfl) (fun x K => by kernel_rfl)

def z3u (N : Nat) (a : ((List ((List UInt8) × (Int × (Int × ((List (Int × ((List UInt8) × Unit))) × Unit))))) × (Int × Unit))) (b : ((List ((List UInt8) × (Int × (Int × ((List (Int × ((List UInt8) × Unit))) × Unit))))) × (Int × Unit))) (i : Int) (rec : Int -> Option Bool) (k0 : Bool -> Option Bool) (k1 : Option Bool) : Option Bool :=
 cond (decide (i < (((List.length a.1) : Nat) : Int)))
 (z3x N a b i
 (fun x4 => k0 x4)
 (rec (Go.IntKind.wrap Go.IntKind.i64 (i + (1 : Int)))))
 (k1)

def z6y (N : Nat) (a : ((List ((List UInt8) × (Int × (Int × ((List (Int × ((List UInt8) × Unit))) × Unit))))) × (Int × Unit))) (b : ((List ((List UInt8) × (Int × (Int × ((List (Int × ((List UInt8) × Unit))) × Unit))))) × (Int × Unit))) (i : Int) (k0 : Bool -> Option Bool) (k1 : Option Bool) : Option Bool :=
 iter (fun (v : Int) r => z3u N a b v (fun i => (r i)) k0 k1) N i

def z7a (N : Nat) (i : (((List ((List UInt8) × (Int × (Int × ((List (Int × ((List UInt8) × Unit))) × Unit))))) × (Int × Unit)) × ((List ((List UInt8) × (Int × (Int × ((List (Int × ((List UInt8) × Unit))) × Unit))))) × (Int × Unit)))) (v : Int) (r : Int -> Option Bool) (K : Ex -> List A -> Option Bool) : Option Bool :=
 z3u N i.1 i.2 v (fun i => (r i)) (fun a0 => (K .ret (mkS [(4, .v .bool)] 81 (a0, ())))) (K (.exit 0) (mkS [] 86 ()))

def z73 (N : Nat) : Hd Bool := fun st K => (unS [(2, .box (.pair (.sl (.pair .str (.pair (.int .i64) (.pair (.int .i64) (.pair (.sl (.pair (.int .i64) (.pair .str .unit))) .unit))))) (.pair (.int .i64) .unit))), (0, .box (.pair (.sl (.pair .str (.pair (.int .i64) (.pair (.int .i64) (.pair (.sl (.pair (.int .i64) (.pair .str .unit))) .unit))))) (.pair (.int .i64) .unit))), (1, .v (.int .i64))] 80 (restr [5, 2, 3] 0 st)).bind fun x => iter (fun v r => z7a N ((fun x => (x.1, x.2.1)) x) v r K) N ((fun x => x.2.2.1) x)

def zem (N : Nat) : Tab Bool := [([0, 1, 0, 0, 1, 0, 1, 1], z72 N)]

theorem zdm {N : Nat} {c : Ctx} (hb : Base Go.Proofs.Try.prog (z10 N) c) : zu Go.Proofs.Try.prog c (zf zd [0, 1, 0, 1, 1]) (z73 N) :=
  z4m (s := [(2, .box (.pair (.sl (.pair .str (.pair (.int .i64) (.pair (.int .i64) (.pair (.sl (.pair (.int .i64) (.pair .str .unit))) .unit))))) (.pair (.int .i64) .unit))), (0, .box (.pair (.sl (.pair .str (.pair (.int .i64) (.pair (.int .i64) (.pair (.sl (.pair (.int .i64) (.pair .str .unit))) .unit))))) (.pair (.int .i64) .unit))), (1, .v (.int .i64))]) (m := 80) (z7a N) [5, 2, 3] N (fun x => (x.1, x.2.1)) (fun x => x.2.2.1) (fun i v => (i.1, i.2, v, ())) (fun _ => rfl) (z7 hb N (zem N) z17 zd (TabOk.cons (zdl hb) TabOk.nil) [0, 0, 1, 0, 1, 1] _ rfl) (fun i v r K => by kernel_rfl)

def z29 (N : Nat) (a : ((List ((List UInt8) × (Int × (Int × ((List (Int × ((List UInt8) × Unit))) × Unit))))) × (Int × Unit))) (b : ((List ((List UInt8) × (Int × (Int × ((List (Int × ((List UInt8) × Unit))) × Unit))))) × (Int × Unit))) : Option Bool :=
 z3z N a b
 (fun x4 => some x4)
 (z6y N a b (0 : Int)
 (fun x41 => some x41)
 (some true))

def z7u (N : Nat) : Tab Bool := [([0, 1], z75 N), ([0, 1, 0, 1, 1], z73 N)]

theorem zd3 (N : Nat) (x : z2b [(0, .v (.pair (.sl (.pair .str (.pair (.int .i64) (.pair (.int .i64) (.pair (.sl (.pair (.int .i64) (.pair .str .unit))) .unit))))) (.pair (.int .i64) .unit))), (0, .v (.pair (.sl (.pair .str (.pair (.int .i64) (.pair (.int .i64) (.pair (.sl (.pair (.int .i64) (.pair .str .unit))) .unit))))) (.pair (.int .i64) .unit)))]) : zft (z10 N) N (z7u N) z17 Go.Proofs.Try.f14 (mkS [(0, .v (.pair (.sl (.pair .str (.pair (.int .i64) (.pair (.int .i64) (.pair (.sl (.pair (.int .i64) (.pair .str .unit))) .unit))))) (.pair (.int .i64) .unit))), (0, .v (.pair (.sl (.pair .str (.pair (.int .i64) (.pair (.int .i64) (.pair (.sl (.pair (.int .i64) (.pair .str .unit))) .unit))))) (.pair (.int .i64) .unit)))] 0 x) (z6m (.v .bool) 2) = z29 N x.1 x.2.1 := by kernel_rfl

def z6l (N : Nat) : List A -> Res := z2x [(0, .v (.pair (.sl (.pair .str (.pair (.int .i64) (.pair (.int .i64) (.pair (.sl (.pair (.int .i64) (.pair .str .unit))) .unit))))) (.pair (.int .i64) .unit))), (0, .v (.pair (.sl (.pair .str (.pair (.int .i64) (.pair (.int .i64) (.pair (.sl (.pair (.int .i64) (.pair .str .unit))) .unit))))) (.pair (.int .i64) .unit)))] (fun x => z29 N x.1 x.2.1) (zfu (.v .bool) 2)

theorem zep (N : Nat) : Contract Go.Proofs.Try.prog z12 14 (z6l N) :=
  Contract.of (E := z10 N) (H := z7u N) (L := z17) (N := N) (body := zd) (K := (z6m (.v .bool) 2)) (zdp N) Go.Proofs.Try.func14 (by kernel_rfl) (by decide) (fun _ hb => (TabOk.cons (zdo hb) (TabOk.cons (zdm hb) TabOk.nil))) (fun x y h => by rw [zd3]; exact h) (z22 (s := (.v .bool)) (m := 2))

end
end Go.Proofs.YtobbmaplbpdniaaLg

set_option linter.all false
set_option maxRecDepth 100000
namespace Go.Proofs.YtobbmaplbpdniaaLg
noncomputable section
open Go Go.Lift Go.Proofs.YtobbmaplbpdniaaPx

abbrev zmm := Int × (List UInt8 × Unit)
abbrev zdy := List UInt8 × (Int × (Int × (List zmm × Unit)))

def z8e (next : Int) : Int -> List zmm -> Bool
  | _, [] => true
  | last, k :: l => decide (last < k.1) && (decide (k.1 < next) && (decide (k.2.1.length = 32) && z8e next k.1 l))

theorem z121 (N : Nat) {t : zdy} (hN : t.2.2.2.1.length < N) (hl : t.2.2.2.1.length <= 1000000) :
    z5x N t 0 t.2.2.2.1 ((t.2.2.2.1.length : Nat) : Int) 0 (fun x21 => some x21) (some true) = some (z8e t.2.2.1 0 t.2.2.2.1) := by
  rw [z5x]
  refine (z4n (fun v => ∃ (i : Nat) (last : Int), v = (t, last, (i : Int)) /\ i <= t.2.2.2.1.length) (fun v => t.2.2.2.1.length - v.2.2.toNat) (fun v => some (z8e t.2.2.1 v.2.1 (t.2.2.2.1.drop v.2.2.toNat))) ?_ N (t, 0, 0) ⟨0, 0, rfl, by omega⟩ (by simp only; omega)).trans (by rfl)
  rintro v r ⟨i, last, rfl, hi⟩ hr
  simp only [Int.toNat_natCast]
  rw [z5v]
  by_cases hlt : i < t.2.2.2.1.length
  . rw [zl (decide_eq_true (by omega)), zl (z2m hlt), z5w, Int.toNat_natCast, z4q t.2.2.2.1 ((0 : Int), (([] : List UInt8), ())) i hlt, z8e]
    generalize List.getD t.2.2.2.1 i ((0 : Int), (([] : List UInt8), ())) = k
    rw [zhn]
    by_cases h1 : last < k.1
    . rw [zl (decide_eq_true h1), Option.bind_some, decide_eq_true h1, Bool.true_and]
      dsimp only
      by_cases h2 : k.1 < t.2.2.1
      . rw [decide_eq_true h2, Bool.not_true, cond_false, Bool.true_and]
        by_cases h3 : k.2.1.length = 32
        . rw [show ((((List.length k.2.1) : Nat) : Int) != (32 : Int)) = false by rw [h3]; rfl, cond_false, z2q (by omega), decide_eq_true h3, Bool.true_and, hr _ ⟨i + 1, k.1, rfl, by omega⟩ (by simp only; omega)]
          simp only [Int.toNat_natCast]
        . rw [show ((((List.length k.2.1) : Nat) : Int) != (32 : Int)) = true by rw [bne_iff_ne]; omega, cond_true, decide_eq_false h3, Bool.false_and]
      . rw [decide_eq_false h2, Bool.not_false, cond_true, cond_true, Bool.false_and]
    . rw [z19 (decide_eq_false h1), Option.bind_some, decide_eq_false h1]
      rfl
  . rw [z19 (decide_eq_false (by omega)), z8k _ (by omega), z8e]

end
end Go.Proofs.YtobbmaplbpdniaaLg
