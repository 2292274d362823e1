import Derived.Test.YtlohplpnhopldaaLgW
import Derived.Test.YtlohplpnhopldaaLgPrPi1
import Derived.WalkKit
import Derived.Tactics
import Derived.Tactics2
import Derived.Lib.Hide
import Derived.Below
import Derived.WalkSmall
import Derived.LoopN
import Derived.Deep.RegionHeld3
import Derived.Laws.IdiomStrings
import Derived.Test.YtlohplpnhopldaaChecked
import Derived.KernelRfl
set_option linter.all false
set_option maxRecDepth 100000
namespace Go.Proofs.YtlohplpnhopldaaLg
noncomputable section
open Go Go.Lift

def ty3 : TyI := ⟨(Go.TypeDesc.int Go.IntKind.i64), 1, 8, (.int .i64), (0 : Int), false⟩

theorem z10y : TyOk Go.Proofs.Try.prog 3 ty3 := TyOk.of (by kernel_rfl) (by kernel_rfl) (by kernel_rfl) (by kernel_rfl)

def ty4 : TyI := ⟨Go.TypeDesc.bool, 1, 1, .bool, false, false⟩

theorem z10x : TyOk Go.Proofs.Try.prog 4 ty4 := TyOk.of (by kernel_rfl) (by kernel_rfl) (by kernel_rfl) (by kernel_rfl)

def ty5 : TyI := ⟨(Go.TypeDesc.int Go.IntKind.u8), 1, 1, (.int .u8), (0 : Int), false⟩

theorem z10w : TyOk Go.Proofs.Try.prog 5 ty5 := TyOk.of (by kernel_rfl) (by kernel_rfl) (by kernel_rfl) (by kernel_rfl)

def ty9 : TyI := ⟨Go.TypeDesc.string, 1, 16, .str, ([] : List UInt8), false⟩

theorem z10v : TyOk Go.Proofs.Try.prog 9 ty9 := TyOk.of (by kernel_rfl) (by kernel_rfl) (by kernel_rfl) (by kernel_rfl)

def ty21 : TyI := ⟨(Go.TypeDesc.int Go.IntKind.i32), 1, 4, (.int .i32), (0 : Int), false⟩

theorem zzx : TyOk Go.Proofs.Try.prog 21 ty21 := TyOk.of (by kernel_rfl) (by kernel_rfl) (by kernel_rfl) (by kernel_rfl)

def ty22 : TyI := ⟨(Go.TypeDesc.slice 41), 1, 24, (.sl (.pair .str (.pair (.int .i64) (.pair (.int .i64) (.pair (.sl (.pair (.int .i64) (.pair .str .unit))) .unit))))), ([] : List ((List UInt8) × (Int × (Int × ((List (Int × ((List UInt8) × Unit))) × Unit))))), false⟩

theorem zzw : TyOk Go.Proofs.Try.prog 22 ty22 := TyOk.of (by kernel_rfl) (by kernel_rfl) (by kernel_rfl) (by kernel_rfl)

def ty24 : TyI := ⟨(Go.TypeDesc.struct (List.toArray ([(Go.Field.mk "Tenants" 22 0 false "" "" 0), (Go.Field.mk "Serial" 3 1 false "" "" 24)] : List Go.Field))), 2, 32, (.pair (.sl (.pair .str (.pair (.int .i64) (.pair (.int .i64) (.pair (.sl (.pair (.int .i64) (.pair .str .unit))) .unit))))) (.pair (.int .i64) .unit)), (([] : List ((List UInt8) × (Int × (Int × ((List (Int × ((List UInt8) × Unit))) × Unit))))), (0 : Int), ()), true⟩

theorem zzv : TyOk Go.Proofs.Try.prog 24 ty24 := TyOk.of (by kernel_rfl) (by kernel_rfl) (by kernel_rfl) (by kernel_rfl)

def ty25 : TyI := ⟨(Go.TypeDesc.array 2 9), 2, 32, (.arr 2 .str), ([([] : List UInt8), ([] : List UInt8)] : List (List UInt8)), true⟩

theorem zzu : TyOk Go.Proofs.Try.prog 25 ty25 := TyOk.of (by kernel_rfl) (by kernel_rfl) (by kernel_rfl) (by kernel_rfl)

def ty28 : TyI := ⟨(Go.TypeDesc.slice 51), 1, 24, (.sl (.pair (.int .i64) (.pair .str (.pair (.int .i64) (.pair (.int .i64) (.pair .str .unit)))))), ([] : List (Int × ((List UInt8) × (Int × (Int × ((List UInt8) × Unit)))))), false⟩

theorem zzt : TyOk Go.Proofs.Try.prog 28 ty28 := TyOk.of (by kernel_rfl) (by kernel_rfl) (by kernel_rfl) (by kernel_rfl)

def ty29 : TyI := ⟨(Go.TypeDesc.int Go.IntKind.i64), 1, 8, (.int .i64), (0 : Int), false⟩

theorem zzs : TyOk Go.Proofs.Try.prog 29 ty29 := TyOk.of (by kernel_rfl) (by kernel_rfl) (by kernel_rfl) (by kernel_rfl)

def ty39 : TyI := ⟨(Go.TypeDesc.slice 43), 1, 24, (.sl (.pair (.int .i64) (.pair .str .unit))), ([] : List (Int × ((List UInt8) × Unit))), false⟩

theorem zzr : TyOk Go.Proofs.Try.prog 39 ty39 := TyOk.of (by kernel_rfl) (by kernel_rfl) (by kernel_rfl) (by kernel_rfl)

def ty41 : TyI := ⟨(Go.TypeDesc.struct (List.toArray ([(Go.Field.mk "Name" 9 0 false "" "" 0), (Go.Field.mk "Epoch" 3 1 false "" "" 16), (Go.Field.mk "Next" 3 2 false "" "" 24), (Go.Field.mk "Keys" 39 3 false "" "" 32)] : List Go.Field))), 4, 56, (.pair .str (.pair (.int .i64) (.pair (.int .i64) (.pair (.sl (.pair (.int .i64) (.pair .str .unit))) .unit)))), (([] : List UInt8), (0 : Int), (0 : Int), ([] : List (Int × ((List UInt8) × Unit))), ()), true⟩

theorem ty41_ok : TyOk Go.Proofs.Try.prog 41 ty41 := TyOk.of (by kernel_rfl) (by kernel_rfl) (by kernel_rfl) (by kernel_rfl)

def ty43 : TyI := ⟨(Go.TypeDesc.struct (List.toArray ([(Go.Field.mk "Num" 3 0 false "" "" 0), (Go.Field.mk "Text" 9 1 false "" "" 8)] : List Go.Field))), 2, 24, (.pair (.int .i64) (.pair .str .unit)), ((0 : Int), ([] : List UInt8), ()), true⟩

theorem ty43_ok : TyOk Go.Proofs.Try.prog 43 ty43 := TyOk.of (by kernel_rfl) (by kernel_rfl) (by kernel_rfl) (by kernel_rfl)

def ty51 : TyI := ⟨(Go.TypeDesc.struct (List.toArray ([(Go.Field.mk "Kind" 3 0 false "" "" 0), (Go.Field.mk "Tenant" 9 1 false "" "" 8), (Go.Field.mk "Num" 3 2 false "" "" 24), (Go.Field.mk "Epoch" 3 3 false "" "" 32), (Go.Field.mk "Text" 9 4 false "" "" 40)] : List Go.Field))), 5, 56, (.pair (.int .i64) (.pair .str (.pair (.int .i64) (.pair (.int .i64) (.pair .str .unit))))), ((0 : Int), ([] : List UInt8), (0 : Int), (0 : Int), ([] : List UInt8), ()), true⟩

theorem zzq : TyOk Go.Proofs.Try.prog 51 ty51 := TyOk.of (by kernel_rfl) (by kernel_rfl) (by kernel_rfl) (by kernel_rfl)

def ty57 : TyI := ⟨(Go.TypeDesc.func (List.toArray ([41] : List Nat)) (List.toArray ([4] : List Nat)) false), 1, 8, .opq, Go.Value.nilFunc, false⟩

theorem zzp : TyOk Go.Proofs.Try.prog 57 ty57 := TyOk.of (by kernel_rfl) (by kernel_rfl) (by kernel_rfl) (by kernel_rfl)

def ty71 : TyI := ⟨(Go.TypeDesc.func (List.toArray ([43] : List Nat)) (List.toArray ([4] : List Nat)) false), 1, 8, .opq, Go.Value.nilFunc, false⟩

theorem zzo : TyOk Go.Proofs.Try.prog 71 ty71 := TyOk.of (by kernel_rfl) (by kernel_rfl) (by kernel_rfl) (by kernel_rfl)

def ty73 : TyI := ⟨(Go.TypeDesc.func (List.toArray ([21, 4] : List Nat)) (List.toArray ([4] : List Nat)) false), 1, 8, .opq, Go.Value.nilFunc, false⟩

theorem zzn : TyOk Go.Proofs.Try.prog 73 ty73 := TyOk.of (by kernel_rfl) (by kernel_rfl) (by kernel_rfl) (by kernel_rfl)

def tys : List (Nat × TyI) := [(3, ty3), (4, ty4), (5, ty5), (9, ty9), (21, ty21), (22, ty22), (24, ty24), (25, ty25), (28, ty28), (29, ty29), (39, ty39), (41, ty41), (43, ty43), (51, ty51), (57, ty57), (71, ty71), (73, ty73)]

theorem z2e : TysOk Go.Proofs.Try.prog tys := TysOk.cons z10y (TysOk.cons z10x (TysOk.cons z10w (TysOk.cons z10v (TysOk.cons zzx (TysOk.cons zzw (TysOk.cons zzv (TysOk.cons zzu (TysOk.cons zzt (TysOk.cons zzs (TysOk.cons zzr (TysOk.cons ty41_ok (TysOk.cons ty43_ok (TysOk.cons zzq (TysOk.cons zzp (TysOk.cons zzo (TysOk.cons zzn (TysOk.nil)))))))))))))))))

theorem mixed : Go.Proofs.Try.prog.follows .mixedOrders = true := by kernel_rfl

def zia : Code := (Go.Proofs.Try.f30.body).getD .skip

def zf1 : List (List Nat × List Nat) := [([0], [0, 1]), ([0, 1], [4]), ([1, 1], [4])]

def z9p (N : Nat) : Env := z5d tys zw [] [] [] [] false [] []

theorem zjb (N : Nat) : EnvOk Go.Proofs.Try.prog (z9p N) := z19 mixed z2e (FnsOk.nil) (ItsOk.nil)

def z2b (N : Nat) (n : Int) (low : Int) : Option Bool :=
 cond (decide (low <= n))
 (some (decide (n <= (1099511627776 : Int))))
 (some false)

def zf0 (N : Nat) : Tab Bool := []

theorem zi9 (N : Nat) (x : z2g [(0, .v (.int .i64)), (0, .v (.int .i64))]) : zcy (z9p N) N (zf0 N) zf1 Go.Proofs.Try.f30 (mkS [(0, .v (.int .i64)), (0, .v (.int .i64))] 0 x) (z68 (.v .bool) 2) = z2b N x.1 x.2.1 := by kernel_rfl

def z4o (N : Nat) : List A -> Res := z28 [(0, .v (.int .i64)), (0, .v (.int .i64))] (fun x => z2b N x.1 x.2.1) (z7w (.v .bool) 2)

theorem z89 (N : Nat) : Contract Go.Proofs.Try.prog zw 30 (z4o N) :=
  Contract.of (E := z9p N) (H := zf0 N) (L := zf1) (N := N) (body := zia) (K := (z68 (.v .bool) 2)) (zjb N) Go.Proofs.Try.func30 (by kernel_rfl) (by decide) (fun _ hb => TabOk.nil) (fun x y h => by rw [zi9]; exact h) (z20 (s := (.v .bool)) (m := 2))

def zkg : Code := (Go.Proofs.Try.f58.body).getD .skip

def zhx : List (List Nat × List Nat) := [([0], [0]), ([0, 1], [2]), ([1, 1], [2])]

def zc7 (N : Nat) : Env := z5d tys zw [] [] [] [] false [] []

theorem zm3 (N : Nat) : EnvOk Go.Proofs.Try.prog (zc7 N) := z19 mixed z2e (FnsOk.nil) (ItsOk.nil)

def zcv (N : Nat) (c : Int) : Option Bool :=
 cond (decide ((48 : Int) <= c))
 (some (decide (c <= (57 : Int))))
 (some false)

def zhw (N : Nat) : Tab Bool := []

theorem zkf (N : Nat) (x : z2g [(0, .v (.int .i32))]) : zcy (zc7 N) N (zhw N) zhx Go.Proofs.Try.f58 (mkS [(0, .v (.int .i32))] 0 x) (z68 (.v .bool) 1) = zcv N x.1 := by kernel_rfl

def zdu (N : Nat) : List A -> Res := z28 [(0, .v (.int .i32))] (fun x => zcv N x.1) (z7w (.v .bool) 1)

theorem zod (N : Nat) : Contract Go.Proofs.Try.prog zw 58 (zdu N) :=
  Contract.of (E := zc7 N) (H := zhw N) (L := zhx) (N := N) (body := zkg) (K := (z68 (.v .bool) 1)) (zm3 N) Go.Proofs.Try.func58 (by kernel_rfl) (by decide) (fun _ hb => TabOk.nil) (fun x y h => by rw [zkf]; exact h) (z20 (s := (.v .bool)) (m := 1))

def z59 : Code := (Go.Proofs.Try.f54.body).getD .skip

def z7k : List (List Nat × List Nat) := [([0], [0, 1]), ([0, 1], [5, 0, 1]), ([0, 1, 1], [4]), ([1, 1, 1], [4])]

def z5a (N : Nat) : Env := z5d tys zw [(58, zdu N)] [] [] [] false [] []

theorem zgr (N : Nat) : EnvOk Go.Proofs.Try.prog (z5a N) := z19 mixed z2e (FnsOk.cons (zod N) (FnsOk.nil)) (ItsOk.nil)

def z6b (N : Nat) (c : Int) (first : Bool) (k0 : Bool -> Option Bool) : Option Bool :=
 cond (decide ((97 : Int) <= c))
 (k0 (decide (c <= (122 : Int))))
 (k0 false)

def zau (N : Nat) (x : z2g [(0, .v (.int .i32)), (0, .v .bool)]) (K : Ex -> List A -> Option Bool) : Option Bool :=
 z6b N x.1 x.2.1 (fun a2 => (K .normal (mkS [(0, .v (.int .i32)), (0, .v .bool), (3, .v .bool)] 19 (x.1, x.2.1, a2, ()))))

def zat (N : Nat) : Hd Bool := fun st K => (unS [(0, .v (.int .i32)), (0, .v .bool)] 23 (restr [0, 1] 0 st)).bind fun x => zau N x K

def zig (N : Nat) : Tab Bool := []

theorem zgq {N : Nat} {c : Ctx} (hb : Base Go.Proofs.Try.prog (z5a N) c) : z1b Go.Proofs.Try.prog c (zm z59 [0, 1]) (zat N) :=
  z1v (s := [(0, .v (.int .i32)), (0, .v .bool)]) (m := 23) (g := zau N) [0, 1] (zo hb N (zig N) z7k z59 TabOk.nil [0, 1] _ rfl) (fun x K => by kernel_rfl)

def z5b (N : Nat) (c : Int) (first : Bool) : Option Bool :=
 z6b N c first
 (fun letter => cond letter
 (some true)
 ((zcv N c).bind fun y =>
 cond y
 (some (!first))
 (cond (c == (45 : Int))
 (some (!first))
 (some false))))

def zc6 (N : Nat) : Tab Bool := [([0, 1], zat N)]

theorem zfu (N : Nat) (x : z2g [(0, .v (.int .i32)), (0, .v .bool)]) : zcy (z5a N) N (zc6 N) z7k Go.Proofs.Try.f54 (mkS [(0, .v (.int .i32)), (0, .v .bool)] 0 x) (z68 (.v .bool) 2) = z5b N x.1 x.2.1 := by kernel_rfl

def z5p (N : Nat) : List A -> Res := z28 [(0, .v (.int .i32)), (0, .v .bool)] (fun x => z5b N x.1 x.2.1) (z7w (.v .bool) 2)

theorem zav (N : Nat) : Contract Go.Proofs.Try.prog zw 54 (z5p N) :=
  Contract.of (E := z5a N) (H := zc6 N) (L := z7k) (N := N) (body := z59) (K := (z68 (.v .bool) 2)) (zgr N) Go.Proofs.Try.func54 (by kernel_rfl) (by decide) (fun _ hb => (TabOk.cons (zgq hb) TabOk.nil)) (fun x y h => by rw [zfu]; exact h) (z20 (s := (.v .bool)) (m := 2))

def z1p : Code := (Go.Proofs.Try.f53.body).getD .skip

def z3e : List (List Nat × List Nat) := [([0], [0, 1]), ([0, 0, 1], [13, 0, 1]), ([1, 0, 1], [0, 1]), ([0, 0, 1, 0, 1], [4]), ([1, 0, 1, 0, 1], [4]), ([0, 0, 1, 1], [15, 1]), ([0, 1, 0, 1, 1], [15, 1]), ([0, 0, 0, 1, 0, 1, 1], [17, 16, 1, 15]), ([0, 1, 0, 0, 1, 0, 1, 1], [16, 1, 15]), ([1, 0, 1, 0, 0, 1, 0, 1, 1], []), ([0, 0, 1, 1, 0, 0, 1, 0, 1, 1], [1, 6, 5, 15]), ([0, 1, 0, 1, 1, 0, 0, 1, 0, 1, 1], [25, 15, 1]), ([1, 1, 0, 1, 1, 0, 0, 1, 0, 1, 1], [15, 1]), ([0, 0, 1, 1, 0, 1, 1, 0, 0, 1, 0, 1, 1], [4]), ([1, 0, 1, 1, 0, 1, 1, 0, 0, 1, 0, 1, 1], [4]), ([1, 1, 0, 0, 1, 0, 1, 1], [15, 1]), ([1, 0, 1, 1], []), ([0, 1, 1, 1], [4]), ([1, 1, 1, 1], [4])]

def z2l (N : Nat) : Env := z5d tys zw [(54, z5p N)] [] [] [] false [] []

theorem zgv (N : Nat) : EnvOk Go.Proofs.Try.prog (z2l N) := z19 mixed z2e (FnsOk.cons (zav N) (FnsOk.nil)) (ItsOk.nil)

def z6d (N : Nat) (s : (List UInt8)) (k0 : Bool -> Option Bool) : Option Bool :=
 cond (s == ([] : List UInt8))
 (k0 true)
 (k0 (decide ((32 : Int) < (((List.length s) : Nat) : Int))))

def zb1 (N : Nat) (x : z2g [(0, .v .str), (0, .fnc 54)]) (K : Ex -> List A -> Option Bool) : Option Bool :=
 z6d N x.1 (fun a1 => (K .normal (mkS [(0, .v .str), (0, .fnc 54), (11, .v .bool)] 12 (x.1, (), a1, ()))))

def zay (N : Nat) : Hd Bool := fun st K => (unS [(0, .v .str), (0, .fnc 54)] 24 (restr [0, 1] 0 st)).bind fun x => zb1 N x K

def zii (N : Nat) : Tab Bool := []

theorem zgt {N : Nat} {c : Ctx} (hb : Base Go.Proofs.Try.prog (z2l N) c) : z1b Go.Proofs.Try.prog c (zm z1p [0, 0, 1]) (zay N) :=
  z1v (s := [(0, .v .str), (0, .fnc 54)]) (m := 24) (g := zb1 N) [0, 1] (zo hb N (zii N) z3e z1p TabOk.nil [0, 0, 1] _ rfl) (fun x K => by kernel_rfl)

def z6e (N : Nat) (s : (List UInt8)) (k0 : Bool -> Option Bool) (k1 : Option Bool) : Option Bool :=
 z6d N s
 (fun x13 => cond x13
 (k0 false)
 (k1))

def zb2 (N : Nat) (x : z2g [(0, .v .str), (0, .fnc 54)]) (K : Ex -> List A -> Option Bool) : Option Bool :=
 z6e N x.1 (fun a0 => (K .ret (mkS [(4, .v .bool)] 21 (a0, ())))) (K .normal (mkS [(0, .v .str), (0, .fnc 54)] 24 (x.1, (), ())))

def zaz (N : Nat) : Hd Bool := fun st K => (unS [(0, .v .str), (0, .fnc 54)] 24 (restr [0, 1] 0 st)).bind fun x => zb2 N x K

def zij (N : Nat) : Tab Bool := [([0, 0, 1], zay N)]

theorem zgu {N : Nat} {c : Ctx} (hb : Base Go.Proofs.Try.prog (z2l N) c) : z1b Go.Proofs.Try.prog c (zm z1p [0, 1]) (zaz N) :=
  z1v (s := [(0, .v .str), (0, .fnc 54)]) (m := 24) (g := zb2 N) [0, 1] (zo hb N (zij N) z3e z1p (TabOk.cons (zgt hb) TabOk.nil) [0, 1] _ rfl) (fun x K => by kernel_rfl)

def z6c (N : Nat) (x15 : (List UInt8 × Nat)) (rec : (List UInt8 × Nat) -> Option Bool) (k0 : Bool -> Option Bool) (k1 : Option Bool) : Option Bool :=
 cond (decide (x15.2 < (List.length x15.1)))
 ((z5b N (((Go.Lift.runeAt x15.1 x15.2).1 : Nat) : Int) (((x15.2 : Nat) : Int) == (0 : Int))).bind fun y =>
 cond (!y)
 (k0 false)
 (rec (x15.1, (x15.2 + (Go.Lift.runeAt x15.1 x15.2).2))))
 (k1)

def zaw (N : Nat) (x15 : (List UInt8 × Nat)) (k0 : Bool -> Option Bool) (k1 : Option Bool) : Option Bool :=
 iter (fun (v : (List UInt8 × Nat)) r => z6c N v (fun x15 => (r x15)) k0 k1) N x15

def zb0 (N : Nat) (i : Unit) (v : (List UInt8 × Nat)) (r : (List UInt8 × Nat) -> Option Bool) (K : Ex -> List A -> Option Bool) : Option Bool :=
 z6c N v (fun x15 => (r x15)) (fun a0 => (K .ret (mkS [(4, .v .bool)] 21 (a0, ())))) (K (.exit 0) (mkS [] 26 ()))

def zax (N : Nat) : Hd Bool := fun st K => (unS [(1, .fnc 54), (13, .iter)] 10 (restr [15, 1] 0 st)).bind fun x => iter (fun v r => zb0 N ((fun x => ()) x) v r K) N ((fun x => x.2.1) x)

def zih (N : Nat) : Tab Bool := []

theorem zgs {N : Nat} {c : Ctx} (hb : Base Go.Proofs.Try.prog (z2l N) c) : z1b Go.Proofs.Try.prog c (zm z1p [0, 1, 0, 1, 1]) (zax N) :=
  z7l (s := [(1, .fnc 54), (13, .iter)]) (m := 10) (zb0 N) [15, 1] N (fun x => ()) (fun x => x.2.1) (fun i v => ((), v, ())) (fun _ => rfl) (zo hb N (zih N) z3e z1p TabOk.nil [0, 0, 1, 0, 1, 1] _ rfl) (fun i v r K => by kernel_rfl)

def z5c (N : Nat) (s : (List UInt8)) : Option Bool :=
 z6e N s
 (fun x4 => some x4)
 (zaw N (s, 0)
 (fun x41 => some x41)
 (some true))

def zc8 (N : Nat) : Tab Bool := [([0, 1], zaz N), ([0, 1, 0, 1, 1], zax N)]

theorem zfv (N : Nat) (x : z2g [(0, .v .str), (0, .fnc 54)]) : zcy (z2l N) N (zc8 N) z3e Go.Proofs.Try.f53 (mkS [(0, .v .str), (0, .fnc 54)] 0 x) (z68 (.v .bool) 2) = z5c N x.1 := by kernel_rfl

def z9b (N : Nat) : List A -> Res := z28 [(0, .v .str), (0, .fnc 54)] (fun x => z5c N x.1) (z7w (.v .bool) 2)

theorem zik (N : Nat) : Contract Go.Proofs.Try.prog zw 53 (z9b N) :=
  Contract.of (E := z2l N) (H := zc8 N) (L := z3e) (N := N) (body := z1p) (K := (z68 (.v .bool) 2)) (zgv N) Go.Proofs.Try.func53 (by kernel_rfl) (by decide) (fun _ hb => (TabOk.cons (zgu hb) (TabOk.cons (zgs hb) TabOk.nil))) (fun x y h => by rw [zfv]; exact h) (z20 (s := (.v .bool)) (m := 2))

def zm5 : Code := (Go.Proofs.Try.f40.body).getD .skip

def zki : List (List Nat × List Nat) := [([0], [0]), ([0, 1], [2]), ([1, 1], [2])]

def zef (N : Nat) : Env := z5d tys zw [(53, z9b N), (54, z5p N)] [] [] [] false [] []

theorem zoe (N : Nat) : EnvOk Go.Proofs.Try.prog (zef N) := z19 mixed z2e (FnsOk.cons (zik N) (FnsOk.cons (zav N) (FnsOk.nil))) (ItsOk.nil)

def z62 (N : Nat) (s : (List UInt8)) : Option Bool :=
 (z5c N s).bind fun y =>
 some y

def zkh (N : Nat) : Tab Bool := []

theorem zm4 (N : Nat) (x : z2g [(0, .v .str)]) : zcy (zef N) N (zkh N) zki Go.Proofs.Try.f40 (mkS [(0, .v .str)] 0 x) (z68 (.v .bool) 1) = z62 N x.1 := by kernel_rfl

def zae (N : Nat) : List A -> Res := z28 [(0, .v .str)] (fun x => z62 N x.1) (z7w (.v .bool) 1)

theorem zc9 (N : Nat) : Contract Go.Proofs.Try.prog zw 40 (zae N) :=
  Contract.of (E := zef N) (H := zkh N) (L := zki) (N := N) (body := zm5) (K := (z68 (.v .bool) 1)) (zoe N) Go.Proofs.Try.func40 (by kernel_rfl) (by decide) (fun _ hb => TabOk.nil) (fun x y h => by rw [zm4]; exact h) (z20 (s := (.v .bool)) (m := 1))

def zjd : Code := (Go.Proofs.Try.f48.body).getD .skip

def zhi : List (List Nat × List Nat) := [([0], [0, 1, 2]), ([0, 1], [0, 1, 5, 2]), ([0, 1, 1], [5, 0, 2, 1]), ([0, 1, 1, 1], [4, 1, 2]), ([1, 1, 1, 1], [4, 1, 2])]

def zbg (N : Nat) : Env := z5d tys zw [] [] [] [1, 2] false [] []

theorem zlf (N : Nat) : EnvOk Go.Proofs.Try.prog (zbg N) := z19 mixed z2e (FnsOk.nil) (ItsOk.nil)

def zcr (N : Nat) (n : Int) (x1 : Int) (x2 : ((List UInt8) × (Int × (Int × ((List (Int × ((List UInt8) × Unit))) × Unit))))) : Option (Bool × (Int × ((List UInt8) × (Int × (Int × ((List (Int × ((List UInt8) × Unit))) × Unit)))) × Unit)) :=
 cond (decide (x1 < n))
 (some ((decide (n < x2.2.2.1)), (n, (x2, ()))))
 (some (false, (n, (x2, ()))))

def zhh (N : Nat) : Tab (Bool × (Int × ((List UInt8) × (Int × (Int × ((List (Int × ((List UInt8) × Unit))) × Unit)))) × Unit)) := []

theorem zjc (N : Nat) (x : z2g [(0, .v (.int .i64)), (0, .box (.int .i64)), (0, .box (.pair .str (.pair (.int .i64) (.pair (.int .i64) (.pair (.sl (.pair (.int .i64) (.pair .str .unit))) .unit)))))]) : zcy (zbg N) N (zhh N) zhi Go.Proofs.Try.f48 (mkS [(0, .v (.int .i64)), (0, .box (.int .i64)), (0, .box (.pair .str (.pair (.int .i64) (.pair (.int .i64) (.pair (.sl (.pair (.int .i64) (.pair .str .unit))) .unit)))))] 0 x) (zpv (.v .bool) [(1, .box (.int .i64)), (0, .box (.pair .str (.pair (.int .i64) (.pair (.int .i64) (.pair (.sl (.pair (.int .i64) (.pair .str .unit))) .unit)))))] 0) = zcr N x.1 x.2.1 x.2.2.1 := by kernel_rfl

def zdf (N : Nat) : List A -> Res := z28 [(0, .v (.int .i64)), (0, .box (.int .i64)), (0, .box (.pair .str (.pair (.int .i64) (.pair (.int .i64) (.pair (.sl (.pair (.int .i64) (.pair .str .unit))) .unit)))))] (fun x => zcr N x.1 x.2.1 x.2.2.1) (zy5 (.v .bool) [(1, .box (.int .i64)), (0, .box (.pair .str (.pair (.int .i64) (.pair (.int .i64) (.pair (.sl (.pair (.int .i64) (.pair .str .unit))) .unit)))))] 0)

theorem znq (N : Nat) : Contract Go.Proofs.Try.prog zw 48 (zdf N) :=
  Contract.of (E := zbg N) (H := zhh N) (L := zhi) (N := N) (body := zjd) (K := (zpv (.v .bool) [(1, .box (.int .i64)), (0, .box (.pair .str (.pair (.int .i64) (.pair (.int .i64) (.pair (.sl (.pair (.int .i64) (.pair .str .unit))) .unit)))))] 0)) (zlf N) Go.Proofs.Try.func48 (by kernel_rfl) (by decide) (fun _ hb => TabOk.nil) (fun x y h => by rw [zjc]; exact h) (zoi (s := (.v .bool)) (os := [(1, .box (.int .i64)), (0, .box (.pair .str (.pair (.int .i64) (.pair (.int .i64) (.pair (.sl (.pair (.int .i64) (.pair .str .unit))) .unit)))))]) (m := 0))

def z12 : Code := (Go.Proofs.Try.f31.body).getD .skip

def z1y : List (List Nat × List Nat) := [([0], [1]), ([0, 0, 1], [28, 1]), ([1, 0, 1], [1]), ([0, 0, 1, 0, 1], [2]), ([1, 0, 1, 0, 1], [2]), ([0, 1, 1], [3, 1]), ([0, 1, 1, 1], [1, 4, 3]), ([0, 0, 1, 1, 1, 1], [33, 32, 31, 4, 3, 1]), ([0, 1, 0, 1, 1, 1, 1], [33, 32, 31, 4, 3, 1]), ([0, 0, 0, 1, 0, 1, 1, 1, 1], [34, 31, 33, 4, 32, 3, 1]), ([0, 1, 0, 0, 1, 0, 1, 1, 1, 1], [31, 33, 4, 32, 3, 1]), ([1, 0, 1, 0, 0, 1, 0, 1, 1, 1, 1], []), ([0, 0, 0, 1, 1, 0, 0, 1, 0, 1, 1, 1, 1], [4, 6, 33, 32, 31, 3, 1]), ([0, 1, 0, 0, 1, 1, 0, 0, 1, 0, 1, 1, 1, 1], [47, 33, 32, 31, 4, 3, 1]), ([1, 1, 0, 0, 1, 1, 0, 0, 1, 0, 1, 1, 1, 1], [33, 32, 31, 4, 3, 1]), ([0, 0, 1, 1, 0, 0, 1, 1, 0, 0, 1, 0, 1, 1, 1, 1], [2]), ([1, 0, 1, 1, 0, 0, 1, 1, 0, 0, 1, 0, 1, 1, 1, 1], [2]), ([0, 1, 1, 0, 0, 1, 0, 1, 1, 1, 1], [33, 32, 31, 4, 3, 1]), ([1, 1, 1, 0, 0, 1, 0, 1, 1, 1, 1], [33, 32, 31, 4, 3, 1]), ([1, 0, 1, 1, 1, 1], []), ([0, 1, 1, 1, 1, 1], [2]), ([1, 1, 1, 1, 1, 1], [2])]

def z1m (N : Nat) : Env := z5d tys zw [(48, zdf N), (40, zae N), (30, z4o N)] [(4, .unit)] [] [] false [] []

theorem zd5 (N : Nat) : EnvOk Go.Proofs.Try.prog (z1m N) := z19 mixed z2e (FnsOk.cons (znq N) (FnsOk.cons (zc9 N) (FnsOk.cons (z89 N) (FnsOk.nil)))) (ItsOk.nil)

def z48 (N : Nat) (t : ((List UInt8) × (Int × (Int × ((List (Int × ((List UInt8) × Unit))) × Unit))))) (k0 : Bool -> Option Bool) : Option Bool :=
 (z62 N t.1).bind fun y =>
 cond (!y)
 (k0 true)
 ((z2b N t.2.1 (0 : Int)).bind fun y1 =>
 cond (!y1)
 (k0 true)
 ((z2b N t.2.2.1 (1 : Int)).bind fun y2 =>
 cond (!y2)
 (k0 true)
 (k0 (decide ((8 : Int) < (((List.length t.2.2.2.1) : Nat) : Int))))))

def z79 (N : Nat) (x : z2g [(1, .box (.pair .str (.pair (.int .i64) (.pair (.int .i64) (.pair (.sl (.pair (.int .i64) (.pair .str .unit))) .unit)))))]) (K : Ex -> List A -> Option Bool) : Option Bool :=
 z48 N x.1 (fun a1 => (K .normal (mkS [(1, .box (.pair .str (.pair (.int .i64) (.pair (.int .i64) (.pair (.sl (.pair (.int .i64) (.pair .str .unit))) .unit))))), (26, .v .bool)] 20 (x.1, a1, ()))))

def z75 (N : Nat) : Hd Bool := fun st K => (unS [(1, .box (.pair .str (.pair (.int .i64) (.pair (.int .i64) (.pair (.sl (.pair (.int .i64) (.pair .str .unit))) .unit)))))] 47 (restr [1] 0 st)).bind fun x => z79 N x K

def ze6 (N : Nat) : Tab Bool := []

theorem zd3 {N : Nat} {c : Ctx} (hb : Base Go.Proofs.Try.prog (z1m N) c) : z1b Go.Proofs.Try.prog c (zm z12 [0, 0, 1]) (z75 N) :=
  z1v (s := [(1, .box (.pair .str (.pair (.int .i64) (.pair (.int .i64) (.pair (.sl (.pair (.int .i64) (.pair .str .unit))) .unit)))))]) (m := 47) (g := z79 N) [1] (zo hb N (ze6 N) z1y z12 TabOk.nil [0, 0, 1] _ rfl) (fun x K => by kernel_rfl)

def z49 (N : Nat) (t : ((List UInt8) × (Int × (Int × ((List (Int × ((List UInt8) × Unit))) × Unit))))) (k0 : Bool -> Option Bool) (k1 : Option Bool) : Option Bool :=
 z48 N t
 (fun x28 => cond x28
 (k0 false)
 (k1))

def z7a (N : Nat) (x : z2g [(1, .box (.pair .str (.pair (.int .i64) (.pair (.int .i64) (.pair (.sl (.pair (.int .i64) (.pair .str .unit))) .unit)))))]) (K : Ex -> List A -> Option Bool) : Option Bool :=
 z49 N x.1 (fun a0 => (K .ret (mkS [(2, .v .bool)] 46 (a0, ())))) (K .normal (mkS [(1, .box (.pair .str (.pair (.int .i64) (.pair (.int .i64) (.pair (.sl (.pair (.int .i64) (.pair .str .unit))) .unit)))))] 47 (x.1, ())))

def z76 (N : Nat) : Hd Bool := fun st K => (unS [(1, .box (.pair .str (.pair (.int .i64) (.pair (.int .i64) (.pair (.sl (.pair (.int .i64) (.pair .str .unit))) .unit)))))] 47 (restr [1] 0 st)).bind fun x => z7a N x K

def ze7 (N : Nat) : Tab Bool := [([0, 0, 1], z75 N)]

theorem zd4 {N : Nat} {c : Ctx} (hb : Base Go.Proofs.Try.prog (z1m N) c) : z1b Go.Proofs.Try.prog c (zm z12 [0, 1]) (z76 N) :=
  z1v (s := [(1, .box (.pair .str (.pair (.int .i64) (.pair (.int .i64) (.pair (.sl (.pair (.int .i64) (.pair .str .unit))) .unit)))))]) (m := 47) (g := z7a N) [1] (zo hb N (ze7 N) z1y z12 (TabOk.cons (zd3 hb) TabOk.nil) [0, 1] _ rfl) (fun x K => by kernel_rfl)

def z46 (N : Nat) (t : ((List UInt8) × (Int × (Int × ((List (Int × ((List UInt8) × Unit))) × Unit))))) (last : Int) (k : (Int × ((List UInt8) × Unit))) (x31 : (List (Int × ((List UInt8) × Unit)))) (x32 : Int) (x33 : Int) (k0 : ((List UInt8) × (Int × (Int × ((List (Int × ((List UInt8) × Unit))) × Unit)))) -> Int -> Bool -> Option Bool) : Option Bool :=
 (zcr N k.1 last t).bind fun y =>
 cond (!y.1)
 (k0 y.2.2.1 y.2.1 true)
 (k0 y.2.2.1 y.2.1 ((((List.length k.2.1) : Nat) : Int) != (32 : Int)))

def z77 (N : Nat) (x : z2g [(1, .box (.pair .str (.pair (.int .i64) (.pair (.int .i64) (.pair (.sl (.pair (.int .i64) (.pair .str .unit))) .unit))))), (1, .box (.int .i64)), (0, .clo 48 [3, 1]), (1, .box (.pair (.int .i64) (.pair .str .unit))), (24, .v (.sl (.pair (.int .i64) (.pair .str .unit)))), (0, .v (.int .i64)), (0, .v (.int .i64))]) (K : Ex -> List A -> Option Bool) : Option Bool :=
 z46 N x.1 x.2.1 x.2.2.2.1 x.2.2.2.2.1 x.2.2.2.2.2.1 x.2.2.2.2.2.2.1 (fun a0 a1 a5 => (K .normal (mkS [(1, .box (.pair .str (.pair (.int .i64) (.pair (.int .i64) (.pair (.sl (.pair (.int .i64) (.pair .str .unit))) .unit))))), (1, .box (.int .i64)), (0, .clo 48 [3, 1]), (26, .v (.sl (.pair (.int .i64) (.pair .str .unit)))), (0, .v (.int .i64)), (0, .v (.int .i64)), (13, .v .bool)] 1 (a0, a1, (), x.2.2.2.2.1, x.2.2.2.2.2.1, x.2.2.2.2.2.2.1, a5, ()))))

def z73 (N : Nat) : Hd Bool := fun st K => (unS [(1, .box (.pair .str (.pair (.int .i64) (.pair (.int .i64) (.pair (.sl (.pair (.int .i64) (.pair .str .unit))) .unit))))), (1, .box (.int .i64)), (0, .clo 48 [3, 1]), (1, .box (.pair (.int .i64) (.pair .str .unit))), (24, .v (.sl (.pair (.int .i64) (.pair .str .unit)))), (0, .v (.int .i64)), (0, .v (.int .i64))] 15 (restr [4, 6, 33, 32, 31, 3, 1] 0 st)).bind fun x => z77 N x K

def ze4 (N : Nat) : Tab Bool := []

theorem zd1 {N : Nat} {c : Ctx} (hb : Base Go.Proofs.Try.prog (z1m N) c) : z1b Go.Proofs.Try.prog c (zm z12 [0, 1, 0, 0, 1, 1, 0, 0, 1, 0, 1, 1, 1, 1]) (z73 N) :=
  z1v (s := [(1, .box (.pair .str (.pair (.int .i64) (.pair (.int .i64) (.pair (.sl (.pair (.int .i64) (.pair .str .unit))) .unit))))), (1, .box (.int .i64)), (0, .clo 48 [3, 1]), (1, .box (.pair (.int .i64) (.pair .str .unit))), (24, .v (.sl (.pair (.int .i64) (.pair .str .unit)))), (0, .v (.int .i64)), (0, .v (.int .i64))]) (m := 15) (g := z77 N) [4, 6, 33, 32, 31, 3, 1] (zo hb N (ze4 N) z1y z12 TabOk.nil [0, 1, 0, 0, 1, 1, 0, 0, 1, 0, 1, 1, 1, 1] _ rfl) (fun x K => by kernel_rfl)

def z45 (N : Nat) (x31 : (List (Int × ((List UInt8) × Unit)))) (x32 : Int) (t : ((List UInt8) × (Int × (Int × ((List (Int × ((List UInt8) × Unit))) × Unit))))) (last : Int) (x33 : Int) (rec : ((List UInt8) × (Int × (Int × ((List (Int × ((List UInt8) × Unit))) × Unit)))) -> Int -> Int -> Option Bool) (k0 : Bool -> Option Bool) (k1 : Option Bool) : Option Bool :=
 cond (decide (x33 < x32))
 (cond (Go.Lift.inR x33 (List.length x31))
 (z46 N t last (List.getD x31 (Int.toNat x33) ((0 : Int), (([] : List UInt8), ()))) x31 x32 x33
 (fun t1 last1 x47 => cond x47
 (k0 false)
 (rec t1 last1 (Go.IntKind.wrap Go.IntKind.i64 (x33 + (1 : Int))))))
 (none))
 (k1)

def z47 (N : Nat) (t : ((List UInt8) × (Int × (Int × ((List (Int × ((List UInt8) × Unit))) × Unit))))) (last : Int) (x31 : (List (Int × ((List UInt8) × Unit)))) (x32 : Int) (x33 : Int) (k0 : Bool -> Option Bool) (k1 : Option Bool) : Option Bool :=
 iter (fun (v : (((List UInt8) × (Int × (Int × ((List (Int × ((List UInt8) × Unit))) × Unit)))) × Int × Int)) r => z45 N x31 x32 v.1 v.2.1 v.2.2 (fun t last x33 => (r (t, last, x33))) k0 k1) N (t, last, x33)

def z78 (N : Nat) (i : ((List (Int × ((List UInt8) × Unit))) × Int)) (v : (((List UInt8) × (Int × (Int × ((List (Int × ((List UInt8) × Unit))) × Unit)))) × Int × Int)) (r : (((List UInt8) × (Int × (Int × ((List (Int × ((List UInt8) × Unit))) × Unit)))) × Int × Int) -> Option Bool) (K : Ex -> List A -> Option Bool) : Option Bool :=
 z45 N i.1 i.2 v.1 v.2.1 v.2.2 (fun t last x33 => (r (t, last, x33))) (fun a0 => (K .ret (mkS [(2, .v .bool)] 46 (a0, ())))) (K (.exit 0) (mkS [] 49 ()))

def z74 (N : Nat) : Hd Bool := fun st K => (unS [(1, .box (.pair .str (.pair (.int .i64) (.pair (.int .i64) (.pair (.sl (.pair (.int .i64) (.pair .str .unit))) .unit))))), (1, .box (.int .i64)), (0, .clo 48 [3, 1]), (26, .v (.sl (.pair (.int .i64) (.pair .str .unit)))), (0, .v (.int .i64)), (0, .v (.int .i64))] 15 (restr [33, 32, 31, 4, 3, 1] 0 st)).bind fun x => iter (fun v r => z78 N ((fun x => (x.2.2.2.1, x.2.2.2.2.1)) x) v r K) N ((fun x => (x.1, x.2.1, x.2.2.2.2.2.1)) x)

def ze5 (N : Nat) : Tab Bool := [([0, 1, 0, 0, 1, 1, 0, 0, 1, 0, 1, 1, 1, 1], z73 N)]

theorem zd2 {N : Nat} {c : Ctx} (hb : Base Go.Proofs.Try.prog (z1m N) c) : z1b Go.Proofs.Try.prog c (zm z12 [0, 1, 0, 1, 1, 1, 1]) (z74 N) :=
  z7l (s := [(1, .box (.pair .str (.pair (.int .i64) (.pair (.int .i64) (.pair (.sl (.pair (.int .i64) (.pair .str .unit))) .unit))))), (1, .box (.int .i64)), (0, .clo 48 [3, 1]), (26, .v (.sl (.pair (.int .i64) (.pair .str .unit)))), (0, .v (.int .i64)), (0, .v (.int .i64))]) (m := 15) (z78 N) [33, 32, 31, 4, 3, 1] N (fun x => (x.2.2.2.1, x.2.2.2.2.1)) (fun x => (x.1, x.2.1, x.2.2.2.2.2.1)) (fun i v => (v.1, v.2.1, (), i.1, i.2, v.2.2, ())) (fun _ => rfl) (zo hb N (ze5 N) z1y z12 (TabOk.cons (zd1 hb) TabOk.nil) [0, 0, 1, 0, 1, 1, 1, 1] _ rfl) (fun i v r K => by kernel_rfl)

def z29 (N : Nat) (t : ((List UInt8) × (Int × (Int × ((List (Int × ((List UInt8) × Unit))) × Unit))))) : Option Bool :=
 z49 N t
 (fun x2 => some x2)
 (z47 N t (0 : Int) t.2.2.2.1 (((List.length t.2.2.2.1) : Nat) : Int) (0 : Int)
 (fun x21 => some x21)
 (some true))

def z80 (N : Nat) : Tab Bool := [([0, 1], z76 N), ([0, 1, 0, 1, 1, 1, 1], z74 N)]

theorem zbh (N : Nat) (x : z2g [(0, .v (.pair .str (.pair (.int .i64) (.pair (.int .i64) (.pair (.sl (.pair (.int .i64) (.pair .str .unit))) .unit)))))]) : zcy (z1m N) N (z80 N) z1y Go.Proofs.Try.f31 (mkS [(0, .v (.pair .str (.pair (.int .i64) (.pair (.int .i64) (.pair (.sl (.pair (.int .i64) (.pair .str .unit))) .unit)))))] 0 x) (z68 (.v .bool) 1) = z29 N x.1 := by kernel_rfl

def z6i (N : Nat) : List A -> Res := z28 [(0, .v (.pair .str (.pair (.int .i64) (.pair (.int .i64) (.pair (.sl (.pair (.int .i64) (.pair .str .unit))) .unit)))))] (fun x => z29 N x.1) (z7w (.v .bool) 1)

theorem ze8 (N : Nat) : Contract Go.Proofs.Try.prog zw 31 (z6i N) :=
  Contract.of (E := z1m N) (H := z80 N) (L := z1y) (N := N) (body := z12) (K := (z68 (.v .bool) 1)) (zd5 N) Go.Proofs.Try.func31 (by kernel_rfl) (by decide) (fun _ hb => (TabOk.cons (zd4 hb) (TabOk.cons (zd2 hb) TabOk.nil))) (fun x y h => by rw [zbh]; exact h) (z20 (s := (.v .bool)) (m := 1))

def z1n : Code := (Go.Proofs.Try.f13.body).getD .skip

def z4g : List (List Nat × List Nat) := [([0], [1]), ([0, 0, 1], [14, 1]), ([1, 0, 1], [1]), ([0, 0, 1, 0, 1], [2]), ([1, 0, 1, 0, 1], [2]), ([0, 0, 1, 1], [18, 17, 16, 1]), ([0, 1, 0, 1, 1], [18, 17, 16, 1]), ([0, 0, 0, 1, 0, 1, 1], [19, 18, 16, 1, 17]), ([0, 1, 0, 0, 1, 0, 1, 1], [18, 16, 1, 17]), ([1, 0, 1, 0, 0, 1, 0, 1, 1], []), ([0, 0, 0, 1, 1, 0, 0, 1, 0, 1, 1], [3, 4, 1, 18, 17, 16]), ([0, 1, 0, 0, 1, 1, 0, 0, 1, 0, 1, 1], [41, 18, 17, 16, 1]), ([1, 1, 0, 0, 1, 1, 0, 0, 1, 0, 1, 1], [18, 17, 16, 1]), ([0, 0, 1, 1, 0, 0, 1, 1, 0, 0, 1, 0, 1, 1], [2]), ([1, 0, 1, 1, 0, 0, 1, 1, 0, 0, 1, 0, 1, 1], [2]), ([0, 1, 1, 0, 0, 1, 0, 1, 1], [18, 17, 16, 1]), ([1, 1, 1, 0, 0, 1, 0, 1, 1], [18, 17, 16, 1]), ([1, 0, 1, 1], []), ([0, 1, 1, 1], [2]), ([1, 1, 1, 1], [2])]

def z3b (N : Nat) : Env := z5d tys zw [(31, z6i N), (30, z4o N)] [] [] [] false [] []

theorem zlm (N : Nat) : EnvOk Go.Proofs.Try.prog (z3b N) := z19 mixed z2e (FnsOk.cons (ze8 N) (FnsOk.cons (z89 N) (FnsOk.nil))) (ItsOk.nil)

def z9u (N : Nat) (s : ((List ((List UInt8) × (Int × (Int × ((List (Int × ((List UInt8) × Unit))) × Unit))))) × (Int × Unit))) (k0 : Bool -> Option Bool) : Option Bool :=
 cond (decide ((16 : Int) < (((List.length s.1) : Nat) : Int)))
 (k0 true)
 ((z2b N s.2.1 (0 : Int)).bind fun y =>
 k0 (!y))

def zfa (N : Nat) (x : z2g [(1, .box (.pair (.sl (.pair .str (.pair (.int .i64) (.pair (.int .i64) (.pair (.sl (.pair (.int .i64) (.pair .str .unit))) .unit))))) (.pair (.int .i64) .unit)))]) (K : Ex -> List A -> Option Bool) : Option Bool :=
 z9u N x.1 (fun a1 => (K .normal (mkS [(1, .box (.pair (.sl (.pair .str (.pair (.int .i64) (.pair (.int .i64) (.pair (.sl (.pair (.int .i64) (.pair .str .unit))) .unit))))) (.pair (.int .i64) .unit))), (12, .v .bool)] 28 (x.1, a1, ()))))

def zf6 (N : Nat) : Hd Bool := fun st K => (unS [(1, .box (.pair (.sl (.pair .str (.pair (.int .i64) (.pair (.int .i64) (.pair (.sl (.pair (.int .i64) (.pair .str .unit))) .unit))))) (.pair (.int .i64) .unit)))] 41 (restr [1] 0 st)).bind fun x => zfa N x K

def znv (N : Nat) : Tab Bool := []

theorem zlk {N : Nat} {c : Ctx} (hb : Base Go.Proofs.Try.prog (z3b N) c) : z1b Go.Proofs.Try.prog c (zm z1n [0, 0, 1]) (zf6 N) :=
  z1v (s := [(1, .box (.pair (.sl (.pair .str (.pair (.int .i64) (.pair (.int .i64) (.pair (.sl (.pair (.int .i64) (.pair .str .unit))) .unit))))) (.pair (.int .i64) .unit)))]) (m := 41) (g := zfa N) [1] (zo hb N (znv N) z4g z1n TabOk.nil [0, 0, 1] _ rfl) (fun x K => by kernel_rfl)

def z9v (N : Nat) (s : ((List ((List UInt8) × (Int × (Int × ((List (Int × ((List UInt8) × Unit))) × Unit))))) × (Int × Unit))) (k0 : Bool -> Option Bool) (k1 : Option Bool) : Option Bool :=
 z9u N s
 (fun x14 => cond x14
 (k0 false)
 (k1))

def zfb (N : Nat) (x : z2g [(1, .box (.pair (.sl (.pair .str (.pair (.int .i64) (.pair (.int .i64) (.pair (.sl (.pair (.int .i64) (.pair .str .unit))) .unit))))) (.pair (.int .i64) .unit)))]) (K : Ex -> List A -> Option Bool) : Option Bool :=
 z9v N x.1 (fun a0 => (K .ret (mkS [(2, .v .bool)] 40 (a0, ())))) (K .normal (mkS [(1, .box (.pair (.sl (.pair .str (.pair (.int .i64) (.pair (.int .i64) (.pair (.sl (.pair (.int .i64) (.pair .str .unit))) .unit))))) (.pair (.int .i64) .unit)))] 41 (x.1, ())))

def zf7 (N : Nat) : Hd Bool := fun st K => (unS [(1, .box (.pair (.sl (.pair .str (.pair (.int .i64) (.pair (.int .i64) (.pair (.sl (.pair (.int .i64) (.pair .str .unit))) .unit))))) (.pair (.int .i64) .unit)))] 41 (restr [1] 0 st)).bind fun x => zfb N x K

def znw (N : Nat) : Tab Bool := [([0, 0, 1], zf6 N)]

theorem zll {N : Nat} {c : Ctx} (hb : Base Go.Proofs.Try.prog (z3b N) c) : z1b Go.Proofs.Try.prog c (zm z1n [0, 1]) (zf7 N) :=
  z1v (s := [(1, .box (.pair (.sl (.pair .str (.pair (.int .i64) (.pair (.int .i64) (.pair (.sl (.pair (.int .i64) (.pair .str .unit))) .unit))))) (.pair (.int .i64) .unit)))]) (m := 41) (g := zfb N) [1] (zo hb N (znw N) z4g z1n (TabOk.cons (zlk hb) TabOk.nil) [0, 1] _ rfl) (fun x K => by kernel_rfl)

def z9s (N : Nat) (s : ((List ((List UInt8) × (Int × (Int × ((List (Int × ((List UInt8) × Unit))) × Unit))))) × (Int × Unit))) (i : Int) (t : ((List UInt8) × (Int × (Int × ((List (Int × ((List UInt8) × Unit))) × Unit))))) (x16 : (List ((List UInt8) × (Int × (Int × ((List (Int × ((List UInt8) × Unit))) × Unit)))))) (x17 : Int) (x18 : Int) (k0 : Bool -> Option Bool) : Option Bool :=
  cond (decide ((0 : Int) < i))
  (cond (Go.Lift.inR (Go.IntKind.wrap Go.IntKind.i64 (i - (1 : Int))) (List.length s.1))
    (cond ((Go.Op.bytesLess t.1 (List.getD s.1 (Int.toNat (Go.IntKind.wrap Go.IntKind.i64 (i - (1 : Int)))) (([] : List UInt8), ((0 : Int), ((0 : Int), (([] : List (Int × ((List UInt8) × Unit))), ()))))).1) || (t.1 == (List.getD s.1 (Int.toNat (Go.IntKind.wrap Go.IntKind.i64 (i - (1 : Int)))) (([] : List UInt8), ((0 : Int), ((0 : Int), (([] : List (Int × ((List UInt8) × Unit))), ()))))).1))
      (k0 true)
      ((z29 N t).bind fun y =>
        k0 (!y)))
    (none))
  ((z29 N t).bind fun y1 =>
    k0 (!y1))

def zf8 (N : Nat) (x : z2g [(1, .box (.pair (.sl (.pair .str (.pair (.int .i64) (.pair (.int .i64) (.pair (.sl (.pair (.int .i64) (.pair .str .unit))) .unit))))) (.pair (.int .i64) .unit))), (1, .v (.int .i64)), (0, .box (.pair .str (.pair (.int .i64) (.pair (.int .i64) (.pair (.sl (.pair (.int .i64) (.pair .str .unit))) .unit))))), (11, .v (.sl (.pair .str (.pair (.int .i64) (.pair (.int .i64) (.pair (.sl (.pair (.int .i64) (.pair .str .unit))) .unit)))))), (0, .v (.int .i64)), (0, .v (.int .i64))]) (K : Ex -> List A -> Option Bool) : Option Bool :=
 z9s N x.1 x.2.1 x.2.2.1 x.2.2.2.1 x.2.2.2.2.1 x.2.2.2.2.2.1 (fun a4 => (K .normal (mkS [(1, .box (.pair (.sl (.pair .str (.pair (.int .i64) (.pair (.int .i64) (.pair (.sl (.pair (.int .i64) (.pair .str .unit))) .unit))))) (.pair (.int .i64) .unit))), (14, .v (.sl (.pair .str (.pair (.int .i64) (.pair (.int .i64) (.pair (.sl (.pair (.int .i64) (.pair .str .unit))) .unit)))))), (0, .v (.int .i64)), (0, .v (.int .i64)), (22, .v .bool)] 1 (x.1, x.2.2.2.1, x.2.2.2.2.1, x.2.2.2.2.2.1, a4, ()))))

def zf4 (N : Nat) : Hd Bool := fun st K => (unS [(1, .box (.pair (.sl (.pair .str (.pair (.int .i64) (.pair (.int .i64) (.pair (.sl (.pair (.int .i64) (.pair .str .unit))) .unit))))) (.pair (.int .i64) .unit))), (1, .v (.int .i64)), (0, .box (.pair .str (.pair (.int .i64) (.pair (.int .i64) (.pair (.sl (.pair (.int .i64) (.pair .str .unit))) .unit))))), (11, .v (.sl (.pair .str (.pair (.int .i64) (.pair (.int .i64) (.pair (.sl (.pair (.int .i64) (.pair .str .unit))) .unit)))))), (0, .v (.int .i64)), (0, .v (.int .i64))] 24 (restr [3, 4, 1, 18, 17, 16] 0 st)).bind fun x => zf8 N x K

def znt (N : Nat) : Tab Bool := []

theorem zli {N : Nat} {c : Ctx} (hb : Base Go.Proofs.Try.prog (z3b N) c) : z1b Go.Proofs.Try.prog c (zm z1n [0, 1, 0, 0, 1, 1, 0, 0, 1, 0, 1, 1]) (zf4 N) :=
  z1v (s := [(1, .box (.pair (.sl (.pair .str (.pair (.int .i64) (.pair (.int .i64) (.pair (.sl (.pair (.int .i64) (.pair .str .unit))) .unit))))) (.pair (.int .i64) .unit))), (1, .v (.int .i64)), (0, .box (.pair .str (.pair (.int .i64) (.pair (.int .i64) (.pair (.sl (.pair (.int .i64) (.pair .str .unit))) .unit))))), (11, .v (.sl (.pair .str (.pair (.int .i64) (.pair (.int .i64) (.pair (.sl (.pair (.int .i64) (.pair .str .unit))) .unit)))))), (0, .v (.int .i64)), (0, .v (.int .i64))]) (m := 24) (g := zf8 N) [3, 4, 1, 18, 17, 16] (zo hb N (znt N) z4g z1n TabOk.nil [0, 1, 0, 0, 1, 1, 0, 0, 1, 0, 1, 1] _ rfl) (fun x K => by kernel_rfl)

def z9r (N : Nat) (s : ((List ((List UInt8) × (Int × (Int × ((List (Int × ((List UInt8) × Unit))) × Unit))))) × (Int × Unit))) (x16 : (List ((List UInt8) × (Int × (Int × ((List (Int × ((List UInt8) × Unit))) × Unit)))))) (x17 : Int) (x18 : Int) (rec : Int -> Option Bool) (k0 : Bool -> Option Bool) (k1 : Option Bool) : Option Bool :=
 cond (decide (x18 < x17))
 (cond (Go.Lift.inR x18 (List.length x16))
 (z9s N s x18 (List.getD x16 (Int.toNat x18) (([] : List UInt8), ((0 : Int), ((0 : Int), (([] : List (Int × ((List UInt8) × Unit))), ()))))) x16 x17 x18
 (fun x41 => cond x41
 (k0 false)
 (rec (Go.IntKind.wrap Go.IntKind.i64 (x18 + (1 : Int))))))
 (none))
 (k1)

def z9t (N : Nat) (s : ((List ((List UInt8) × (Int × (Int × ((List (Int × ((List UInt8) × Unit))) × Unit))))) × (Int × Unit))) (x16 : (List ((List UInt8) × (Int × (Int × ((List (Int × ((List UInt8) × Unit))) × Unit)))))) (x17 : Int) (x18 : Int) (k0 : Bool -> Option Bool) (k1 : Option Bool) : Option Bool :=
 iter (fun (v : Int) r => z9r N s x16 x17 v (fun x18 => (r x18)) k0 k1) N x18

def zf9 (N : Nat) (i : (((List ((List UInt8) × (Int × (Int × ((List (Int × ((List UInt8) × Unit))) × Unit))))) × (Int × Unit)) × (List ((List UInt8) × (Int × (Int × ((List (Int × ((List UInt8) × Unit))) × Unit))))) × Int)) (v : Int) (r : Int -> Option Bool) (K : Ex -> List A -> Option Bool) : Option Bool :=
 z9r N i.1 i.2.1 i.2.2 v (fun x18 => (r x18)) (fun a0 => (K .ret (mkS [(2, .v .bool)] 40 (a0, ())))) (K (.exit 0) (mkS [] 43 ()))

def zf5 (N : Nat) : Hd Bool := fun st K => (unS [(1, .box (.pair (.sl (.pair .str (.pair (.int .i64) (.pair (.int .i64) (.pair (.sl (.pair (.int .i64) (.pair .str .unit))) .unit))))) (.pair (.int .i64) .unit))), (14, .v (.sl (.pair .str (.pair (.int .i64) (.pair (.int .i64) (.pair (.sl (.pair (.int .i64) (.pair .str .unit))) .unit)))))), (0, .v (.int .i64)), (0, .v (.int .i64))] 24 (restr [18, 17, 16, 1] 0 st)).bind fun x => iter (fun v r => zf9 N ((fun x => (x.1, x.2.1, x.2.2.1)) x) v r K) N ((fun x => x.2.2.2.1) x)

def znu (N : Nat) : Tab Bool := [([0, 1, 0, 0, 1, 1, 0, 0, 1, 0, 1, 1], zf4 N)]

theorem zlj {N : Nat} {c : Ctx} (hb : Base Go.Proofs.Try.prog (z3b N) c) : z1b Go.Proofs.Try.prog c (zm z1n [0, 1, 0, 1, 1]) (zf5 N) :=
  z7l (s := [(1, .box (.pair (.sl (.pair .str (.pair (.int .i64) (.pair (.int .i64) (.pair (.sl (.pair (.int .i64) (.pair .str .unit))) .unit))))) (.pair (.int .i64) .unit))), (14, .v (.sl (.pair .str (.pair (.int .i64) (.pair (.int .i64) (.pair (.sl (.pair (.int .i64) (.pair .str .unit))) .unit)))))), (0, .v (.int .i64)), (0, .v (.int .i64))]) (m := 24) (zf9 N) [18, 17, 16, 1] N (fun x => (x.1, x.2.1, x.2.2.1)) (fun x => x.2.2.2.1) (fun i v => (i.1, i.2.1, i.2.2, v, ())) (fun _ => rfl) (zo hb N (znu N) z4g z1n (TabOk.cons (zli hb) TabOk.nil) [0, 0, 1, 0, 1, 1] _ rfl) (fun i v r K => by kernel_rfl)

def z38 (N : Nat) (s : ((List ((List UInt8) × (Int × (Int × ((List (Int × ((List UInt8) × Unit))) × Unit))))) × (Int × Unit))) : Option Bool :=
 z9v N s
 (fun x2 => some x2)
 (z9t N s s.1 (((List.length s.1) : Nat) : Int) (0 : Int)
 (fun x21 => some x21)
 (some true))

def zhl (N : Nat) : Tab Bool := [([0, 1], zf7 N), ([0, 1, 0, 1, 1], zf5 N)]

theorem zji (N : Nat) (x : z2g [(0, .v (.pair (.sl (.pair .str (.pair (.int .i64) (.pair (.int .i64) (.pair (.sl (.pair (.int .i64) (.pair .str .unit))) .unit))))) (.pair (.int .i64) .unit)))]) : zcy (z3b N) N (zhl N) z4g Go.Proofs.Try.f13 (mkS [(0, .v (.pair (.sl (.pair .str (.pair (.int .i64) (.pair (.int .i64) (.pair (.sl (.pair (.int .i64) (.pair .str .unit))) .unit))))) (.pair (.int .i64) .unit)))] 0 x) (z68 (.v .bool) 1) = z38 N x.1 := by kernel_rfl

def z3z (N : Nat) : List A -> Res := z28 [(0, .v (.pair (.sl (.pair .str (.pair (.int .i64) (.pair (.int .i64) (.pair (.sl (.pair (.int .i64) (.pair .str .unit))) .unit))))) (.pair (.int .i64) .unit)))] (fun x => z38 N x.1) (z7w (.v .bool) 1)

theorem z4p (N : Nat) : Contract Go.Proofs.Try.prog zw 13 (z3z N) :=
  Contract.of (E := z3b N) (H := zhl N) (L := z4g) (N := N) (body := z1n) (K := (z68 (.v .bool) 1)) (zlm N) Go.Proofs.Try.func13 (by kernel_rfl) (by decide) (fun _ hb => (TabOk.cons (zll hb) (TabOk.cons (zlj hb) TabOk.nil))) (fun x y h => by rw [zji]; exact h) (z20 (s := (.v .bool)) (m := 1))

def z8a : Code := (Go.Proofs.Try.f49.body).getD .skip

def ze9 : List (List Nat × List Nat) := [([0], [1]), ([0, 1], [1, 3]), ([0, 0, 1, 1], [13, 3, 1]), ([0, 0, 1, 0, 1, 1], [14, 3, 1, 13]), ([1, 0, 1, 0, 1, 1], []), ([0, 1, 1, 0, 1, 0, 1, 1], [27, 3, 1, 13]), ([1, 1, 1, 0, 1, 0, 1, 1], []), ([0, 1, 1, 1, 1, 0, 1, 0, 1, 1], [41, 3, 1, 13]), ([1, 1, 1, 1, 1, 0, 1, 0, 1, 1], []), ([0, 1, 1, 1, 1, 1, 1, 0, 1, 0, 1, 1], [54, 1]), ([1, 1, 1, 1, 1, 1, 1, 0, 1, 0, 1, 1], []), ([0, 0, 1, 1, 1, 1, 1, 1, 1, 0, 1, 0, 1, 1], [2]), ([1, 0, 1, 1, 1, 1, 1, 1, 1, 0, 1, 0, 1, 1], [2]), ([0, 0, 1, 1, 1, 1, 1, 0, 1, 0, 1, 1], [2]), ([1, 0, 1, 1, 1, 1, 1, 0, 1, 0, 1, 1], [2]), ([0, 0, 1, 1, 1, 0, 1, 0, 1, 1], [2]), ([1, 0, 1, 1, 1, 0, 1, 0, 1, 1], [2]), ([0, 0, 1, 0, 1, 0, 1, 1], [2]), ([1, 0, 1, 0, 1, 0, 1, 1], [2]), ([1, 0, 1, 1], []), ([0, 1, 1, 1], [2]), ([1, 1, 1, 1], [2])]

def z9x (N : Nat) : Env := z5d tys zw [(40, zae N), (30, z4o N)] [] [] [] false [] []

theorem znz (N : Nat) : EnvOk Go.Proofs.Try.prog (z9x N) := z19 mixed z2e (FnsOk.cons (zc9 N) (FnsOk.cons (z89 N) (FnsOk.nil))) (ItsOk.nil)

def zbj (N : Nat) (e : (Int × ((List UInt8) × (Int × (Int × ((List UInt8) × Unit)))))) (k0 : Bool -> Option Bool) : Option Bool :=
 (z62 N e.2.1).bind fun y =>
 cond y
 ((z2b N e.2.2.1 (1 : Int)).bind fun y1 =>
 k0 y1)
 (k0 false)

def zhn (N : Nat) (x : z2g [(1, .box (.pair (.int .i64) (.pair .str (.pair (.int .i64) (.pair (.int .i64) (.pair .str .unit))))))]) (K : Ex -> List A -> Option Bool) : Option Bool :=
 zbj N x.1 (fun a1 => (K .normal (mkS [(1, .box (.pair (.int .i64) (.pair .str (.pair (.int .i64) (.pair (.int .i64) (.pair .str .unit)))))), (1, .v .bool)] 70 (x.1, a1, ()))))

def zhm (N : Nat) : Hd Bool := fun st K => (unS [(1, .box (.pair (.int .i64) (.pair .str (.pair (.int .i64) (.pair (.int .i64) (.pair .str .unit))))))] 72 (restr [1] 0 st)).bind fun x => zhn N x K

def zpb (N : Nat) : Tab Bool := []

theorem zny {N : Nat} {c : Ctx} (hb : Base Go.Proofs.Try.prog (z9x N) c) : z1b Go.Proofs.Try.prog c (zm z8a [0, 1]) (zhm N) :=
  z1v (s := [(1, .box (.pair (.int .i64) (.pair .str (.pair (.int .i64) (.pair (.int .i64) (.pair .str .unit))))))]) (m := 72) (g := zhn N) [1] (zo hb N (zpb N) ze9 z8a TabOk.nil [0, 1] _ rfl) (fun x K => by kernel_rfl)

def z8v (N : Nat) (e : (Int × ((List UInt8) × (Int × (Int × ((List UInt8) × Unit)))))) : Option Bool :=
 zbj N e
 (fun ofTenant => cond (e.1 == (1 : Int))
 (cond ofTenant
 ((z2b N e.2.2.2.1 (0 : Int)).bind fun y =>
 cond y
 (some (e.2.2.2.2.1 == ([] : List UInt8)))
 (some false))
 (some false))
 (cond (e.1 == (2 : Int))
 (cond ofTenant
 (cond (e.2.2.2.1 == (0 : Int))
 (some ((((List.length e.2.2.2.2.1) : Nat) : Int) == (32 : Int)))
 (some false))
 (some false))
 (cond (e.1 == (3 : Int))
 (cond ofTenant
 (cond (e.2.2.2.1 == (0 : Int))
 (some (e.2.2.2.2.1 == ([] : List UInt8)))
 (some false))
 (some false))
 (cond (e.1 == (4 : Int))
 ((z2b N e.2.2.1 (0 : Int)).bind fun y1 =>
 cond y1
 (cond (e.2.1 == ([] : List UInt8))
 (cond (e.2.2.2.1 == (0 : Int))
 (some (e.2.2.2.2.1 == ([] : List UInt8)))
 (some false))
 (some false))
 (some false))
 (some false)))))

def zjn (N : Nat) : Tab Bool := [([0, 1], zhm N)]

theorem zlq (N : Nat) (x : z2g [(0, .v (.pair (.int .i64) (.pair .str (.pair (.int .i64) (.pair (.int .i64) (.pair .str .unit))))))]) : zcy (z9x N) N (zjn N) ze9 Go.Proofs.Try.f49 (mkS [(0, .v (.pair (.int .i64) (.pair .str (.pair (.int .i64) (.pair (.int .i64) (.pair .str .unit))))))] 0 x) (z68 (.v .bool) 1) = z8v N x.1 := by kernel_rfl

def znx (N : Nat) : List A -> Res := z28 [(0, .v (.pair (.int .i64) (.pair .str (.pair (.int .i64) (.pair (.int .i64) (.pair .str .unit))))))] (fun x => z8v N x.1) (z7w (.v .bool) 1)

theorem zpc (N : Nat) : Contract Go.Proofs.Try.prog zw 49 (znx N) :=
  Contract.of (E := z9x N) (H := zjn N) (L := ze9) (N := N) (body := z8a) (K := (z68 (.v .bool) 1)) (znz N) Go.Proofs.Try.func49 (by kernel_rfl) (by decide) (fun _ hb => (TabOk.cons (zny hb) TabOk.nil)) (fun x y h => by rw [zlq]; exact h) (z20 (s := (.v .bool)) (m := 1))

def zjr : Code := (Go.Proofs.Try.f35.body).getD .skip

def zhp : List (List Nat × List Nat) := [([0], [2, 1]), ([0, 1], [3]), ([1, 1], [3])]

def zbl (N : Nat) : Env := z5d tys zw [] [] [] [] false [] []

theorem zlt (N : Nat) : EnvOk Go.Proofs.Try.prog (zbl N) := z19 mixed z2e (FnsOk.nil) (ItsOk.nil)

def zmp (N : Nat) (t : ((List UInt8) × (Int × (Int × ((List (Int × ((List UInt8) × Unit))) × Unit))))) (x1 : (List UInt8)) : Option Bool :=
 some (t.1 == x1)

def zho (N : Nat) : Tab Bool := []

theorem zjq (N : Nat) (x : z2g [(0, .v (.pair .str (.pair (.int .i64) (.pair (.int .i64) (.pair (.sl (.pair (.int .i64) (.pair .str .unit))) .unit))))), (0, .v (.ptr .str))]) : zcy (zbl N) N (zho N) zhp Go.Proofs.Try.f35 (mkS [(0, .v (.pair .str (.pair (.int .i64) (.pair (.int .i64) (.pair (.sl (.pair (.int .i64) (.pair .str .unit))) .unit))))), (0, .v (.ptr .str))] 0 x) (z68 (.v .bool) 2) = zmp N x.1 x.2.1 := by kernel_rfl

def z8b (N : Nat) : List A -> Res := z28 [(0, .v (.pair .str (.pair (.int .i64) (.pair (.int .i64) (.pair (.sl (.pair (.int .i64) (.pair .str .unit))) .unit))))), (0, .v (.ptr .str))] (fun x => zmp N x.1 x.2.1) (z7w (.v .bool) 2)

theorem zfd (N : Nat) : Contract Go.Proofs.Try.prog zw 35 (z8b N) :=
  Contract.of (E := zbl N) (H := zho N) (L := zhp) (N := N) (body := zjr) (K := (z68 (.v .bool) 2)) (zlt N) Go.Proofs.Try.func35 (by kernel_rfl) (by decide) (fun _ hb => TabOk.nil) (fun x y h => by rw [zjq]; exact h) (z20 (s := (.v .bool)) (m := 2))

def z6g : Code := (Go.Proofs.Try.f34.body).getD .skip

def zal : List (List Nat × List Nat) := [([0], [0, 1]), ([0, 0, 1], [8, 7, 1, 0]), ([0, 1, 0, 1], [8, 7, 1, 0]), ([0, 0, 0, 1, 0, 1], [9, 8, 1, 0, 7]), ([0, 1, 0, 0, 1, 0, 1], [8, 1, 0, 7]), ([1, 0, 1, 0, 0, 1, 0, 1], []), ([0, 0, 0, 1, 1, 0, 0, 1, 0, 1], [1, 0, 5, 8, 7]), ([0, 1, 0, 0, 1, 1, 0, 0, 1, 0, 1], [16, 5, 8, 7, 1, 0]), ([1, 1, 0, 0, 1, 1, 0, 0, 1, 0, 1], [8, 7, 1, 0]), ([0, 0, 1, 1, 0, 0, 1, 1, 0, 0, 1, 0, 1], [4]), ([1, 0, 1, 1, 0, 0, 1, 1, 0, 0, 1, 0, 1], [4]), ([0, 1, 1, 0, 0, 1, 0, 1], [8, 7, 1, 0]), ([1, 1, 1, 0, 0, 1, 0, 1], [8, 7, 1, 0]), ([1, 0, 1], []), ([0, 1, 1], [4]), ([1, 1, 1], [4])]

def z6u (N : Nat) : Env := z5d tys zw [(35, z8b N)] [] [] [] false [] []

theorem zks (N : Nat) : EnvOk Go.Proofs.Try.prog (z6u N) := z19 mixed z2e (FnsOk.cons (zfd N) (FnsOk.nil)) (ItsOk.nil)

def z8l (N : Nat) (s : (List ((List UInt8) × (Int × (Int × ((List (Int × ((List UInt8) × Unit))) × Unit)))))) (f : ((List UInt8) × Unit)) (x7 : Int) (x8 : Int) (rec : Int -> Option Int) (k0 : Int -> Option Int) (k1 : Option Int) : Option Int :=
 cond (decide (x8 < x7))
 (cond (Go.Lift.inR x8 (List.length s))
 (cond ((List.getD s (Int.toNat x8) (([] : List UInt8), ((0 : Int), ((0 : Int), (([] : List (Int × ((List UInt8) × Unit))), ()))))).1 == f.1)
 (k0 x8)
 (rec (Go.IntKind.wrap Go.IntKind.i64 (x8 + (1 : Int)))))
 (none))
 (k1)

def zdw (N : Nat) (s : (List ((List UInt8) × (Int × (Int × ((List (Int × ((List UInt8) × Unit))) × Unit)))))) (f : ((List UInt8) × Unit)) (x7 : Int) (x8 : Int) (k0 : Int -> Option Int) (k1 : Option Int) : Option Int :=
 iter (fun (v : Int) r => z8l N s f x7 v (fun x8 => (r x8)) k0 k1) N x8

def zdy (N : Nat) (i : ((List ((List UInt8) × (Int × (Int × ((List (Int × ((List UInt8) × Unit))) × Unit))))) × ((List UInt8) × Unit) × Int)) (v : Int) (r : Int -> Option Int) (K : Ex -> List A -> Option Int) : Option Int :=
 z8l N i.1 i.2.1 i.2.2 v (fun x8 => (r x8)) (fun a0 => (K .ret (mkS [(4, .v (.int .i64))] 14 (a0, ())))) (K (.exit 0) (mkS [] 19 ()))

def zdx (N : Nat) : Hd Int := fun st K => (unS [(0, .v (.sl (.pair .str (.pair (.int .i64) (.pair (.int .i64) (.pair (.sl (.pair (.int .i64) (.pair .str .unit))) .unit)))))), (0, .v (.fn 35 (.pair (.ptr .str) .unit))), (5, .v (.int .i64)), (0, .v (.int .i64))] 10 (restr [8, 7, 1, 0] 0 st)).bind fun x => iter (fun v r => zdy N ((fun x => (x.1, x.2.1, x.2.2.1)) x) v r K) N ((fun x => x.2.2.2.1) x)

def zma (N : Nat) : Tab Int := []

theorem zkr {N : Nat} {c : Ctx} (hb : Base Go.Proofs.Try.prog (z6u N) c) : z1b Go.Proofs.Try.prog c (zm z6g [0, 1, 0, 1]) (zdx N) :=
  z7l (s := [(0, .v (.sl (.pair .str (.pair (.int .i64) (.pair (.int .i64) (.pair (.sl (.pair (.int .i64) (.pair .str .unit))) .unit)))))), (0, .v (.fn 35 (.pair (.ptr .str) .unit))), (5, .v (.int .i64)), (0, .v (.int .i64))]) (m := 10) (zdy N) [8, 7, 1, 0] N (fun x => (x.1, x.2.1, x.2.2.1)) (fun x => x.2.2.2.1) (fun i v => (i.1, i.2.1, i.2.2, v, ())) (fun _ => rfl) (zo hb N (zma N) zal z6g TabOk.nil [0, 0, 1, 0, 1] _ rfl) (fun i v r K => by kernel_rfl)

def z7n (N : Nat) (s : (List ((List UInt8) × (Int × (Int × ((List (Int × ((List UInt8) × Unit))) × Unit)))))) (f : ((List UInt8) × Unit)) : Option Int :=
 zdw N s f (((List.length s) : Nat) : Int) (0 : Int)
 (fun x4 => some x4)
 (some (-(1 : Int)))

def zfz (N : Nat) : Tab Int := [([0, 1, 0, 1], zdx N)]

theorem zil (N : Nat) (x : z2g [(0, .v (.sl (.pair .str (.pair (.int .i64) (.pair (.int .i64) (.pair (.sl (.pair (.int .i64) (.pair .str .unit))) .unit)))))), (0, .v (.fn 35 (.pair (.ptr .str) .unit)))]) : zcy (z6u N) N (zfz N) zal Go.Proofs.Try.f34 (mkS [(0, .v (.sl (.pair .str (.pair (.int .i64) (.pair (.int .i64) (.pair (.sl (.pair (.int .i64) (.pair .str .unit))) .unit)))))), (0, .v (.fn 35 (.pair (.ptr .str) .unit)))] 0 x) (z68 (.v (.int .i64)) 2) = z7n N x.1 x.2.1 := by kernel_rfl

def zcc (N : Nat) : List A -> Res := z28 [(0, .v (.sl (.pair .str (.pair (.int .i64) (.pair (.int .i64) (.pair (.sl (.pair (.int .i64) (.pair .str .unit))) .unit)))))), (0, .v (.fn 35 (.pair (.ptr .str) .unit)))] (fun x => z7n N x.1 x.2.1) (z7w (.v (.int .i64)) 2)

theorem zmc (N : Nat) : Contract Go.Proofs.Try.prog zw 34 (zcc N) :=
  Contract.of (E := z6u N) (H := zfz N) (L := zal) (N := N) (body := z6g) (K := (z68 (.v (.int .i64)) 2)) (zks N) Go.Proofs.Try.func34 (by kernel_rfl) (by decide) (fun _ hb => (TabOk.cons (zkr hb) TabOk.nil)) (fun x y h => by rw [zil]; exact h) (z20 (s := (.v (.int .i64))) (m := 2))

def zls : Code := (Go.Proofs.Try.f16.body).getD .skip

def zjp : List (List Nat × List Nat) := [([0], [2, 3]), ([0, 1], [4]), ([1, 1], [4])]

def zea (N : Nat) : Env := z5d tys zw [(34, zcc N), (35, z8b N)] [] [] [] false [] []

theorem zo0 (N : Nat) : EnvOk Go.Proofs.Try.prog (zea N) := z19 mixed z2e (FnsOk.cons (zmc N) (FnsOk.cons (zfd N) (FnsOk.nil))) (ItsOk.nil)

def z5y (N : Nat) (s : ((List ((List UInt8) × (Int × (Int × ((List (Int × ((List UInt8) × Unit))) × Unit))))) × (Int × Unit))) (tenant : (List UInt8)) : Option Int :=
 (z7n N s.1 (tenant, ())).bind fun y =>
 some y

def zjo (N : Nat) : Tab Int := []

theorem zlr (N : Nat) (x : z2g [(0, .v (.pair (.sl (.pair .str (.pair (.int .i64) (.pair (.int .i64) (.pair (.sl (.pair (.int .i64) (.pair .str .unit))) .unit))))) (.pair (.int .i64) .unit))), (0, .v .str)]) : zcy (zea N) N (zjo N) zjp Go.Proofs.Try.f16 (mkS [(0, .v (.pair (.sl (.pair .str (.pair (.int .i64) (.pair (.int .i64) (.pair (.sl (.pair (.int .i64) (.pair .str .unit))) .unit))))) (.pair (.int .i64) .unit))), (0, .v .str)] 0 x) (z68 (.v (.int .i64)) 2) = z5y N x.1 x.2.1 := by kernel_rfl

def z9y (N : Nat) : List A -> Res := z28 [(0, .v (.pair (.sl (.pair .str (.pair (.int .i64) (.pair (.int .i64) (.pair (.sl (.pair (.int .i64) (.pair .str .unit))) .unit))))) (.pair (.int .i64) .unit))), (0, .v .str)] (fun x => z5y N x.1 x.2.1) (z7w (.v (.int .i64)) 2)

theorem zbk (N : Nat) : Contract Go.Proofs.Try.prog zw 16 (z9y N) :=
  Contract.of (E := zea N) (H := zjo N) (L := zjp) (N := N) (body := zls) (K := (z68 (.v (.int .i64)) 2)) (zo0 N) Go.Proofs.Try.func16 (by kernel_rfl) (by decide) (fun _ hb => TabOk.nil) (fun x y h => by rw [zlr]; exact h) (z20 (s := (.v (.int .i64))) (m := 2))

def zic : Code := (Go.Proofs.Try.f52.body).getD .skip

def zf3 : List (List Nat × List Nat) := [([0], [2, 1]), ([0, 1], [3]), ([1, 1], [3])]

def z9q (N : Nat) : Env := z5d tys zw [] [] [] [] false [] []

theorem zjg (N : Nat) : EnvOk Go.Proofs.Try.prog (z9q N) := z19 mixed z2e (FnsOk.nil) (ItsOk.nil)

def zjh (N : Nat) (k : (Int × ((List UInt8) × Unit))) (x1 : Int) : Option Bool :=
 some (k.1 == x1)

def zf2 (N : Nat) : Tab Bool := []

theorem zib (N : Nat) (x : z2g [(0, .v (.pair (.int .i64) (.pair .str .unit))), (0, .v (.ptr (.int .i64)))]) : zcy (z9q N) N (zf2 N) zf3 Go.Proofs.Try.f52 (mkS [(0, .v (.pair (.int .i64) (.pair .str .unit))), (0, .v (.ptr (.int .i64)))] 0 x) (z68 (.v .bool) 2) = zjh N x.1 x.2.1 := by kernel_rfl

def z7b (N : Nat) : List A -> Res := z28 [(0, .v (.pair (.int .i64) (.pair .str .unit))), (0, .v (.ptr (.int .i64)))] (fun x => zjh N x.1 x.2.1) (z7w (.v .bool) 2)

theorem zdg (N : Nat) : Contract Go.Proofs.Try.prog zw 52 (z7b N) :=
  Contract.of (E := z9q N) (H := zf2 N) (L := zf3) (N := N) (body := zic) (K := (z68 (.v .bool) 2)) (zjg N) Go.Proofs.Try.func52 (by kernel_rfl) (by decide) (fun _ hb => TabOk.nil) (fun x y h => by rw [zib]; exact h) (z20 (s := (.v .bool)) (m := 2))

def zam : Code := (Go.Proofs.Try.f51.body).getD .skip

def zh2 : List (List Nat × List Nat) := [([0], [0, 1]), ([0, 0, 1], [8, 7, 1, 0]), ([0, 1, 0, 1], [8, 7, 1, 0]), ([0, 0, 0, 1, 0, 1], [9, 8, 1, 0, 7]), ([0, 1, 0, 0, 1, 0, 1], [8, 1, 0, 7]), ([1, 0, 1, 0, 0, 1, 0, 1], []), ([0, 0, 0, 1, 1, 0, 0, 1, 0, 1], [1, 0, 5, 8, 7]), ([0, 1, 0, 0, 1, 1, 0, 0, 1, 0, 1], [16, 5, 8, 7, 1, 0]), ([1, 1, 0, 0, 1, 1, 0, 0, 1, 0, 1], [8, 7, 1, 0]), ([0, 0, 1, 1, 0, 0, 1, 1, 0, 0, 1, 0, 1], [4]), ([1, 0, 1, 1, 0, 0, 1, 1, 0, 0, 1, 0, 1], [4]), ([0, 1, 1, 0, 0, 1, 0, 1], [8, 7, 1, 0]), ([1, 1, 1, 0, 0, 1, 0, 1], [8, 7, 1, 0]), ([1, 0, 1], []), ([0, 1, 1], [4]), ([1, 1, 1], [4])]

def zcw (N : Nat) : Env := z5d tys zw [(52, z7b N)] [] [] [] false [] []

theorem zpy (N : Nat) : EnvOk Go.Proofs.Try.prog (zcw N) := z19 mixed z2e (FnsOk.cons (zdg N) (FnsOk.nil)) (ItsOk.nil)

def zej (N : Nat) (s : (List (Int × ((List UInt8) × Unit)))) (f : (Int × Unit)) (x7 : Int) (x8 : Int) (rec : Int -> Option Int) (k0 : Int -> Option Int) (k1 : Option Int) : Option Int :=
 cond (decide (x8 < x7))
 (cond (Go.Lift.inR x8 (List.length s))
 (cond ((List.getD s (Int.toNat x8) ((0 : Int), (([] : List UInt8), ()))).1 == f.1)
 (k0 x8)
 (rec (Go.IntKind.wrap Go.IntKind.i64 (x8 + (1 : Int)))))
 (none))
 (k1)

def zkt (N : Nat) (s : (List (Int × ((List UInt8) × Unit)))) (f : (Int × Unit)) (x7 : Int) (x8 : Int) (k0 : Int -> Option Int) (k1 : Option Int) : Option Int :=
 iter (fun (v : Int) r => zej N s f x7 v (fun x8 => (r x8)) k0 k1) N x8

def zkv (N : Nat) (i : ((List (Int × ((List UInt8) × Unit))) × (Int × Unit) × Int)) (v : Int) (r : Int -> Option Int) (K : Ex -> List A -> Option Int) : Option Int :=
 zej N i.1 i.2.1 i.2.2 v (fun x8 => (r x8)) (fun a0 => (K .ret (mkS [(4, .v (.int .i64))] 14 (a0, ())))) (K (.exit 0) (mkS [] 19 ()))

def zku (N : Nat) : Hd Int := fun st K => (unS [(0, .v (.sl (.pair (.int .i64) (.pair .str .unit)))), (0, .v (.fn 52 (.pair (.ptr (.int .i64)) .unit))), (5, .v (.int .i64)), (0, .v (.int .i64))] 10 (restr [8, 7, 1, 0] 0 st)).bind fun x => iter (fun v r => zkv N ((fun x => (x.1, x.2.1, x.2.2.1)) x) v r K) N ((fun x => x.2.2.2.1) x)

def zrg (N : Nat) : Tab Int := []

theorem zpx {N : Nat} {c : Ctx} (hb : Base Go.Proofs.Try.prog (zcw N) c) : z1b Go.Proofs.Try.prog c (zm zam [0, 1, 0, 1]) (zku N) :=
  z7l (s := [(0, .v (.sl (.pair (.int .i64) (.pair .str .unit)))), (0, .v (.fn 52 (.pair (.ptr (.int .i64)) .unit))), (5, .v (.int .i64)), (0, .v (.int .i64))]) (m := 10) (zkv N) [8, 7, 1, 0] N (fun x => (x.1, x.2.1, x.2.2.1)) (fun x => x.2.2.2.1) (fun i v => (i.1, i.2.1, i.2.2, v, ())) (fun _ => rfl) (zo hb N (zrg N) zh2 zam TabOk.nil [0, 0, 1, 0, 1] _ rfl) (fun i v r K => by kernel_rfl)

def zg0 (N : Nat) (s : (List (Int × ((List UInt8) × Unit)))) (f : (Int × Unit)) : Option Int :=
 zkt N s f (((List.length s) : Nat) : Int) (0 : Int)
 (fun x4 => some x4)
 (some (-(1 : Int)))

def zn4 (N : Nat) : Tab Int := [([0, 1, 0, 1], zku N)]

theorem zol (N : Nat) (x : z2g [(0, .v (.sl (.pair (.int .i64) (.pair .str .unit)))), (0, .v (.fn 52 (.pair (.ptr (.int .i64)) .unit)))]) : zcy (zcw N) N (zn4 N) zh2 Go.Proofs.Try.f51 (mkS [(0, .v (.sl (.pair (.int .i64) (.pair .str .unit)))), (0, .v (.fn 52 (.pair (.ptr (.int .i64)) .unit)))] 0 x) (z68 (.v (.int .i64)) 2) = zg0 N x.1 x.2.1 := by kernel_rfl

def zi2 (N : Nat) : List A -> Res := z28 [(0, .v (.sl (.pair (.int .i64) (.pair .str .unit)))), (0, .v (.fn 52 (.pair (.ptr (.int .i64)) .unit)))] (fun x => zg0 N x.1 x.2.1) (z7w (.v (.int .i64)) 2)

theorem zri (N : Nat) : Contract Go.Proofs.Try.prog zw 51 (zi2 N) :=
  Contract.of (E := zcw N) (H := zn4 N) (L := zh2) (N := N) (body := zam) (K := (z68 (.v (.int .i64)) 2)) (zpy N) Go.Proofs.Try.func51 (by kernel_rfl) (by decide) (fun _ hb => (TabOk.cons (zpx hb) TabOk.nil)) (fun x y h => by rw [zol]; exact h) (z20 (s := (.v (.int .i64))) (m := 2))

def zjf : Code := (Go.Proofs.Try.f36.body).getD .skip

def zhk : List (List Nat × List Nat) := [([0], [0, 3]), ([0, 1], [4]), ([1, 1], [4])]

def zbi (N : Nat) : Env := z5d tys zw [(51, zi2 N), (52, z7b N)] [] [] [] false [] []

theorem zlh (N : Nat) : EnvOk Go.Proofs.Try.prog (zbi N) := z19 mixed z2e (FnsOk.cons (zri N) (FnsOk.cons (zdg N) (FnsOk.nil))) (ItsOk.nil)

def z5n (N : Nat) (l : (List (Int × ((List UInt8) × Unit)))) (num : Int) : Option Int :=
 (zg0 N l (num, ())).bind fun y =>
 some y

def zhj (N : Nat) : Tab Int := []

theorem zje (N : Nat) (x : z2g [(0, .v (.sl (.pair (.int .i64) (.pair .str .unit)))), (0, .v (.int .i64))]) : zcy (zbi N) N (zhj N) zhk Go.Proofs.Try.f36 (mkS [(0, .v (.sl (.pair (.int .i64) (.pair .str .unit)))), (0, .v (.int .i64))] 0 x) (z68 (.v (.int .i64)) 2) = z5n N x.1 x.2.1 := by kernel_rfl

def zlg (N : Nat) : List A -> Res := z28 [(0, .v (.sl (.pair (.int .i64) (.pair .str .unit)))), (0, .v (.int .i64))] (fun x => z5n N x.1 x.2.1) (z7w (.v (.int .i64)) 2)

theorem znr (N : Nat) : Contract Go.Proofs.Try.prog zw 36 (zlg N) :=
  Contract.of (E := zbi N) (H := zhj N) (L := zhk) (N := N) (body := zjf) (K := (z68 (.v (.int .i64)) 2)) (zlh N) Go.Proofs.Try.func36 (by kernel_rfl) (by decide) (fun _ hb => TabOk.nil) (fun x y h => by rw [zje]; exact h) (z20 (s := (.v (.int .i64))) (m := 2))

def z33 : Code := (Go.Proofs.Try.f17.body).getD .skip

def z6t : List (List Nat × List Nat) := [([0], [2, 1, 4]), ([0, 1], [6, 2, 4]), ([0, 0, 1, 1], [22, 4, 2, 6]), ([1, 0, 1, 1], [2, 6, 4]), ([0, 0, 1, 0, 1, 1], [4, 5]), ([1, 0, 1, 0, 1, 1], [4, 5]), ([0, 1, 1, 1], [7, 4]), ([0, 1, 1, 1, 1], [4, 5]), ([1, 1, 1, 1, 1], [4, 5])]

def z4q (N : Nat) : Env := z5d tys zw [(16, z9y N)] [(7, (.pair (.int .i64) (.pair .str .unit)))] [] [] false [] []

theorem zjm (N : Nat) : EnvOk Go.Proofs.Try.prog (z4q N) := z19 mixed z2e (FnsOk.cons (zbk N) (FnsOk.nil)) (ItsOk.nil)

def zdi (N : Nat) (s : ((List ((List UInt8) × (Int × (Int × ((List (Int × ((List UInt8) × Unit))) × Unit))))) × (Int × Unit))) (x4 : (Int × ((List UInt8) × Unit))) (at_ : Int) (k0 : Bool -> Option ((Int × ((List UInt8) × Unit)) × Bool × Unit)) : Option ((Int × ((List UInt8) × Unit)) × Bool × Unit) :=
 cond (decide (at_ < (0 : Int)))
 (k0 true)
 (cond (Go.Lift.inR at_ (List.length s.1))
 (k0 ((((List.length (List.getD s.1 (Int.toNat at_) (([] : List UInt8), ((0 : Int), ((0 : Int), (([] : List (Int × ((List UInt8) × Unit))), ()))))).2.2.2.1) : Nat) : Int) == (0 : Int)))
 (none))

def zdm (N : Nat) (x : z2g [(2, .box (.pair (.sl (.pair .str (.pair (.int .i64) (.pair (.int .i64) (.pair (.sl (.pair (.int .i64) (.pair .str .unit))) .unit))))) (.pair (.int .i64) .unit))), (1, .box (.pair (.int .i64) (.pair .str .unit))), (1, .v (.int .i64))]) (K : Ex -> List A -> Option ((Int × ((List UInt8) × Unit)) × Bool × Unit)) : Option ((Int × ((List UInt8) × Unit)) × Bool × Unit) :=
 zdi N x.1 x.2.1 x.2.2.1 (fun a3 => (K .normal (mkS [(2, .box (.pair (.sl (.pair .str (.pair (.int .i64) (.pair (.int .i64) (.pair (.sl (.pair (.int .i64) (.pair .str .unit))) .unit))))) (.pair (.int .i64) .unit))), (1, .box (.pair (.int .i64) (.pair .str .unit))), (1, .v (.int .i64)), (15, .v .bool)] 13 (x.1, x.2.1, x.2.2.1, a3, ()))))

def zdk (N : Nat) : Hd ((Int × ((List UInt8) × Unit)) × Bool × Unit) := fun st K => (unS [(2, .box (.pair (.sl (.pair .str (.pair (.int .i64) (.pair (.int .i64) (.pair (.sl (.pair (.int .i64) (.pair .str .unit))) .unit))))) (.pair (.int .i64) .unit))), (1, .box (.pair (.int .i64) (.pair .str .unit))), (1, .v (.int .i64))] 29 (restr [6, 2, 4] 0 st)).bind fun x => zdm N x K

def zln (N : Nat) : Tab ((Int × ((List UInt8) × Unit)) × Bool × Unit) := []

theorem zjk {N : Nat} {c : Ctx} (hb : Base Go.Proofs.Try.prog (z4q N) c) : z1b Go.Proofs.Try.prog c (zm z33 [0, 0, 1, 1]) (zdk N) :=
  z1v (s := [(2, .box (.pair (.sl (.pair .str (.pair (.int .i64) (.pair (.int .i64) (.pair (.sl (.pair (.int .i64) (.pair .str .unit))) .unit))))) (.pair (.int .i64) .unit))), (1, .box (.pair (.int .i64) (.pair .str .unit))), (1, .v (.int .i64))]) (m := 29) (g := zdm N) [6, 2, 4] (zo hb N (zln N) z6t z33 TabOk.nil [0, 0, 1, 1] _ rfl) (fun x K => by kernel_rfl)

def zdj (N : Nat) (s : ((List ((List UInt8) × (Int × (Int × ((List (Int × ((List UInt8) × Unit))) × Unit))))) × (Int × Unit))) (x4 : (Int × ((List UInt8) × Unit))) (at_ : Int) (k0 : (Int × ((List UInt8) × Unit)) -> Bool -> Option ((Int × ((List UInt8) × Unit)) × Bool × Unit)) (k1 : Option ((Int × ((List UInt8) × Unit)) × Bool × Unit)) : Option ((Int × ((List UInt8) × Unit)) × Bool × Unit) :=
 zdi N s x4 at_
 (fun x22 => cond x22
 (k0 ((0 : Int), (([] : List UInt8), ())) false)
 (k1))

def zdn (N : Nat) (x : z2g [(2, .box (.pair (.sl (.pair .str (.pair (.int .i64) (.pair (.int .i64) (.pair (.sl (.pair (.int .i64) (.pair .str .unit))) .unit))))) (.pair (.int .i64) .unit))), (1, .box (.pair (.int .i64) (.pair .str .unit))), (1, .v (.int .i64))]) (K : Ex -> List A -> Option ((Int × ((List UInt8) × Unit)) × Bool × Unit)) : Option ((Int × ((List UInt8) × Unit)) × Bool × Unit) :=
 zdj N x.1 x.2.1 x.2.2.1 (fun a0 a1 => (K .ret (mkS [(4, .box (.pair (.int .i64) (.pair .str .unit))), (0, .v .bool)] 30 (a0, a1, ())))) (K .normal (mkS [(2, .box (.pair (.sl (.pair .str (.pair (.int .i64) (.pair (.int .i64) (.pair (.sl (.pair (.int .i64) (.pair .str .unit))) .unit))))) (.pair (.int .i64) .unit))), (1, .box (.pair (.int .i64) (.pair .str .unit))), (1, .v (.int .i64))] 29 (x.1, x.2.1, x.2.2.1, ())))

def zdl (N : Nat) : Hd ((Int × ((List UInt8) × Unit)) × Bool × Unit) := fun st K => (unS [(2, .box (.pair (.sl (.pair .str (.pair (.int .i64) (.pair (.int .i64) (.pair (.sl (.pair (.int .i64) (.pair .str .unit))) .unit))))) (.pair (.int .i64) .unit))), (1, .box (.pair (.int .i64) (.pair .str .unit))), (1, .v (.int .i64))] 29 (restr [6, 2, 4] 0 st)).bind fun x => zdn N x K

def zlo (N : Nat) : Tab ((Int × ((List UInt8) × Unit)) × Bool × Unit) := [([0, 0, 1, 1], zdk N)]

theorem zjl {N : Nat} {c : Ctx} (hb : Base Go.Proofs.Try.prog (z4q N) c) : z1b Go.Proofs.Try.prog c (zm z33 [0, 1, 1]) (zdl N) :=
  z1v (s := [(2, .box (.pair (.sl (.pair .str (.pair (.int .i64) (.pair (.int .i64) (.pair (.sl (.pair (.int .i64) (.pair .str .unit))) .unit))))) (.pair (.int .i64) .unit))), (1, .box (.pair (.int .i64) (.pair .str .unit))), (1, .v (.int .i64))]) (m := 29) (g := zdn N) [6, 2, 4] (zo hb N (zlo N) z6t z33 (TabOk.cons (zjk hb) TabOk.nil) [0, 1, 1] _ rfl) (fun x K => by kernel_rfl)

def z9w (N : Nat) (s : ((List ((List UInt8) × (Int × (Int × ((List (Int × ((List UInt8) × Unit))) × Unit))))) × (Int × Unit))) (tenant : (List UInt8)) : Option ((Int × ((List UInt8) × Unit)) × Bool × Unit) :=
 (z5y N s tenant).bind fun y =>
 zdj N s ((0 : Int), (([] : List UInt8), ())) y
 (fun x4 x5 => some (x4, (x5, ())))
 (cond (Go.Lift.inR y (List.length s.1))
 (cond (Go.Lift.inR (Go.IntKind.wrap Go.IntKind.i64 ((((List.length (List.getD s.1 (Int.toNat y) (([] : List UInt8), ((0 : Int), ((0 : Int), (([] : List (Int × ((List UInt8) × Unit))), ()))))).2.2.2.1) : Nat) : Int) - (1 : Int))) (List.length (List.getD s.1 (Int.toNat y) (([] : List UInt8), ((0 : Int), ((0 : Int), (([] : List (Int × ((List UInt8) × Unit))), ()))))).2.2.2.1))
 (some ((List.getD (List.getD s.1 (Int.toNat y) (([] : List UInt8), ((0 : Int), ((0 : Int), (([] : List (Int × ((List UInt8) × Unit))), ()))))).2.2.2.1 (Int.toNat (Go.IntKind.wrap Go.IntKind.i64 ((((List.length (List.getD s.1 (Int.toNat y) (([] : List UInt8), ((0 : Int), ((0 : Int), (([] : List (Int × ((List UInt8) × Unit))), ()))))).2.2.2.1) : Nat) : Int) - (1 : Int)))) ((0 : Int), (([] : List UInt8), ()))), (true, ())))
 (none))
 (none))

def zfc (N : Nat) : Tab ((Int × ((List UInt8) × Unit)) × Bool × Unit) := [([0, 1, 1], zdl N)]

theorem zid (N : Nat) (x : z2g [(0, .v (.pair (.sl (.pair .str (.pair (.int .i64) (.pair (.int .i64) (.pair (.sl (.pair (.int .i64) (.pair .str .unit))) .unit))))) (.pair (.int .i64) .unit))), (0, .v .str)]) : zcy (z4q N) N (zfc N) z6t Go.Proofs.Try.f17 (mkS [(0, .v (.pair (.sl (.pair .str (.pair (.int .i64) (.pair (.int .i64) (.pair (.sl (.pair (.int .i64) (.pair .str .unit))) .unit))))) (.pair (.int .i64) .unit))), (0, .v .str)] 0 x) (z68 (.tup [(.pair (.int .i64) (.pair .str .unit)), .bool]) 2) = z9w N x.1 x.2.1 := by kernel_rfl

def zjj (N : Nat) : List A -> Res := z28 [(0, .v (.pair (.sl (.pair .str (.pair (.int .i64) (.pair (.int .i64) (.pair (.sl (.pair (.int .i64) (.pair .str .unit))) .unit))))) (.pair (.int .i64) .unit))), (0, .v .str)] (fun x => z9w N x.1 x.2.1) (z7w (.tup [(.pair (.int .i64) (.pair .str .unit)), .bool]) 2)

theorem zlp (N : Nat) : Contract Go.Proofs.Try.prog zw 17 (zjj N) :=
  Contract.of (E := z4q N) (H := zfc N) (L := z6t) (N := N) (body := z33) (K := (z68 (.tup [(.pair (.int .i64) (.pair .str .unit)), .bool]) 2)) (zjm N) Go.Proofs.Try.func17 (by kernel_rfl) (by decide) (fun _ hb => (TabOk.cons (zjl hb) TabOk.nil)) (fun x y h => by rw [zid]; exact h) (z20 (s := (.tup [(.pair (.int .i64) (.pair .str .unit)), .bool])) (m := 2))

def z18 : Code := (Go.Proofs.Try.f6.body).getD .skip

def z26 : List (List Nat × List Nat) := [([0], [1]), ([0, 0, 1], [7, 1]), ([1, 0, 1], [1]), ([0, 0, 1, 0, 1], [2]), ([1, 0, 1, 0, 1], [2]), ([0, 0, 1, 1], [3, 1]), ([0, 1, 0, 1, 1], [3, 1]), ([0, 0, 0, 0, 1, 0, 1, 1], [12, 1, 3]), ([1, 0, 0, 0, 1, 0, 1, 1], [1, 3]), ([1, 1, 0, 0, 0, 1, 0, 1, 1], []), ([0, 0, 0, 1, 0, 0, 1, 0, 1, 1], [32, 3, 1]), ([1, 0, 0, 1, 0, 0, 1, 0, 1, 1], [3, 1]), ([0, 0, 1, 0, 0, 1, 0, 0, 1, 0, 1, 1], [2]), ([1, 0, 1, 0, 0, 1, 0, 0, 1, 0, 1, 1], [2]), ([0, 1, 0, 0, 1, 0, 1, 1], [3, 1]), ([1, 1, 0, 0, 1, 0, 1, 1], [3, 1]), ([1, 0, 1, 1], []), ([0, 1, 1, 1], [2]), ([1, 1, 1, 1], [2])]

def z1t (N : Nat) : Env := z5d tys zw [] [] [] [] false [] []

theorem zbu (N : Nat) : EnvOk Go.Proofs.Try.prog (z1t N) := z19 mixed z2e (FnsOk.nil) (ItsOk.nil)

def z3u (N : Nat) (s : ((List ((List UInt8) × (Int × (Int × ((List (Int × ((List UInt8) × Unit))) × Unit))))) × (Int × Unit))) (i : Int) (k0 : Bool -> Option Bool) : Option Bool :=
 cond (Go.Lift.inR i (List.length s.1))
 (cond (decide ((12 : Int) < (((List.length (List.getD s.1 (Int.toNat i) (([] : List UInt8), ((0 : Int), ((0 : Int), (([] : List (Int × ((List UInt8) × Unit))), ()))))).2.2.2.1) : Nat) : Int)))
 (k0 true)
 (cond (Go.Lift.inR i (List.length s.1))
 (k0 (decide ((100 : Int) < (((List.length (List.getD s.1 (Int.toNat i) (([] : List UInt8), ((0 : Int), ((0 : Int), (([] : List (Int × ((List UInt8) × Unit))), ()))))).1) : Nat) : Int))))
 (none)))
 (none)

def z6n (N : Nat) (x : z2g [(1, .box (.pair (.sl (.pair .str (.pair (.int .i64) (.pair (.int .i64) (.pair (.sl (.pair (.int .i64) (.pair .str .unit))) .unit))))) (.pair (.int .i64) .unit))), (1, .v (.int .i64))]) (K : Ex -> List A -> Option Bool) : Option Bool :=
 z3u N x.1 x.2.1 (fun a2 => (K .normal (mkS [(1, .box (.pair (.sl (.pair .str (.pair (.int .i64) (.pair (.int .i64) (.pair (.sl (.pair (.int .i64) (.pair .str .unit))) .unit))))) (.pair (.int .i64) .unit))), (1, .v (.int .i64)), (28, .v .bool)] 0 (x.1, x.2.1, a2, ()))))

def z6k (N : Nat) : Hd Bool := fun st K => (unS [(1, .box (.pair (.sl (.pair .str (.pair (.int .i64) (.pair (.int .i64) (.pair (.sl (.pair (.int .i64) (.pair .str .unit))) .unit))))) (.pair (.int .i64) .unit))), (1, .v (.int .i64))] 29 (restr [1, 3] 0 st)).bind fun x => z6n N x K

def zd6 (N : Nat) : Tab Bool := []

theorem zbr {N : Nat} {c : Ctx} (hb : Base Go.Proofs.Try.prog (z1t N) c) : z1b Go.Proofs.Try.prog c (zm z18 [0, 0, 0, 1, 0, 0, 1, 0, 1, 1]) (z6k N) :=
  z1v (s := [(1, .box (.pair (.sl (.pair .str (.pair (.int .i64) (.pair (.int .i64) (.pair (.sl (.pair (.int .i64) (.pair .str .unit))) .unit))))) (.pair (.int .i64) .unit))), (1, .v (.int .i64))]) (m := 29) (g := z6n N) [1, 3] (zo hb N (zd6 N) z26 z18 TabOk.nil [0, 0, 0, 1, 0, 0, 1, 0, 1, 1] _ rfl) (fun x K => by kernel_rfl)

def z3v (N : Nat) (s : ((List ((List UInt8) × (Int × (Int × ((List (Int × ((List UInt8) × Unit))) × Unit))))) × (Int × Unit))) (i : Int) (k0 : Bool -> Option Bool) (k1 : Option Bool) : Option Bool :=
 z3u N s i
 (fun x32 => cond x32
 (k0 true)
 (k1))

def z6o (N : Nat) (x : z2g [(1, .box (.pair (.sl (.pair .str (.pair (.int .i64) (.pair (.int .i64) (.pair (.sl (.pair (.int .i64) (.pair .str .unit))) .unit))))) (.pair (.int .i64) .unit))), (1, .v (.int .i64))]) (K : Ex -> List A -> Option Bool) : Option Bool :=
 z3v N x.1 x.2.1 (fun a0 => (K .ret (mkS [(2, .v .bool)] 30 (a0, ())))) (K .normal (mkS [(1, .box (.pair (.sl (.pair .str (.pair (.int .i64) (.pair (.int .i64) (.pair (.sl (.pair (.int .i64) (.pair .str .unit))) .unit))))) (.pair (.int .i64) .unit))), (1, .v (.int .i64))] 29 (x.1, x.2.1, ())))

def z6l (N : Nat) : Hd Bool := fun st K => (unS [(1, .box (.pair (.sl (.pair .str (.pair (.int .i64) (.pair (.int .i64) (.pair (.sl (.pair (.int .i64) (.pair .str .unit))) .unit))))) (.pair (.int .i64) .unit))), (1, .v (.int .i64))] 29 (restr [1, 3] 0 st)).bind fun x => z6o N x K

def zd7 (N : Nat) : Tab Bool := [([0, 0, 0, 1, 0, 0, 1, 0, 1, 1], z6k N)]

theorem zbs {N : Nat} {c : Ctx} (hb : Base Go.Proofs.Try.prog (z1t N) c) : z1b Go.Proofs.Try.prog c (zm z18 [0, 1, 0, 0, 1, 0, 1, 1]) (z6l N) :=
  z1v (s := [(1, .box (.pair (.sl (.pair .str (.pair (.int .i64) (.pair (.int .i64) (.pair (.sl (.pair (.int .i64) (.pair .str .unit))) .unit))))) (.pair (.int .i64) .unit))), (1, .v (.int .i64))]) (m := 29) (g := z6o N) [1, 3] (zo hb N (zd7 N) z26 z18 (TabOk.cons (zbr hb) TabOk.nil) [0, 1, 0, 0, 1, 0, 1, 1] _ rfl) (fun x K => by kernel_rfl)

def z3t (N : Nat) (s : ((List ((List UInt8) × (Int × (Int × ((List (Int × ((List UInt8) × Unit))) × Unit))))) × (Int × Unit))) (i : Int) (rec : Int -> Option Bool) (k0 : Bool -> Option Bool) (k1 : Option Bool) : Option Bool :=
 cond (decide (i < (((List.length s.1) : Nat) : Int)))
 (z3v N s i
 (fun x2 => k0 x2)
 (rec (Go.IntKind.wrap Go.IntKind.i64 (i + (1 : Int)))))
 (k1)

def z6j (N : Nat) (s : ((List ((List UInt8) × (Int × (Int × ((List (Int × ((List UInt8) × Unit))) × Unit))))) × (Int × Unit))) (i : Int) (k0 : Bool -> Option Bool) (k1 : Option Bool) : Option Bool :=
 iter (fun (v : Int) r => z3t N s v (fun i => (r i)) k0 k1) N i

def z6p (N : Nat) (i : ((List ((List UInt8) × (Int × (Int × ((List (Int × ((List UInt8) × Unit))) × Unit))))) × (Int × Unit))) (v : Int) (r : Int -> Option Bool) (K : Ex -> List A -> Option Bool) : Option Bool :=
 z3t N i v (fun i => (r i)) (fun a0 => (K .ret (mkS [(2, .v .bool)] 30 (a0, ())))) (K (.exit 0) (mkS [] 33 ()))

def z6m (N : Nat) : Hd Bool := fun st K => (unS [(1, .box (.pair (.sl (.pair .str (.pair (.int .i64) (.pair (.int .i64) (.pair (.sl (.pair (.int .i64) (.pair .str .unit))) .unit))))) (.pair (.int .i64) .unit))), (1, .v (.int .i64))] 29 (restr [3, 1] 0 st)).bind fun x => iter (fun v r => z6p N ((fun x => x.1) x) v r K) N ((fun x => x.2.1) x)

def zd8 (N : Nat) : Tab Bool := [([0, 1, 0, 0, 1, 0, 1, 1], z6l N)]

theorem zbt {N : Nat} {c : Ctx} (hb : Base Go.Proofs.Try.prog (z1t N) c) : z1b Go.Proofs.Try.prog c (zm z18 [0, 1, 0, 1, 1]) (z6m N) :=
  z7l (s := [(1, .box (.pair (.sl (.pair .str (.pair (.int .i64) (.pair (.int .i64) (.pair (.sl (.pair (.int .i64) (.pair .str .unit))) .unit))))) (.pair (.int .i64) .unit))), (1, .v (.int .i64))]) (m := 29) (z6p N) [3, 1] N (fun x => x.1) (fun x => x.2.1) (fun i v => (i, v, ())) (fun _ => rfl) (zo hb N (zd8 N) z26 z18 (TabOk.cons (zbs hb) TabOk.nil) [0, 0, 1, 0, 1, 1] _ rfl) (fun i v r K => by kernel_rfl)

def z2h (N : Nat) (s : ((List ((List UInt8) × (Int × (Int × ((List (Int × ((List UInt8) × Unit))) × Unit))))) × (Int × Unit))) : Option Bool :=
 cond (decide ((20 : Int) < (((List.length s.1) : Nat) : Int)))
 (some true)
 (z6j N s (0 : Int)
 (fun x2 => some x2)
 (some false))

def z7d (N : Nat) : Tab Bool := [([0, 1, 0, 1, 1], z6m N)]

theorem zb4 (N : Nat) (x : z2g [(0, .v (.pair (.sl (.pair .str (.pair (.int .i64) (.pair (.int .i64) (.pair (.sl (.pair (.int .i64) (.pair .str .unit))) .unit))))) (.pair (.int .i64) .unit)))]) : zcy (z1t N) N (z7d N) z26 Go.Proofs.Try.f6 (mkS [(0, .v (.pair (.sl (.pair .str (.pair (.int .i64) (.pair (.int .i64) (.pair (.sl (.pair (.int .i64) (.pair .str .unit))) .unit))))) (.pair (.int .i64) .unit)))] 0 x) (z68 (.v .bool) 1) = z2h N x.1 := by kernel_rfl

def z5z (N : Nat) : List A -> Res := z28 [(0, .v (.pair (.sl (.pair .str (.pair (.int .i64) (.pair (.int .i64) (.pair (.sl (.pair (.int .i64) (.pair .str .unit))) .unit))))) (.pair (.int .i64) .unit)))] (fun x => z2h N x.1) (z7w (.v .bool) 1)

theorem zd9 (N : Nat) : Contract Go.Proofs.Try.prog zw 6 (z5z N) :=
  Contract.of (E := z1t N) (H := z7d N) (L := z26) (N := N) (body := z18) (K := (z68 (.v .bool) 1)) (zbu N) Go.Proofs.Try.func6 (by kernel_rfl) (by decide) (fun _ hb => (TabOk.cons (zbt hb) TabOk.nil)) (fun x y h => by rw [zb4]; exact h) (z20 (s := (.v .bool)) (m := 1))

def z9 : Code := (Go.Proofs.Try.f15.body).getD .skip

def zz : List (List Nat × List Nat) := [([0], [2, 3]), ([0, 0, 1], [22, 2, 3]), ([1, 0, 1], [2, 3]), ([0, 0, 1, 0, 1], [4]), ([1, 0, 1, 0, 1], [4]), ([0, 0, 1, 1], [5, 2, 3]), ([0, 1, 0, 1, 1], [5, 2, 3]), ([0, 0, 0, 0, 1, 0, 1, 1], [27, 2, 5, 3]), ([1, 0, 0, 0, 1, 0, 1, 1], [2, 5, 3]), ([1, 1, 0, 0, 0, 1, 0, 1, 1], []), ([0, 0, 0, 1, 0, 0, 1, 0, 1, 1], [6, 7, 5, 2, 3]), ([0, 0, 1, 0, 0, 1, 0, 0, 1, 0, 1, 1], [67, 6, 7, 5, 2, 3]), ([1, 0, 1, 0, 0, 1, 0, 0, 1, 0, 1, 1], [6, 7, 5, 2, 3]), ([0, 0, 1, 0, 1, 0, 0, 1, 0, 0, 1, 0, 1, 1], [4]), ([1, 0, 1, 0, 1, 0, 0, 1, 0, 0, 1, 0, 1, 1], [4]), ([0, 1, 1, 0, 0, 1, 0, 0, 1, 0, 1, 1], [8, 6, 7, 5, 2, 3]), ([0, 1, 1, 1, 0, 0, 1, 0, 0, 1, 0, 1, 1], [8, 6, 7, 5, 2, 3]), ([0, 0, 0, 0, 1, 1, 1, 0, 0, 1, 0, 0, 1, 0, 1, 1], [72, 6, 8, 7, 5, 2, 3]), ([1, 0, 0, 0, 1, 1, 1, 0, 0, 1, 0, 0, 1, 0, 1, 1], [6, 8, 7, 5, 2, 3]), ([1, 1, 0, 0, 0, 1, 1, 1, 0, 0, 1, 0, 0, 1, 0, 1, 1], [5, 2, 3]), ([0, 0, 0, 1, 0, 0, 1, 1, 1, 0, 0, 1, 0, 0, 1, 0, 1, 1], [85, 8, 6, 7, 5, 2, 3]), ([1, 0, 0, 1, 0, 0, 1, 1, 1, 0, 0, 1, 0, 0, 1, 0, 1, 1], [8, 6, 7, 5, 2, 3]), ([0, 0, 1, 0, 0, 1, 0, 0, 1, 1, 1, 0, 0, 1, 0, 0, 1, 0, 1, 1], [4]), ([1, 0, 1, 0, 0, 1, 0, 0, 1, 1, 1, 0, 0, 1, 0, 0, 1, 0, 1, 1], [4]), ([0, 1, 0, 0, 1, 1, 1, 0, 0, 1, 0, 0, 1, 0, 1, 1], [8, 6, 7, 5, 2, 3]), ([1, 1, 0, 0, 1, 1, 1, 0, 0, 1, 0, 0, 1, 0, 1, 1], [8, 6, 7, 5, 2, 3]), ([1, 1, 1, 0, 0, 1, 0, 0, 1, 0, 1, 1], [5, 2, 3]), ([0, 1, 0, 0, 1, 0, 1, 1], [5, 2, 3]), ([1, 1, 0, 0, 1, 0, 1, 1], [5, 2, 3]), ([1, 0, 1, 1], []), ([0, 1, 1, 1], [4]), ([1, 1, 1, 1], [4])]

def zp (N : Nat) : Env := z5d tys zw [] [] [] [] false [] []

theorem z99 (N : Nat) : EnvOk Go.Proofs.Try.prog (zp N) := z19 mixed z2e (FnsOk.nil) (ItsOk.nil)

def z2y (N : Nat) (a : ((List ((List UInt8) × (Int × (Int × ((List (Int × ((List UInt8) × Unit))) × Unit))))) × (Int × Unit))) (b : ((List ((List UInt8) × (Int × (Int × ((List (Int × ((List UInt8) × Unit))) × Unit))))) × (Int × Unit))) (k0 : Bool -> Option Bool) : Option Bool :=
 cond (a.2.1 != b.2.1)
 (k0 true)
 (k0 ((((List.length a.1) : Nat) : Int) != (((List.length b.1) : Nat) : Int)))

def z56 (N : Nat) (x : z2g [(2, .box (.pair (.sl (.pair .str (.pair (.int .i64) (.pair (.int .i64) (.pair (.sl (.pair (.int .i64) (.pair .str .unit))) .unit))))) (.pair (.int .i64) .unit))), (0, .box (.pair (.sl (.pair .str (.pair (.int .i64) (.pair (.int .i64) (.pair (.sl (.pair (.int .i64) (.pair .str .unit))) .unit))))) (.pair (.int .i64) .unit)))]) (K : Ex -> List A -> Option Bool) : Option Bool :=
 z2y N x.1 x.2.1 (fun a2 => (K .normal (mkS [(2, .box (.pair (.sl (.pair .str (.pair (.int .i64) (.pair (.int .i64) (.pair (.sl (.pair (.int .i64) (.pair .str .unit))) .unit))))) (.pair (.int .i64) .unit))), (0, .box (.pair (.sl (.pair .str (.pair (.int .i64) (.pair (.int .i64) (.pair (.sl (.pair (.int .i64) (.pair .str .unit))) .unit))))) (.pair (.int .i64) .unit))), (18, .v .bool)] 63 (x.1, x.2.1, a2, ()))))

def z4z (N : Nat) : Hd Bool := fun st K => (unS [(2, .box (.pair (.sl (.pair .str (.pair (.int .i64) (.pair (.int .i64) (.pair (.sl (.pair (.int .i64) (.pair .str .unit))) .unit))))) (.pair (.int .i64) .unit))), (0, .box (.pair (.sl (.pair .str (.pair (.int .i64) (.pair (.int .i64) (.pair (.sl (.pair (.int .i64) (.pair .str .unit))) .unit))))) (.pair (.int .i64) .unit)))] 82 (restr [2, 3] 0 st)).bind fun x => z56 N x K

def za5 (N : Nat) : Tab Bool := []

theorem z97 {N : Nat} {c : Ctx} (hb : Base Go.Proofs.Try.prog (zp N) c) : z1b Go.Proofs.Try.prog c (zm z9 [0, 0, 1]) (z4z N) :=
  z1v (s := [(2, .box (.pair (.sl (.pair .str (.pair (.int .i64) (.pair (.int .i64) (.pair (.sl (.pair (.int .i64) (.pair .str .unit))) .unit))))) (.pair (.int .i64) .unit))), (0, .box (.pair (.sl (.pair .str (.pair (.int .i64) (.pair (.int .i64) (.pair (.sl (.pair (.int .i64) (.pair .str .unit))) .unit))))) (.pair (.int .i64) .unit)))]) (m := 82) (g := z56 N) [2, 3] (zo hb N (za5 N) zz z9 TabOk.nil [0, 0, 1] _ rfl) (fun x K => by kernel_rfl)

def z2z (N : Nat) (a : ((List ((List UInt8) × (Int × (Int × ((List (Int × ((List UInt8) × Unit))) × Unit))))) × (Int × Unit))) (b : ((List ((List UInt8) × (Int × (Int × ((List (Int × ((List UInt8) × Unit))) × Unit))))) × (Int × Unit))) (k0 : Bool -> Option Bool) (k1 : Option Bool) : Option Bool :=
 z2y N a b
 (fun x22 => cond x22
 (k0 false)
 (k1))

def z57 (N : Nat) (x : z2g [(2, .box (.pair (.sl (.pair .str (.pair (.int .i64) (.pair (.int .i64) (.pair (.sl (.pair (.int .i64) (.pair .str .unit))) .unit))))) (.pair (.int .i64) .unit))), (0, .box (.pair (.sl (.pair .str (.pair (.int .i64) (.pair (.int .i64) (.pair (.sl (.pair (.int .i64) (.pair .str .unit))) .unit))))) (.pair (.int .i64) .unit)))]) (K : Ex -> List A -> Option Bool) : Option Bool :=
 z2z N x.1 x.2.1 (fun a0 => (K .ret (mkS [(4, .v .bool)] 81 (a0, ())))) (K .normal (mkS [(2, .box (.pair (.sl (.pair .str (.pair (.int .i64) (.pair (.int .i64) (.pair (.sl (.pair (.int .i64) (.pair .str .unit))) .unit))))) (.pair (.int .i64) .unit))), (0, .box (.pair (.sl (.pair .str (.pair (.int .i64) (.pair (.int .i64) (.pair (.sl (.pair (.int .i64) (.pair .str .unit))) .unit))))) (.pair (.int .i64) .unit)))] 82 (x.1, x.2.1, ())))

def z50 (N : Nat) : Hd Bool := fun st K => (unS [(2, .box (.pair (.sl (.pair .str (.pair (.int .i64) (.pair (.int .i64) (.pair (.sl (.pair (.int .i64) (.pair .str .unit))) .unit))))) (.pair (.int .i64) .unit))), (0, .box (.pair (.sl (.pair .str (.pair (.int .i64) (.pair (.int .i64) (.pair (.sl (.pair (.int .i64) (.pair .str .unit))) .unit))))) (.pair (.int .i64) .unit)))] 82 (restr [2, 3] 0 st)).bind fun x => z57 N x K

def za6 (N : Nat) : Tab Bool := [([0, 0, 1], z4z N)]

theorem z98 {N : Nat} {c : Ctx} (hb : Base Go.Proofs.Try.prog (zp N) c) : z1b Go.Proofs.Try.prog c (zm z9 [0, 1]) (z50 N) :=
  z1v (s := [(2, .box (.pair (.sl (.pair .str (.pair (.int .i64) (.pair (.int .i64) (.pair (.sl (.pair (.int .i64) (.pair .str .unit))) .unit))))) (.pair (.int .i64) .unit))), (0, .box (.pair (.sl (.pair .str (.pair (.int .i64) (.pair (.int .i64) (.pair (.sl (.pair (.int .i64) (.pair .str .unit))) .unit))))) (.pair (.int .i64) .unit)))]) (m := 82) (g := z57 N) [2, 3] (zo hb N (za6 N) zz z9 (TabOk.cons (z97 hb) TabOk.nil) [0, 1] _ rfl) (fun x K => by kernel_rfl)

def z2v (N : Nat) (a : ((List ((List UInt8) × (Int × (Int × ((List (Int × ((List UInt8) × Unit))) × Unit))))) × (Int × Unit))) (b : ((List ((List UInt8) × (Int × (Int × ((List (Int × ((List UInt8) × Unit))) × Unit))))) × (Int × Unit))) (i : Int) (x6 : ((List UInt8) × (Int × (Int × ((List (Int × ((List UInt8) × Unit))) × Unit))))) (y : ((List UInt8) × (Int × (Int × ((List (Int × ((List UInt8) × Unit))) × Unit))))) (k0 : Bool -> Option Bool) : Option Bool :=
 cond (!(x6.1 == y.1))
 (k0 true)
 (cond (x6.2.1 != y.2.1)
 (k0 true)
 (cond (x6.2.2.1 != y.2.2.1)
 (k0 true)
 (k0 ((((List.length x6.2.2.2.1) : Nat) : Int) != (((List.length y.2.2.2.1) : Nat) : Int)))))

def z52 (N : Nat) (x : z2g [(2, .box (.pair (.sl (.pair .str (.pair (.int .i64) (.pair (.int .i64) (.pair (.sl (.pair (.int .i64) (.pair .str .unit))) .unit))))) (.pair (.int .i64) .unit))), (0, .box (.pair (.sl (.pair .str (.pair (.int .i64) (.pair (.int .i64) (.pair (.sl (.pair (.int .i64) (.pair .str .unit))) .unit))))) (.pair (.int .i64) .unit))), (1, .v (.int .i64)), (0, .box (.pair .str (.pair (.int .i64) (.pair (.int .i64) (.pair (.sl (.pair (.int .i64) (.pair .str .unit))) .unit))))), (0, .box (.pair .str (.pair (.int .i64) (.pair (.int .i64) (.pair (.sl (.pair (.int .i64) (.pair .str .unit))) .unit)))))]) (K : Ex -> List A -> Option Bool) : Option Bool :=
 z2v N x.1 x.2.1 x.2.2.1 x.2.2.2.1 x.2.2.2.2.1 (fun a5 => (K .normal (mkS [(2, .box (.pair (.sl (.pair .str (.pair (.int .i64) (.pair (.int .i64) (.pair (.sl (.pair (.int .i64) (.pair .str .unit))) .unit))))) (.pair (.int .i64) .unit))), (0, .box (.pair (.sl (.pair .str (.pair (.int .i64) (.pair (.int .i64) (.pair (.sl (.pair (.int .i64) (.pair .str .unit))) .unit))))) (.pair (.int .i64) .unit))), (1, .v (.int .i64)), (0, .box (.pair .str (.pair (.int .i64) (.pair (.int .i64) (.pair (.sl (.pair (.int .i64) (.pair .str .unit))) .unit))))), (0, .box (.pair .str (.pair (.int .i64) (.pair (.int .i64) (.pair (.sl (.pair (.int .i64) (.pair .str .unit))) .unit))))), (59, .v .bool)] 18 (x.1, x.2.1, x.2.2.1, x.2.2.2.1, x.2.2.2.2.1, a5, ()))))

def z4v (N : Nat) : Hd Bool := fun st K => (unS [(2, .box (.pair (.sl (.pair .str (.pair (.int .i64) (.pair (.int .i64) (.pair (.sl (.pair (.int .i64) (.pair .str .unit))) .unit))))) (.pair (.int .i64) .unit))), (0, .box (.pair (.sl (.pair .str (.pair (.int .i64) (.pair (.int .i64) (.pair (.sl (.pair (.int .i64) (.pair .str .unit))) .unit))))) (.pair (.int .i64) .unit))), (1, .v (.int .i64)), (0, .box (.pair .str (.pair (.int .i64) (.pair (.int .i64) (.pair (.sl (.pair (.int .i64) (.pair .str .unit))) .unit))))), (0, .box (.pair .str (.pair (.int .i64) (.pair (.int .i64) (.pair (.sl (.pair (.int .i64) (.pair .str .unit))) .unit)))))] 78 (restr [6, 7, 5, 2, 3] 0 st)).bind fun x => z52 N x K

def za1 (N : Nat) : Tab Bool := []

theorem z93 {N : Nat} {c : Ctx} (hb : Base Go.Proofs.Try.prog (zp N) c) : z1b Go.Proofs.Try.prog c (zm z9 [0, 0, 1, 0, 0, 1, 0, 0, 1, 0, 1, 1]) (z4v N) :=
  z1v (s := [(2, .box (.pair (.sl (.pair .str (.pair (.int .i64) (.pair (.int .i64) (.pair (.sl (.pair (.int .i64) (.pair .str .unit))) .unit))))) (.pair (.int .i64) .unit))), (0, .box (.pair (.sl (.pair .str (.pair (.int .i64) (.pair (.int .i64) (.pair (.sl (.pair (.int .i64) (.pair .str .unit))) .unit))))) (.pair (.int .i64) .unit))), (1, .v (.int .i64)), (0, .box (.pair .str (.pair (.int .i64) (.pair (.int .i64) (.pair (.sl (.pair (.int .i64) (.pair .str .unit))) .unit))))), (0, .box (.pair .str (.pair (.int .i64) (.pair (.int .i64) (.pair (.sl (.pair (.int .i64) (.pair .str .unit))) .unit)))))]) (m := 78) (g := z52 N) [6, 7, 5, 2, 3] (zo hb N (za1 N) zz z9 TabOk.nil [0, 0, 1, 0, 0, 1, 0, 0, 1, 0, 1, 1] _ rfl) (fun x K => by kernel_rfl)

def z2w (N : Nat) (a : ((List ((List UInt8) × (Int × (Int × ((List (Int × ((List UInt8) × Unit))) × Unit))))) × (Int × Unit))) (b : ((List ((List UInt8) × (Int × (Int × ((List (Int × ((List UInt8) × Unit))) × Unit))))) × (Int × Unit))) (i : Int) (x6 : ((List UInt8) × (Int × (Int × ((List (Int × ((List UInt8) × Unit))) × Unit))))) (y : ((List UInt8) × (Int × (Int × ((List (Int × ((List UInt8) × Unit))) × Unit))))) (k0 : Bool -> Option Bool) (k1 : Option Bool) : Option Bool :=
 z2v N a b i x6 y
 (fun x67 => cond x67
 (k0 false)
 (k1))

def z53 (N : Nat) (x : z2g [(2, .box (.pair (.sl (.pair .str (.pair (.int .i64) (.pair (.int .i64) (.pair (.sl (.pair (.int .i64) (.pair .str .unit))) .unit))))) (.pair (.int .i64) .unit))), (0, .box (.pair (.sl (.pair .str (.pair (.int .i64) (.pair (.int .i64) (.pair (.sl (.pair (.int .i64) (.pair .str .unit))) .unit))))) (.pair (.int .i64) .unit))), (1, .v (.int .i64)), (0, .box (.pair .str (.pair (.int .i64) (.pair (.int .i64) (.pair (.sl (.pair (.int .i64) (.pair .str .unit))) .unit))))), (0, .box (.pair .str (.pair (.int .i64) (.pair (.int .i64) (.pair (.sl (.pair (.int .i64) (.pair .str .unit))) .unit)))))]) (K : Ex -> List A -> Option Bool) : Option Bool :=
 z2w N x.1 x.2.1 x.2.2.1 x.2.2.2.1 x.2.2.2.2.1 (fun a0 => (K .ret (mkS [(4, .v .bool)] 81 (a0, ())))) (K .normal (mkS [(2, .box (.pair (.sl (.pair .str (.pair (.int .i64) (.pair (.int .i64) (.pair (.sl (.pair (.int .i64) (.pair .str .unit))) .unit))))) (.pair (.int .i64) .unit))), (0, .box (.pair (.sl (.pair .str (.pair (.int .i64) (.pair (.int .i64) (.pair (.sl (.pair (.int .i64) (.pair .str .unit))) .unit))))) (.pair (.int .i64) .unit))), (1, .v (.int .i64)), (0, .box (.pair .str (.pair (.int .i64) (.pair (.int .i64) (.pair (.sl (.pair (.int .i64) (.pair .str .unit))) .unit))))), (0, .box (.pair .str (.pair (.int .i64) (.pair (.int .i64) (.pair (.sl (.pair (.int .i64) (.pair .str .unit))) .unit)))))] 78 (x.1, x.2.1, x.2.2.1, x.2.2.2.1, x.2.2.2.2.1, ())))

def z4w (N : Nat) : Hd Bool := fun st K => (unS [(2, .box (.pair (.sl (.pair .str (.pair (.int .i64) (.pair (.int .i64) (.pair (.sl (.pair (.int .i64) (.pair .str .unit))) .unit))))) (.pair (.int .i64) .unit))), (0, .box (.pair (.sl (.pair .str (.pair (.int .i64) (.pair (.int .i64) (.pair (.sl (.pair (.int .i64) (.pair .str .unit))) .unit))))) (.pair (.int .i64) .unit))), (1, .v (.int .i64)), (0, .box (.pair .str (.pair (.int .i64) (.pair (.int .i64) (.pair (.sl (.pair (.int .i64) (.pair .str .unit))) .unit))))), (0, .box (.pair .str (.pair (.int .i64) (.pair (.int .i64) (.pair (.sl (.pair (.int .i64) (.pair .str .unit))) .unit)))))] 78 (restr [6, 7, 5, 2, 3] 0 st)).bind fun x => z53 N x K

def za2 (N : Nat) : Tab Bool := [([0, 0, 1, 0, 0, 1, 0, 0, 1, 0, 1, 1], z4v N)]

theorem z94 {N : Nat} {c : Ctx} (hb : Base Go.Proofs.Try.prog (zp N) c) : z1b Go.Proofs.Try.prog c (zm z9 [0, 1, 0, 0, 1, 0, 0, 1, 0, 1, 1]) (z4w N) :=
  z1v (s := [(2, .box (.pair (.sl (.pair .str (.pair (.int .i64) (.pair (.int .i64) (.pair (.sl (.pair (.int .i64) (.pair .str .unit))) .unit))))) (.pair (.int .i64) .unit))), (0, .box (.pair (.sl (.pair .str (.pair (.int .i64) (.pair (.int .i64) (.pair (.sl (.pair (.int .i64) (.pair .str .unit))) .unit))))) (.pair (.int .i64) .unit))), (1, .v (.int .i64)), (0, .box (.pair .str (.pair (.int .i64) (.pair (.int .i64) (.pair (.sl (.pair (.int .i64) (.pair .str .unit))) .unit))))), (0, .box (.pair .str (.pair (.int .i64) (.pair (.int .i64) (.pair (.sl (.pair (.int .i64) (.pair .str .unit))) .unit)))))]) (m := 78) (g := z53 N) [6, 7, 5, 2, 3] (zo hb N (za2 N) zz z9 (TabOk.cons (z93 hb) TabOk.nil) [0, 1, 0, 0, 1, 0, 0, 1, 0, 1, 1] _ rfl) (fun x K => by kernel_rfl)

def z2t (N : Nat) (a : ((List ((List UInt8) × (Int × (Int × ((List (Int × ((List UInt8) × Unit))) × Unit))))) × (Int × Unit))) (b : ((List ((List UInt8) × (Int × (Int × ((List (Int × ((List UInt8) × Unit))) × Unit))))) × (Int × Unit))) (i : Int) (x6 : ((List UInt8) × (Int × (Int × ((List (Int × ((List UInt8) × Unit))) × Unit))))) (y : ((List UInt8) × (Int × (Int × ((List (Int × ((List UInt8) × Unit))) × Unit))))) (k : Int) (rec : Int -> Option Bool) (k0 : Bool -> Option Bool) (k1 : Option Bool) : Option Bool :=
 cond (decide (k < (((List.length x6.2.2.2.1) : Nat) : Int)))
 (cond (Go.Lift.inR k (List.length x6.2.2.2.1))
 (cond (Go.Lift.inR k (List.length y.2.2.2.1))
 (cond (!(Go.Lift.eqD (Go.Lift.unT (Go.Lift.T.pair (Go.Lift.T.int Go.IntKind.i64) (Go.Lift.T.pair Go.Lift.T.str Go.Lift.T.unit))) (List.getD x6.2.2.2.1 (Int.toNat k) ((0 : Int), (([] : List UInt8), ()))) (List.getD y.2.2.2.1 (Int.toNat k) ((0 : Int), (([] : List UInt8), ())))))
 (k0 false)
 (rec (Go.IntKind.wrap Go.IntKind.i64 (k + (1 : Int)))))
 (none))
 (none))
 (k1)

def z4s (N : Nat) (a : ((List ((List UInt8) × (Int × (Int × ((List (Int × ((List UInt8) × Unit))) × Unit))))) × (Int × Unit))) (b : ((List ((List UInt8) × (Int × (Int × ((List (Int × ((List UInt8) × Unit))) × Unit))))) × (Int × Unit))) (i : Int) (x6 : ((List UInt8) × (Int × (Int × ((List (Int × ((List UInt8) × Unit))) × Unit))))) (y : ((List UInt8) × (Int × (Int × ((List (Int × ((List UInt8) × Unit))) × Unit))))) (k : Int) (k0 : Bool -> Option Bool) (k1 : Option Bool) : Option Bool :=
 iter (fun (v : Int) r => z2t N a b i x6 y v (fun k => (r k)) k0 k1) N k

def z51 (N : Nat) (i : (((List ((List UInt8) × (Int × (Int × ((List (Int × ((List UInt8) × Unit))) × Unit))))) × (Int × Unit)) × ((List ((List UInt8) × (Int × (Int × ((List (Int × ((List UInt8) × Unit))) × Unit))))) × (Int × Unit)) × Int × ((List UInt8) × (Int × (Int × ((List (Int × ((List UInt8) × Unit))) × Unit)))) × ((List UInt8) × (Int × (Int × ((List (Int × ((List UInt8) × Unit))) × Unit)))))) (v : Int) (r : Int -> Option Bool) (K : Ex -> List A -> Option Bool) : Option Bool :=
 z2t N i.1 i.2.1 i.2.2.1 i.2.2.2.1 i.2.2.2.2 v (fun k => (r k)) (fun a0 => (K .ret (mkS [(4, .v .bool)] 81 (a0, ())))) (K (.exit 2) (mkS [(2, .box (.pair (.sl (.pair .str (.pair (.int .i64) (.pair (.int .i64) (.pair (.sl (.pair (.int .i64) (.pair .str .unit))) .unit))))) (.pair (.int .i64) .unit))), (0, .box (.pair (.sl (.pair .str (.pair (.int .i64) (.pair (.int .i64) (.pair (.sl (.pair (.int .i64) (.pair .str .unit))) .unit))))) (.pair (.int .i64) .unit))), (1, .v (.int .i64))] 80 (i.1, i.2.1, i.2.2.1, ())))

def z4u (N : Nat) : Hd Bool := fun st K => (unS [(2, .box (.pair (.sl (.pair .str (.pair (.int .i64) (.pair (.int .i64) (.pair (.sl (.pair (.int .i64) (.pair .str .unit))) .unit))))) (.pair (.int .i64) .unit))), (0, .box (.pair (.sl (.pair .str (.pair (.int .i64) (.pair (.int .i64) (.pair (.sl (.pair (.int .i64) (.pair .str .unit))) .unit))))) (.pair (.int .i64) .unit))), (1, .v (.int .i64)), (0, .box (.pair .str (.pair (.int .i64) (.pair (.int .i64) (.pair (.sl (.pair (.int .i64) (.pair .str .unit))) .unit))))), (0, .box (.pair .str (.pair (.int .i64) (.pair (.int .i64) (.pair (.sl (.pair (.int .i64) (.pair .str .unit))) .unit))))), (0, .v (.int .i64))] 77 (restr [8, 6, 7, 5, 2, 3] 0 st)).bind fun x => iter (fun v r => z51 N ((fun x => (x.1, x.2.1, x.2.2.1, x.2.2.2.1, x.2.2.2.2.1)) x) v r K) N ((fun x => x.2.2.2.2.2.1) x)

def za0 (N : Nat) : Tab Bool := []

theorem z92 {N : Nat} {c : Ctx} (hb : Base Go.Proofs.Try.prog (zp N) c) : z1b Go.Proofs.Try.prog c (zm z9 [0, 1, 1, 1, 0, 0, 1, 0, 0, 1, 0, 1, 1]) (z4u N) :=
  z7l (s := [(2, .box (.pair (.sl (.pair .str (.pair (.int .i64) (.pair (.int .i64) (.pair (.sl (.pair (.int .i64) (.pair .str .unit))) .unit))))) (.pair (.int .i64) .unit))), (0, .box (.pair (.sl (.pair .str (.pair (.int .i64) (.pair (.int .i64) (.pair (.sl (.pair (.int .i64) (.pair .str .unit))) .unit))))) (.pair (.int .i64) .unit))), (1, .v (.int .i64)), (0, .box (.pair .str (.pair (.int .i64) (.pair (.int .i64) (.pair (.sl (.pair (.int .i64) (.pair .str .unit))) .unit))))), (0, .box (.pair .str (.pair (.int .i64) (.pair (.int .i64) (.pair (.sl (.pair (.int .i64) (.pair .str .unit))) .unit))))), (0, .v (.int .i64))]) (m := 77) (z51 N) [8, 6, 7, 5, 2, 3] N (fun x => (x.1, x.2.1, x.2.2.1, x.2.2.2.1, x.2.2.2.2.1)) (fun x => x.2.2.2.2.2.1) (fun i v => (i.1, i.2.1, i.2.2.1, i.2.2.2.1, i.2.2.2.2, v, ())) (fun _ => rfl) (zo hb N (za0 N) zz z9 TabOk.nil [0, 0, 1, 1, 1, 0, 0, 1, 0, 0, 1, 0, 1, 1] _ rfl) (fun i v r K => by kernel_rfl)

def z2x (N : Nat) (a : ((List ((List UInt8) × (Int × (Int × ((List (Int × ((List UInt8) × Unit))) × Unit))))) × (Int × Unit))) (b : ((List ((List UInt8) × (Int × (Int × ((List (Int × ((List UInt8) × Unit))) × Unit))))) × (Int × Unit))) (i : Int) (k0 : Bool -> Option Bool) (k1 : Option Bool) : Option Bool :=
 cond (Go.Lift.inR i (List.length a.1))
 (cond (Go.Lift.inR i (List.length b.1))
 (z2w N a b i (List.getD a.1 (Int.toNat i) (([] : List UInt8), ((0 : Int), ((0 : Int), (([] : List (Int × ((List UInt8) × Unit))), ()))))) (List.getD b.1 (Int.toNat i) (([] : List UInt8), ((0 : Int), ((0 : Int), (([] : List (Int × ((List UInt8) × Unit))), ())))))
 (fun x4 => k0 x4)
 (z4s N a b i (List.getD a.1 (Int.toNat i) (([] : List UInt8), ((0 : Int), ((0 : Int), (([] : List (Int × ((List UInt8) × Unit))), ()))))) (List.getD b.1 (Int.toNat i) (([] : List UInt8), ((0 : Int), ((0 : Int), (([] : List (Int × ((List UInt8) × Unit))), ()))))) (0 : Int)
 (fun x41 => k0 x41)
 (k1)))
 (none))
 (none)

def z54 (N : Nat) (x : z2g [(2, .box (.pair (.sl (.pair .str (.pair (.int .i64) (.pair (.int .i64) (.pair (.sl (.pair (.int .i64) (.pair .str .unit))) .unit))))) (.pair (.int .i64) .unit))), (0, .box (.pair (.sl (.pair .str (.pair (.int .i64) (.pair (.int .i64) (.pair (.sl (.pair (.int .i64) (.pair .str .unit))) .unit))))) (.pair (.int .i64) .unit))), (1, .v (.int .i64))]) (K : Ex -> List A -> Option Bool) : Option Bool :=
 z2x N x.1 x.2.1 x.2.2.1 (fun a0 => (K .ret (mkS [(4, .v .bool)] 81 (a0, ())))) (K .normal (mkS [(2, .box (.pair (.sl (.pair .str (.pair (.int .i64) (.pair (.int .i64) (.pair (.sl (.pair (.int .i64) (.pair .str .unit))) .unit))))) (.pair (.int .i64) .unit))), (0, .box (.pair (.sl (.pair .str (.pair (.int .i64) (.pair (.int .i64) (.pair (.sl (.pair (.int .i64) (.pair .str .unit))) .unit))))) (.pair (.int .i64) .unit))), (1, .v (.int .i64))] 80 (x.1, x.2.1, x.2.2.1, ())))

def z4x (N : Nat) : Hd Bool := fun st K => (unS [(2, .box (.pair (.sl (.pair .str (.pair (.int .i64) (.pair (.int .i64) (.pair (.sl (.pair (.int .i64) (.pair .str .unit))) .unit))))) (.pair (.int .i64) .unit))), (0, .box (.pair (.sl (.pair .str (.pair (.int .i64) (.pair (.int .i64) (.pair (.sl (.pair (.int .i64) (.pair .str .unit))) .unit))))) (.pair (.int .i64) .unit))), (1, .v (.int .i64))] 80 (restr [2, 5, 3] 0 st)).bind fun x => z54 N x K

def za3 (N : Nat) : Tab Bool := [([0, 1, 0, 0, 1, 0, 0, 1, 0, 1, 1], z4w N), ([0, 1, 1, 1, 0, 0, 1, 0, 0, 1, 0, 1, 1], z4u N)]

theorem z95 {N : Nat} {c : Ctx} (hb : Base Go.Proofs.Try.prog (zp N) c) : z1b Go.Proofs.Try.prog c (zm z9 [0, 1, 0, 0, 1, 0, 1, 1]) (z4x N) :=
  z1v (s := [(2, .box (.pair (.sl (.pair .str (.pair (.int .i64) (.pair (.int .i64) (.pair (.sl (.pair (.int .i64) (.pair .str .unit))) .unit))))) (.pair (.int .i64) .unit))), (0, .box (.pair (.sl (.pair .str (.pair (.int .i64) (.pair (.int .i64) (.pair (.sl (.pair (.int .i64) (.pair .str .unit))) .unit))))) (.pair (.int .i64) .unit))), (1, .v (.int .i64))]) (m := 80) (g := z54 N) [2, 5, 3] (zo hb N (za3 N) zz z9 (TabOk.cons (z94 hb) (TabOk.cons (z92 hb) TabOk.nil)) [0, 1, 0, 0, 1, 0, 1, 1] _ rfl) (fun x K => by kernel_rfl)

def z2u (N : Nat) (a : ((List ((List UInt8) × (Int × (Int × ((List (Int × ((List UInt8) × Unit))) × Unit))))) × (Int × Unit))) (b : ((List ((List UInt8) × (Int × (Int × ((List (Int × ((List UInt8) × Unit))) × Unit))))) × (Int × Unit))) (i : Int) (rec : Int -> Option Bool) (k0 : Bool -> Option Bool) (k1 : Option Bool) : Option Bool :=
 cond (decide (i < (((List.length a.1) : Nat) : Int)))
 (z2x N a b i
 (fun x4 => k0 x4)
 (rec (Go.IntKind.wrap Go.IntKind.i64 (i + (1 : Int)))))
 (k1)

def z4t (N : Nat) (a : ((List ((List UInt8) × (Int × (Int × ((List (Int × ((List UInt8) × Unit))) × Unit))))) × (Int × Unit))) (b : ((List ((List UInt8) × (Int × (Int × ((List (Int × ((List UInt8) × Unit))) × Unit))))) × (Int × Unit))) (i : Int) (k0 : Bool -> Option Bool) (k1 : Option Bool) : Option Bool :=
 iter (fun (v : Int) r => z2u N a b v (fun i => (r i)) k0 k1) N i

def z55 (N : Nat) (i : (((List ((List UInt8) × (Int × (Int × ((List (Int × ((List UInt8) × Unit))) × Unit))))) × (Int × Unit)) × ((List ((List UInt8) × (Int × (Int × ((List (Int × ((List UInt8) × Unit))) × Unit))))) × (Int × Unit)))) (v : Int) (r : Int -> Option Bool) (K : Ex -> List A -> Option Bool) : Option Bool :=
 z2u N i.1 i.2 v (fun i => (r i)) (fun a0 => (K .ret (mkS [(4, .v .bool)] 81 (a0, ())))) (K (.exit 0) (mkS [] 86 ()))

def z4y (N : Nat) : Hd Bool := fun st K => (unS [(2, .box (.pair (.sl (.pair .str (.pair (.int .i64) (.pair (.int .i64) (.pair (.sl (.pair (.int .i64) (.pair .str .unit))) .unit))))) (.pair (.int .i64) .unit))), (0, .box (.pair (.sl (.pair .str (.pair (.int .i64) (.pair (.int .i64) (.pair (.sl (.pair (.int .i64) (.pair .str .unit))) .unit))))) (.pair (.int .i64) .unit))), (1, .v (.int .i64))] 80 (restr [5, 2, 3] 0 st)).bind fun x => iter (fun v r => z55 N ((fun x => (x.1, x.2.1)) x) v r K) N ((fun x => x.2.2.1) x)

def za4 (N : Nat) : Tab Bool := [([0, 1, 0, 0, 1, 0, 1, 1], z4x N)]

theorem z96 {N : Nat} {c : Ctx} (hb : Base Go.Proofs.Try.prog (zp N) c) : z1b Go.Proofs.Try.prog c (zm z9 [0, 1, 0, 1, 1]) (z4y N) :=
  z7l (s := [(2, .box (.pair (.sl (.pair .str (.pair (.int .i64) (.pair (.int .i64) (.pair (.sl (.pair (.int .i64) (.pair .str .unit))) .unit))))) (.pair (.int .i64) .unit))), (0, .box (.pair (.sl (.pair .str (.pair (.int .i64) (.pair (.int .i64) (.pair (.sl (.pair (.int .i64) (.pair .str .unit))) .unit))))) (.pair (.int .i64) .unit))), (1, .v (.int .i64))]) (m := 80) (z55 N) [5, 2, 3] N (fun x => (x.1, x.2.1)) (fun x => x.2.2.1) (fun i v => (i.1, i.2, v, ())) (fun _ => rfl) (zo hb N (za4 N) zz z9 (TabOk.cons (z95 hb) TabOk.nil) [0, 0, 1, 0, 1, 1] _ rfl) (fun i v r K => by kernel_rfl)

def z1q (N : Nat) (a : ((List ((List UInt8) × (Int × (Int × ((List (Int × ((List UInt8) × Unit))) × Unit))))) × (Int × Unit))) (b : ((List ((List UInt8) × (Int × (Int × ((List (Int × ((List UInt8) × Unit))) × Unit))))) × (Int × Unit))) : Option Bool :=
 z2z N a b
 (fun x4 => some x4)
 (z4t N a b (0 : Int)
 (fun x41 => some x41)
 (some true))

def z5j (N : Nat) : Tab Bool := [([0, 1], z50 N), ([0, 1, 0, 1, 1], z4y N)]

theorem z8g (N : Nat) (x : z2g [(0, .v (.pair (.sl (.pair .str (.pair (.int .i64) (.pair (.int .i64) (.pair (.sl (.pair (.int .i64) (.pair .str .unit))) .unit))))) (.pair (.int .i64) .unit))), (0, .v (.pair (.sl (.pair .str (.pair (.int .i64) (.pair (.int .i64) (.pair (.sl (.pair (.int .i64) (.pair .str .unit))) .unit))))) (.pair (.int .i64) .unit)))]) : zcy (zp N) N (z5j N) zz Go.Proofs.Try.f15 (mkS [(0, .v (.pair (.sl (.pair .str (.pair (.int .i64) (.pair (.int .i64) (.pair (.sl (.pair (.int .i64) (.pair .str .unit))) .unit))))) (.pair (.int .i64) .unit))), (0, .v (.pair (.sl (.pair .str (.pair (.int .i64) (.pair (.int .i64) (.pair (.sl (.pair (.int .i64) (.pair .str .unit))) .unit))))) (.pair (.int .i64) .unit)))] 0 x) (z68 (.v .bool) 2) = z1q N x.1 x.2.1 := by kernel_rfl

def z4m (N : Nat) : List A -> Res := z28 [(0, .v (.pair (.sl (.pair .str (.pair (.int .i64) (.pair (.int .i64) (.pair (.sl (.pair (.int .i64) (.pair .str .unit))) .unit))))) (.pair (.int .i64) .unit))), (0, .v (.pair (.sl (.pair .str (.pair (.int .i64) (.pair (.int .i64) (.pair (.sl (.pair (.int .i64) (.pair .str .unit))) .unit))))) (.pair (.int .i64) .unit)))] (fun x => z1q N x.1 x.2.1) (z7w (.v .bool) 2)

theorem za7 (N : Nat) : Contract Go.Proofs.Try.prog zw 15 (z4m N) :=
  Contract.of (E := zp N) (H := z5j N) (L := zz) (N := N) (body := z9) (K := (z68 (.v .bool) 2)) (z99 N) Go.Proofs.Try.func15 (by kernel_rfl) (by decide) (fun _ hb => (TabOk.cons (z98 hb) (TabOk.cons (z96 hb) TabOk.nil))) (fun x y h => by rw [z8g]; exact h) (z20 (s := (.v .bool)) (m := 2))

def zbx : Code := (Go.Proofs.Try.f28.body).getD .skip

def z82 : List (List Nat × List Nat) := [([0], [0, 1, 2, 6]), ([0, 1], [6]), ([1, 1], [6])]

def z58 (N : Nat) : Env := z5d tys zw [] [] [] [] false [] []

theorem zdb (N : Nat) : EnvOk Go.Proofs.Try.prog (z58 N) := z19 mixed z2e (FnsOk.nil) (ItsOk.nil)

def zar (N : Nat) (tenant : (List UInt8)) (epoch : Int) (next : Int) : Option (Int × ((List UInt8) × (Int × (Int × ((List UInt8) × Unit))))) :=
 some ((1 : Int), (tenant, (next, (epoch, (([] : List UInt8), ())))))

def z81 (N : Nat) : Tab (Int × ((List UInt8) × (Int × (Int × ((List UInt8) × Unit))))) := []

theorem zbw (N : Nat) (x : z2g [(0, .v .str), (0, .v (.int .i64)), (0, .v (.int .i64))]) : zcy (z58 N) N (z81 N) z82 Go.Proofs.Try.f28 (mkS [(0, .v .str), (0, .v (.int .i64)), (0, .v (.int .i64))] 0 x) (z68 (.v (.pair (.int .i64) (.pair .str (.pair (.int .i64) (.pair (.int .i64) (.pair .str .unit)))))) 3) = zar N x.1 x.2.1 x.2.2.1 := by kernel_rfl

def z6q (N : Nat) : List A -> Res := z28 [(0, .v .str), (0, .v (.int .i64)), (0, .v (.int .i64))] (fun x => zar N x.1 x.2.1 x.2.2.1) (z7w (.v (.pair (.int .i64) (.pair .str (.pair (.int .i64) (.pair (.int .i64) (.pair .str .unit)))))) 3)

theorem z7g (N : Nat) : Contract Go.Proofs.Try.prog zw 28 (z6q N) :=
  Contract.of (E := z58 N) (H := z81 N) (L := z82) (N := N) (body := zbx) (K := (z68 (.v (.pair (.int .i64) (.pair .str (.pair (.int .i64) (.pair (.int .i64) (.pair .str .unit)))))) 3)) (zdb N) Go.Proofs.Try.func28 (by kernel_rfl) (by decide) (fun _ hb => TabOk.nil) (fun x y h => by rw [zbw]; exact h) (z20 (s := (.v (.pair (.int .i64) (.pair .str (.pair (.int .i64) (.pair (.int .i64) (.pair .str .unit))))))) (m := 3))

def zfg : Code := (Go.Proofs.Try.f29.body).getD .skip

def zbz : List (List Nat × List Nat) := [([0], [0, 1, 2, 6]), ([0, 1], [6]), ([1, 1], [6])]

def z7h (N : Nat) : Env := z5d tys zw [] [] [] [] false [] []

theorem zgh (N : Nat) : EnvOk Go.Proofs.Try.prog (z7h N) := z19 mixed z2e (FnsOk.nil) (ItsOk.nil)

def zfh (N : Nat) (tenant : (List UInt8)) (num : Int) (key : (List UInt8)) : Option (Int × ((List UInt8) × (Int × (Int × ((List UInt8) × Unit))))) :=
 some ((2 : Int), (tenant, (num, ((0 : Int), (key, ())))))

def zby (N : Nat) : Tab (Int × ((List UInt8) × (Int × (Int × ((List UInt8) × Unit))))) := []

theorem zff (N : Nat) (x : z2g [(0, .v .str), (0, .v (.int .i64)), (0, .v .str)]) : zcy (z7h N) N (zby N) zbz Go.Proofs.Try.f29 (mkS [(0, .v .str), (0, .v (.int .i64)), (0, .v .str)] 0 x) (z68 (.v (.pair (.int .i64) (.pair .str (.pair (.int .i64) (.pair (.int .i64) (.pair .str .unit)))))) 3) = zfh N x.1 x.2.1 x.2.2.1 := by kernel_rfl

def z9a (N : Nat) : List A -> Res := z28 [(0, .v .str), (0, .v (.int .i64)), (0, .v .str)] (fun x => zfh N x.1 x.2.1 x.2.2.1) (z7w (.v (.pair (.int .i64) (.pair .str (.pair (.int .i64) (.pair (.int .i64) (.pair .str .unit)))))) 3)

theorem zas (N : Nat) : Contract Go.Proofs.Try.prog zw 29 (z9a N) :=
  Contract.of (E := z7h N) (H := zby N) (L := zbz) (N := N) (body := zfg) (K := (z68 (.v (.pair (.int .i64) (.pair .str (.pair (.int .i64) (.pair (.int .i64) (.pair .str .unit)))))) 3)) (zgh N) Go.Proofs.Try.func29 (by kernel_rfl) (by decide) (fun _ hb => TabOk.nil) (fun x y h => by rw [zff]; exact h) (z20 (s := (.v (.pair (.int .i64) (.pair .str (.pair (.int .i64) (.pair (.int .i64) (.pair .str .unit))))))) (m := 3))

end
end Go.Proofs.YtlohplpnhopldaaLg

set_option linter.all false
set_option maxRecDepth 100000
namespace Go.Proofs.YtlohplpnhopldaaLg
noncomputable section
open Go Go.Lift Go.Proofs.YtlohplpnhopldaaPx

abbrev zmi := Int × (List UInt8 × Unit)
abbrev z8p := List UInt8 × (Int × (Int × (List zmi × Unit)))

def z9d (next : Int) : Int -> List zmi -> Bool
  | _, [] => true
  | last, k :: l => decide (last < k.1) && (decide (k.1 < next) && (decide (k.2.1.length = 32) && z9d next k.1 l))

theorem zwh (N : Nat) {t : z8p} (hN : t.2.2.2.1.length < N) (hl : t.2.2.2.1.length <= 1000000) :
    z47 N t 0 t.2.2.2.1 ((t.2.2.2.1.length : Nat) : Int) 0 (fun x21 => some x21) (some true) = some (z9d t.2.2.1 0 t.2.2.2.1) := by
  rw [z47]
  refine (z6f (fun v => ∃ (i : Nat) (last : Int), v = (t, last, (i : Int)) /\ i <= t.2.2.2.1.length) (fun v => t.2.2.2.1.length - v.2.2.toNat) (fun v => some (z9d t.2.2.1 v.2.1 (t.2.2.2.1.drop v.2.2.toNat))) ?_ N (t, 0, 0) ⟨0, 0, rfl, by omega⟩ (by simp only; omega)).trans (by rfl)
  rintro v r ⟨i, last, rfl, hi⟩ hr
  simp only [Int.toNat_natCast]
  rw [z45]
  by_cases hlt : i < t.2.2.2.1.length
  . rw [z1z (decide_eq_true (by omega)), z1z (z7o hlt), z46, Int.toNat_natCast, z7u t.2.2.2.1 ((0 : Int), (([] : List UInt8), ())) i hlt, z9d]
    generalize List.getD t.2.2.2.1 i ((0 : Int), (([] : List UInt8), ())) = k
    rw [zcr]
    by_cases h1 : last < k.1
    . rw [z1z (decide_eq_true h1), Option.bind_some, decide_eq_true h1, Bool.true_and]
      dsimp only
      by_cases h2 : k.1 < t.2.2.1
      . rw [decide_eq_true h2, Bool.not_true, cond_false, Bool.true_and]
        by_cases h3 : k.2.1.length = 32
        . rw [show ((((List.length k.2.1) : Nat) : Int) != (32 : Int)) = false by rw [h3]; rfl, cond_false, z3w (by omega), decide_eq_true h3, Bool.true_and, hr _ ⟨i + 1, k.1, rfl, by omega⟩ (by simp only; omega)]
          simp only [Int.toNat_natCast]
        . rw [show ((((List.length k.2.1) : Nat) : Int) != (32 : Int)) = true by rw [bne_iff_ne]; omega, cond_true, decide_eq_false h3, Bool.false_and]
      . rw [decide_eq_false h2, Bool.not_false, cond_true, cond_true, Bool.false_and]
    . rw [z3s (decide_eq_false h1), Option.bind_some, decide_eq_false h1]
      rfl
  . rw [z3s (decide_eq_false (by omega)), zkz _ (by omega), z9d]

end
end Go.Proofs.YtlohplpnhopldaaLg
