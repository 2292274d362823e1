import Derived.Test.YtlohplpnhopldaaLgW
import Derived.Test.YtlohplpnhopldaaLgPrPd1
import Derived.WalkKit
import Derived.Tactics
import Derived.Tactics2
import Derived.Lib.Hide
import Derived.Below
import Derived.WalkSmall
import Derived.LoopN
import Derived.Deep.RegionHeld3
import Derived.Laws.IdiomStrings
import Derived.Test.YtlohplpnhopldaaChecked
import Derived.KernelRfl
set_option linter.all false
set_option maxRecDepth 100000
namespace Go.Proofs.YtlohplpnhopldaaLg
noncomputable section
open Go Go.Lift

def ty3 : TyI := ⟨(Go.TypeDesc.int Go.IntKind.i64), 1, 8, (.int .i64), (0 : Int), false⟩

theorem z131 : TyOk Go.Proofs.Try.prog 3 ty3 := TyOk.of (by kernel_rfl) (by kernel_rfl) (by kernel_rfl) (by kernel_rfl)

def ty4 : TyI := ⟨Go.TypeDesc.bool, 1, 1, .bool, false, false⟩

theorem z130 : TyOk Go.Proofs.Try.prog 4 ty4 := TyOk.of (by kernel_rfl) (by kernel_rfl) (by kernel_rfl) (by kernel_rfl)

def ty5 : TyI := ⟨(Go.TypeDesc.int Go.IntKind.u8), 1, 1, (.int .u8), (0 : Int), false⟩

theorem z12z : TyOk Go.Proofs.Try.prog 5 ty5 := TyOk.of (by kernel_rfl) (by kernel_rfl) (by kernel_rfl) (by kernel_rfl)

def ty9 : TyI := ⟨Go.TypeDesc.string, 1, 16, .str, ([] : List UInt8), false⟩

theorem z12y : TyOk Go.Proofs.Try.prog 9 ty9 := TyOk.of (by kernel_rfl) (by kernel_rfl) (by kernel_rfl) (by kernel_rfl)

def ty21 : TyI := ⟨(Go.TypeDesc.int Go.IntKind.i32), 1, 4, (.int .i32), (0 : Int), false⟩

theorem z11y : TyOk Go.Proofs.Try.prog 21 ty21 := TyOk.of (by kernel_rfl) (by kernel_rfl) (by kernel_rfl) (by kernel_rfl)

def ty22 : TyI := ⟨(Go.TypeDesc.slice 41), 1, 24, (.sl (.pair .str (.pair (.int .i64) (.pair (.int .i64) (.pair (.sl (.pair (.int .i64) (.pair .str .unit))) .unit))))), ([] : List ((List UInt8) × (Int × (Int × ((List (Int × ((List UInt8) × Unit))) × Unit))))), false⟩

theorem z11x : TyOk Go.Proofs.Try.prog 22 ty22 := TyOk.of (by kernel_rfl) (by kernel_rfl) (by kernel_rfl) (by kernel_rfl)

def ty24 : TyI := ⟨(Go.TypeDesc.struct (List.toArray ([(Go.Field.mk "Tenants" 22 0 false "" "" 0), (Go.Field.mk "Serial" 3 1 false "" "" 24)] : List Go.Field))), 2, 32, (.pair (.sl (.pair .str (.pair (.int .i64) (.pair (.int .i64) (.pair (.sl (.pair (.int .i64) (.pair .str .unit))) .unit))))) (.pair (.int .i64) .unit)), (([] : List ((List UInt8) × (Int × (Int × ((List (Int × ((List UInt8) × Unit))) × Unit))))), (0 : Int), ()), true⟩

theorem z11w : TyOk Go.Proofs.Try.prog 24 ty24 := TyOk.of (by kernel_rfl) (by kernel_rfl) (by kernel_rfl) (by kernel_rfl)

def ty25 : TyI := ⟨(Go.TypeDesc.array 2 9), 2, 32, (.arr 2 .str), ([([] : List UInt8), ([] : List UInt8)] : List (List UInt8)), true⟩

theorem z11v : TyOk Go.Proofs.Try.prog 25 ty25 := TyOk.of (by kernel_rfl) (by kernel_rfl) (by kernel_rfl) (by kernel_rfl)

def ty28 : TyI := ⟨(Go.TypeDesc.slice 51), 1, 24, (.sl (.pair (.int .i64) (.pair .str (.pair (.int .i64) (.pair (.int .i64) (.pair .str .unit)))))), ([] : List (Int × ((List UInt8) × (Int × (Int × ((List UInt8) × Unit)))))), false⟩

theorem z11u : TyOk Go.Proofs.Try.prog 28 ty28 := TyOk.of (by kernel_rfl) (by kernel_rfl) (by kernel_rfl) (by kernel_rfl)

def ty29 : TyI := ⟨(Go.TypeDesc.int Go.IntKind.i64), 1, 8, (.int .i64), (0 : Int), false⟩

theorem z11t : TyOk Go.Proofs.Try.prog 29 ty29 := TyOk.of (by kernel_rfl) (by kernel_rfl) (by kernel_rfl) (by kernel_rfl)

def ty39 : TyI := ⟨(Go.TypeDesc.slice 43), 1, 24, (.sl (.pair (.int .i64) (.pair .str .unit))), ([] : List (Int × ((List UInt8) × Unit))), false⟩

theorem z11s : TyOk Go.Proofs.Try.prog 39 ty39 := TyOk.of (by kernel_rfl) (by kernel_rfl) (by kernel_rfl) (by kernel_rfl)

def ty41 : TyI := ⟨(Go.TypeDesc.struct (List.toArray ([(Go.Field.mk "Name" 9 0 false "" "" 0), (Go.Field.mk "Epoch" 3 1 false "" "" 16), (Go.Field.mk "Next" 3 2 false "" "" 24), (Go.Field.mk "Keys" 39 3 false "" "" 32)] : List Go.Field))), 4, 56, (.pair .str (.pair (.int .i64) (.pair (.int .i64) (.pair (.sl (.pair (.int .i64) (.pair .str .unit))) .unit)))), (([] : List UInt8), (0 : Int), (0 : Int), ([] : List (Int × ((List UInt8) × Unit))), ()), true⟩

theorem ty41_ok : TyOk Go.Proofs.Try.prog 41 ty41 := TyOk.of (by kernel_rfl) (by kernel_rfl) (by kernel_rfl) (by kernel_rfl)

def ty43 : TyI := ⟨(Go.TypeDesc.struct (List.toArray ([(Go.Field.mk "Num" 3 0 false "" "" 0), (Go.Field.mk "Text" 9 1 false "" "" 8)] : List Go.Field))), 2, 24, (.pair (.int .i64) (.pair .str .unit)), ((0 : Int), ([] : List UInt8), ()), true⟩

theorem ty43_ok : TyOk Go.Proofs.Try.prog 43 ty43 := TyOk.of (by kernel_rfl) (by kernel_rfl) (by kernel_rfl) (by kernel_rfl)

def ty51 : TyI := ⟨(Go.TypeDesc.struct (List.toArray ([(Go.Field.mk "Kind" 3 0 false "" "" 0), (Go.Field.mk "Tenant" 9 1 false "" "" 8), (Go.Field.mk "Num" 3 2 false "" "" 24), (Go.Field.mk "Epoch" 3 3 false "" "" 32), (Go.Field.mk "Text" 9 4 false "" "" 40)] : List Go.Field))), 5, 56, (.pair (.int .i64) (.pair .str (.pair (.int .i64) (.pair (.int .i64) (.pair .str .unit))))), ((0 : Int), ([] : List UInt8), (0 : Int), (0 : Int), ([] : List UInt8), ()), true⟩

theorem z11r : TyOk Go.Proofs.Try.prog 51 ty51 := TyOk.of (by kernel_rfl) (by kernel_rfl) (by kernel_rfl) (by kernel_rfl)

def ty57 : TyI := ⟨(Go.TypeDesc.func (List.toArray ([41] : List Nat)) (List.toArray ([4] : List Nat)) false), 1, 8, .opq, Go.Value.nilFunc, false⟩

theorem z11q : TyOk Go.Proofs.Try.prog 57 ty57 := TyOk.of (by kernel_rfl) (by kernel_rfl) (by kernel_rfl) (by kernel_rfl)

def ty71 : TyI := ⟨(Go.TypeDesc.func (List.toArray ([43] : List Nat)) (List.toArray ([4] : List Nat)) false), 1, 8, .opq, Go.Value.nilFunc, false⟩

theorem z11p : TyOk Go.Proofs.Try.prog 71 ty71 := TyOk.of (by kernel_rfl) (by kernel_rfl) (by kernel_rfl) (by kernel_rfl)

def ty73 : TyI := ⟨(Go.TypeDesc.func (List.toArray ([21, 4] : List Nat)) (List.toArray ([4] : List Nat)) false), 1, 8, .opq, Go.Value.nilFunc, false⟩

theorem z11o : TyOk Go.Proofs.Try.prog 73 ty73 := TyOk.of (by kernel_rfl) (by kernel_rfl) (by kernel_rfl) (by kernel_rfl)

def tys : List (Nat × TyI) := [(3, ty3), (4, ty4), (5, ty5), (9, ty9), (21, ty21), (22, ty22), (24, ty24), (25, ty25), (28, ty28), (29, ty29), (39, ty39), (41, ty41), (43, ty43), (51, ty51), (57, ty57), (71, ty71), (73, ty73)]

theorem z28 : TysOk Go.Proofs.Try.prog tys := TysOk.cons z131 (TysOk.cons z130 (TysOk.cons z12z (TysOk.cons z12y (TysOk.cons z11y (TysOk.cons z11x (TysOk.cons z11w (TysOk.cons z11v (TysOk.cons z11u (TysOk.cons z11t (TysOk.cons z11s (TysOk.cons ty41_ok (TysOk.cons ty43_ok (TysOk.cons z11r (TysOk.cons z11q (TysOk.cons z11p (TysOk.cons z11o (TysOk.nil)))))))))))))))))

theorem mixed : Go.Proofs.Try.prog.follows .mixedOrders = true := by kernel_rfl

def zk3 : Code := (Go.Proofs.Try.f30.body).getD .skip

def zgg : List (List Nat × List Nat) := [([0], [0, 1]), ([0, 1], [4]), ([1, 1], [4])]

def zan (N : Nat) : Env := z45 tys zm [] [] [] [] false [] []

theorem zlc (N : Nat) : EnvOk Go.Proofs.Try.prog (zan N) := z16 mixed z28 (FnsOk.nil) (ItsOk.nil)

def z2j (N : Nat) (n : Int) (low : Int) : Option Bool :=
 cond (decide (low <= n))
 (some (decide (n <= (1099511627776 : Int))))
 (some false)

def zgf (N : Nat) : Tab Bool := []

theorem zk2 (N : Nat) (x : z2g [(0, .v (.int .i64)), (0, .v (.int .i64))]) : zc7 (zan N) N (zgf N) zgg Go.Proofs.Try.f30 (mkS [(0, .v (.int .i64)), (0, .v (.int .i64))] 0 x) (z6g (.v .bool) 2) = z2j N x.1 x.2.1 := by kernel_rfl

def z54 (N : Nat) : List A -> Res := z1z [(0, .v (.int .i64)), (0, .v (.int .i64))] (fun x => z2j N x.1 x.2.1) (z51 (.v .bool) 2)

theorem z8x (N : Nat) : Contract Go.Proofs.Try.prog zm 30 (z54 N) :=
  Contract.of (E := zan N) (H := zgf N) (L := zgg) (N := N) (body := zk3) (K := (z6g (.v .bool) 2)) (zlc N) Go.Proofs.Try.func30 (by kernel_rfl) (by decide) (fun _ hb => TabOk.nil) (fun x y h => by rw [zk2]; exact h) (z20 (s := (.v .bool)) (m := 2))

def zmh : Code := (Go.Proofs.Try.f58.body).getD .skip

def zjq : List (List Nat × List Nat) := [([0], [0]), ([0, 1], [2]), ([1, 1], [2])]

def zdd (N : Nat) : Env := z45 tys zm [] [] [] [] false [] []

theorem zo3 (N : Nat) : EnvOk Go.Proofs.Try.prog (zdd N) := z16 mixed z28 (FnsOk.nil) (ItsOk.nil)

def ze1 (N : Nat) (c : Int) : Option Bool :=
 cond (decide ((48 : Int) <= c))
 (some (decide (c <= (57 : Int))))
 (some false)

def zjp (N : Nat) : Tab Bool := []

theorem zmg (N : Nat) (x : z2g [(0, .v (.int .i32))]) : zc7 (zdd N) N (zjp N) zjq Go.Proofs.Try.f58 (mkS [(0, .v (.int .i32))] 0 x) (z6g (.v .bool) 1) = ze1 N x.1 := by kernel_rfl

def zfb (N : Nat) : List A -> Res := z1z [(0, .v (.int .i32))] (fun x => ze1 N x.1) (z51 (.v .bool) 1)

theorem zqh (N : Nat) : Contract Go.Proofs.Try.prog zm 58 (zfb N) :=
  Contract.of (E := zdd N) (H := zjp N) (L := zjq) (N := N) (body := zmh) (K := (z6g (.v .bool) 1)) (zo3 N) Go.Proofs.Try.func58 (by kernel_rfl) (by decide) (fun _ hb => TabOk.nil) (fun x y h => by rw [zmg]; exact h) (z20 (s := (.v .bool)) (m := 1))

def z5t : Code := (Go.Proofs.Try.f54.body).getD .skip

def z8c : List (List Nat × List Nat) := [([0], [0, 1]), ([0, 1], [5, 0, 1]), ([0, 1, 1], [4]), ([1, 1, 1], [4])]

def z5u (N : Nat) : Env := z45 tys zm [(58, zfb N)] [] [] [] false [] []

theorem zig (N : Nat) : EnvOk Go.Proofs.Try.prog (z5u N) := z16 mixed z28 (FnsOk.cons (zqh N) (FnsOk.nil)) (ItsOk.nil)

def z6y (N : Nat) (c : Int) (first : Bool) (k0 : Bool -> Option Bool) : Option Bool :=
 cond (decide ((97 : Int) <= c))
 (k0 (decide (c <= (122 : Int))))
 (k0 false)

def zbw (N : Nat) (x : z2g [(0, .v (.int .i32)), (0, .v .bool)]) (K : Ex -> List A -> Option Bool) : Option Bool :=
 z6y N x.1 x.2.1 (fun a2 => (K .normal (mkS [(0, .v (.int .i32)), (0, .v .bool), (3, .v .bool)] 19 (x.1, x.2.1, a2, ()))))

def zbv (N : Nat) : Hd Bool := fun st K => (unS [(0, .v (.int .i32)), (0, .v .bool)] 23 (restr [0, 1] 0 st)).bind fun x => zbw N x K

def zkf (N : Nat) : Tab Bool := []

theorem zif {N : Nat} {c : Ctx} (hb : Base Go.Proofs.Try.prog (z5u N) c) : z1b Go.Proofs.Try.prog c (zp z5t [0, 1]) (zbv N) :=
  z1i (s := [(0, .v (.int .i32)), (0, .v .bool)]) (m := 23) (g := zbw N) [0, 1] (zo hb N (zkf N) z8c z5t TabOk.nil [0, 1] _ rfl) (fun x K => by kernel_rfl)

def z5v (N : Nat) (c : Int) (first : Bool) : Option Bool :=
 z6y N c first
 (fun letter => cond letter
 (some true)
 ((ze1 N c).bind fun y =>
 cond y
 (some (!first))
 (cond (c == (45 : Int))
 (some (!first))
 (some false))))

def zdc (N : Nat) : Tab Bool := [([0, 1], zbv N)]

theorem zh8 (N : Nat) (x : z2g [(0, .v (.int .i32)), (0, .v .bool)]) : zc7 (z5u N) N (zdc N) z8c Go.Proofs.Try.f54 (mkS [(0, .v (.int .i32)), (0, .v .bool)] 0 x) (z6g (.v .bool) 2) = z5v N x.1 x.2.1 := by kernel_rfl

def z69 (N : Nat) : List A -> Res := z1z [(0, .v (.int .i32)), (0, .v .bool)] (fun x => z5v N x.1 x.2.1) (z51 (.v .bool) 2)

theorem zbx (N : Nat) : Contract Go.Proofs.Try.prog zm 54 (z69 N) :=
  Contract.of (E := z5u N) (H := zdc N) (L := z8c) (N := N) (body := z5t) (K := (z6g (.v .bool) 2)) (zig N) Go.Proofs.Try.func54 (by kernel_rfl) (by decide) (fun _ hb => (TabOk.cons (zif hb) TabOk.nil)) (fun x y h => by rw [zh8]; exact h) (z20 (s := (.v .bool)) (m := 2))

def z1r : Code := (Go.Proofs.Try.f53.body).getD .skip

def z3q : List (List Nat × List Nat) := [([0], [0, 1]), ([0, 0, 1], [13, 0, 1]), ([1, 0, 1], [0, 1]), ([0, 0, 1, 0, 1], [4]), ([1, 0, 1, 0, 1], [4]), ([0, 0, 1, 1], [15, 1]), ([0, 1, 0, 1, 1], [15, 1]), ([0, 0, 0, 1, 0, 1, 1], [17, 16, 1, 15]), ([0, 1, 0, 0, 1, 0, 1, 1], [16, 1, 15]), ([1, 0, 1, 0, 0, 1, 0, 1, 1], []), ([0, 0, 1, 1, 0, 0, 1, 0, 1, 1], [1, 6, 5, 15]), ([0, 1, 0, 1, 1, 0, 0, 1, 0, 1, 1], [25, 15, 1]), ([1, 1, 0, 1, 1, 0, 0, 1, 0, 1, 1], [15, 1]), ([0, 0, 1, 1, 0, 1, 1, 0, 0, 1, 0, 1, 1], [4]), ([1, 0, 1, 1, 0, 1, 1, 0, 0, 1, 0, 1, 1], [4]), ([1, 1, 0, 0, 1, 0, 1, 1], [15, 1]), ([1, 0, 1, 1], []), ([0, 1, 1, 1], [4]), ([1, 1, 1, 1], [4])]

def z2r (N : Nat) : Env := z45 tys zm [(54, z69 N)] [] [] [] false [] []

theorem zik (N : Nat) : EnvOk Go.Proofs.Try.prog (z2r N) := z16 mixed z28 (FnsOk.cons (zbx N) (FnsOk.nil)) (ItsOk.nil)

def z70 (N : Nat) (s : (List UInt8)) (k0 : Bool -> Option Bool) : Option Bool :=
 cond (s == ([] : List UInt8))
 (k0 true)
 (k0 (decide ((32 : Int) < (((List.length s) : Nat) : Int))))

def zc5 (N : Nat) (x : z2g [(0, .v .str), (0, .fnc 54)]) (K : Ex -> List A -> Option Bool) : Option Bool :=
 z70 N x.1 (fun a1 => (K .normal (mkS [(0, .v .str), (0, .fnc 54), (11, .v .bool)] 12 (x.1, (), a1, ()))))

def zc0 (N : Nat) : Hd Bool := fun st K => (unS [(0, .v .str), (0, .fnc 54)] 24 (restr [0, 1] 0 st)).bind fun x => zc5 N x K

def zkh (N : Nat) : Tab Bool := []

theorem zii {N : Nat} {c : Ctx} (hb : Base Go.Proofs.Try.prog (z2r N) c) : z1b Go.Proofs.Try.prog c (zp z1r [0, 0, 1]) (zc0 N) :=
  z1i (s := [(0, .v .str), (0, .fnc 54)]) (m := 24) (g := zc5 N) [0, 1] (zo hb N (zkh N) z3q z1r TabOk.nil [0, 0, 1] _ rfl) (fun x K => by kernel_rfl)

def z71 (N : Nat) (s : (List UInt8)) (k0 : Bool -> Option Bool) (k1 : Option Bool) : Option Bool :=
 z70 N s
 (fun x13 => cond x13
 (k0 false)
 (k1))

def zc6 (N : Nat) (x : z2g [(0, .v .str), (0, .fnc 54)]) (K : Ex -> List A -> Option Bool) : Option Bool :=
 z71 N x.1 (fun a0 => (K .ret (mkS [(4, .v .bool)] 21 (a0, ())))) (K .normal (mkS [(0, .v .str), (0, .fnc 54)] 24 (x.1, (), ())))

def zc1 (N : Nat) : Hd Bool := fun st K => (unS [(0, .v .str), (0, .fnc 54)] 24 (restr [0, 1] 0 st)).bind fun x => zc6 N x K

def zki (N : Nat) : Tab Bool := [([0, 0, 1], zc0 N)]

theorem zij {N : Nat} {c : Ctx} (hb : Base Go.Proofs.Try.prog (z2r N) c) : z1b Go.Proofs.Try.prog c (zp z1r [0, 1]) (zc1 N) :=
  z1i (s := [(0, .v .str), (0, .fnc 54)]) (m := 24) (g := zc6 N) [0, 1] (zo hb N (zki N) z3q z1r (TabOk.cons (zii hb) TabOk.nil) [0, 1] _ rfl) (fun x K => by kernel_rfl)

def z6z (N : Nat) (x15 : (List UInt8 × Nat)) (rec : (List UInt8 × Nat) -> Option Bool) (k0 : Bool -> Option Bool) (k1 : Option Bool) : Option Bool :=
 cond (decide (x15.2 < (List.length x15.1)))
 ((z5v N (((Go.Lift.runeAt x15.1 x15.2).1 : Nat) : Int) (((x15.2 : Nat) : Int) == (0 : Int))).bind fun y =>
 cond (!y)
 (k0 false)
 (rec (x15.1, (x15.2 + (Go.Lift.runeAt x15.1 x15.2).2))))
 (k1)

def zby (N : Nat) (x15 : (List UInt8 × Nat)) (k0 : Bool -> Option Bool) (k1 : Option Bool) : Option Bool :=
 iter (fun (v : (List UInt8 × Nat)) r => z6z N v (fun x15 => (r x15)) k0 k1) N x15

def zc2 (N : Nat) (i : Unit) (v : (List UInt8 × Nat)) (r : (List UInt8 × Nat) -> Option Bool) (K : Ex -> List A -> Option Bool) : Option Bool :=
 z6z N v (fun x15 => (r x15)) (fun a0 => (K .ret (mkS [(4, .v .bool)] 21 (a0, ())))) (K (.exit 0) (mkS [] 26 ()))

def zbz (N : Nat) : Hd Bool := fun st K => (unS [(1, .fnc 54), (13, .iter)] 10 (restr [15, 1] 0 st)).bind fun x => iter (fun v r => zc2 N ((fun x => ()) x) v r K) N ((fun x => x.2.1) x)

def zkg (N : Nat) : Tab Bool := []

theorem zih {N : Nat} {c : Ctx} (hb : Base Go.Proofs.Try.prog (z2r N) c) : z1b Go.Proofs.Try.prog c (zp z1r [0, 1, 0, 1, 1]) (zbz N) :=
  z9d (s := [(1, .fnc 54), (13, .iter)]) (m := 10) (zc2 N) [15, 1] N (fun x => ()) (fun x => x.2.1) (fun i v => ((), v, ())) (fun _ => rfl) (zo hb N (zkg N) z3q z1r TabOk.nil [0, 0, 1, 0, 1, 1] _ rfl) (fun i v r K => by kernel_rfl)

def z5w (N : Nat) (s : (List UInt8)) : Option Bool :=
 z71 N s
 (fun x4 => some x4)
 (zby N (s, 0)
 (fun x41 => some x41)
 (some true))

def zde (N : Nat) : Tab Bool := [([0, 1], zc1 N), ([0, 1, 0, 1, 1], zbz N)]

theorem zh9 (N : Nat) (x : z2g [(0, .v .str), (0, .fnc 54)]) : zc7 (z2r N) N (zde N) z3q Go.Proofs.Try.f53 (mkS [(0, .v .str), (0, .fnc 54)] 0 x) (z6g (.v .bool) 2) = z5w N x.1 := by kernel_rfl

def za9 (N : Nat) : List A -> Res := z1z [(0, .v .str), (0, .fnc 54)] (fun x => z5w N x.1) (z51 (.v .bool) 2)

theorem zkj (N : Nat) : Contract Go.Proofs.Try.prog zm 53 (za9 N) :=
  Contract.of (E := z2r N) (H := zde N) (L := z3q) (N := N) (body := z1r) (K := (z6g (.v .bool) 2)) (zik N) Go.Proofs.Try.func53 (by kernel_rfl) (by decide) (fun _ hb => (TabOk.cons (zij hb) (TabOk.cons (zih hb) TabOk.nil))) (fun x y h => by rw [zh9]; exact h) (z20 (s := (.v .bool)) (m := 2))

def zo5 : Code := (Go.Proofs.Try.f40.body).getD .skip

def zmj : List (List Nat × List Nat) := [([0], [0]), ([0, 1], [2]), ([1, 1], [2])]

def zfx (N : Nat) : Env := z45 tys zm [(53, za9 N), (54, z69 N)] [] [] [] false [] []

theorem zqi (N : Nat) : EnvOk Go.Proofs.Try.prog (zfx N) := z16 mixed z28 (FnsOk.cons (zkj N) (FnsOk.cons (zbx N) (FnsOk.nil))) (ItsOk.nil)

def z6p (N : Nat) (s : (List UInt8)) : Option Bool :=
 (z5w N s).bind fun y =>
 some y

def zmi (N : Nat) : Tab Bool := []

theorem zo4 (N : Nat) (x : z2g [(0, .v .str)]) : zc7 (zfx N) N (zmi N) zmj Go.Proofs.Try.f40 (mkS [(0, .v .str)] 0 x) (z6g (.v .bool) 1) = z6p N x.1 := by kernel_rfl

def zbe (N : Nat) : List A -> Res := z1z [(0, .v .str)] (fun x => z6p N x.1) (z51 (.v .bool) 1)

theorem zdf (N : Nat) : Contract Go.Proofs.Try.prog zm 40 (zbe N) :=
  Contract.of (E := zfx N) (H := zmi N) (L := zmj) (N := N) (body := zo5) (K := (z6g (.v .bool) 1)) (zqi N) Go.Proofs.Try.func40 (by kernel_rfl) (by decide) (fun _ hb => TabOk.nil) (fun x y h => by rw [zo4]; exact h) (z20 (s := (.v .bool)) (m := 1))

def zle : Code := (Go.Proofs.Try.f48.body).getD .skip

def zj6 : List (List Nat × List Nat) := [([0], [0, 1, 2]), ([0, 1], [0, 1, 5, 2]), ([0, 1, 1], [5, 0, 2, 1]), ([0, 1, 1, 1], [4, 1, 2]), ([1, 1, 1, 1], [4, 1, 2])]

def zck (N : Nat) : Env := z45 tys zm [] [] [] [1, 2] false [] []

theorem znf (N : Nat) : EnvOk Go.Proofs.Try.prog (zck N) := z16 mixed z28 (FnsOk.nil) (ItsOk.nil)

def zdx (N : Nat) (n : Int) (x1 : Int) (x2 : ((List UInt8) × (Int × (Int × ((List (Int × ((List UInt8) × Unit))) × Unit))))) : Option (Bool × (Int × ((List UInt8) × (Int × (Int × ((List (Int × ((List UInt8) × Unit))) × Unit)))) × Unit)) :=
 cond (decide (x1 < n))
 (some ((decide (n < x2.2.2.1)), (n, (x2, ()))))
 (some (false, (n, (x2, ()))))

def zj5 (N : Nat) : Tab (Bool × (Int × ((List UInt8) × (Int × (Int × ((List (Int × ((List UInt8) × Unit))) × Unit)))) × Unit)) := []

theorem zld (N : Nat) (x : z2g [(0, .v (.int .i64)), (0, .box (.int .i64)), (0, .box (.pair .str (.pair (.int .i64) (.pair (.int .i64) (.pair (.sl (.pair (.int .i64) (.pair .str .unit))) .unit)))))]) : zc7 (zck N) N (zj5 N) zj6 Go.Proofs.Try.f48 (mkS [(0, .v (.int .i64)), (0, .box (.int .i64)), (0, .box (.pair .str (.pair (.int .i64) (.pair (.int .i64) (.pair (.sl (.pair (.int .i64) (.pair .str .unit))) .unit)))))] 0 x) (zhc (.v .bool) [(1, .box (.int .i64)), (0, .box (.pair .str (.pair (.int .i64) (.pair (.int .i64) (.pair (.sl (.pair (.int .i64) (.pair .str .unit))) .unit)))))] 0) = zdx N x.1 x.2.1 x.2.2.1 := by kernel_rfl

def zen (N : Nat) : List A -> Res := z1z [(0, .v (.int .i64)), (0, .box (.int .i64)), (0, .box (.pair .str (.pair (.int .i64) (.pair (.int .i64) (.pair (.sl (.pair (.int .i64) (.pair .str .unit))) .unit)))))] (fun x => zdx N x.1 x.2.1 x.2.2.1) (zta (.v .bool) [(1, .box (.int .i64)), (0, .box (.pair .str (.pair (.int .i64) (.pair (.int .i64) (.pair (.sl (.pair (.int .i64) (.pair .str .unit))) .unit)))))] 0)

theorem zpr (N : Nat) : Contract Go.Proofs.Try.prog zm 48 (zen N) :=
  Contract.of (E := zck N) (H := zj5 N) (L := zj6) (N := N) (body := zle) (K := (zhc (.v .bool) [(1, .box (.int .i64)), (0, .box (.pair .str (.pair (.int .i64) (.pair (.int .i64) (.pair (.sl (.pair (.int .i64) (.pair .str .unit))) .unit)))))] 0)) (znf N) Go.Proofs.Try.func48 (by kernel_rfl) (by decide) (fun _ hb => TabOk.nil) (fun x y h => by rw [zld]; exact h) (ze2 (s := (.v .bool)) (os := [(1, .box (.int .i64)), (0, .box (.pair .str (.pair (.int .i64) (.pair (.int .i64) (.pair (.sl (.pair (.int .i64) (.pair .str .unit))) .unit)))))]) (m := 0))

def z13 : Code := (Go.Proofs.Try.f31.body).getD .skip

def z22 : List (List Nat × List Nat) := [([0], [1]), ([0, 0, 1], [28, 1]), ([1, 0, 1], [1]), ([0, 0, 1, 0, 1], [2]), ([1, 0, 1, 0, 1], [2]), ([0, 1, 1], [3, 1]), ([0, 1, 1, 1], [1, 4, 3]), ([0, 0, 1, 1, 1, 1], [33, 32, 31, 4, 3, 1]), ([0, 1, 0, 1, 1, 1, 1], [33, 32, 31, 4, 3, 1]), ([0, 0, 0, 1, 0, 1, 1, 1, 1], [34, 31, 33, 4, 32, 3, 1]), ([0, 1, 0, 0, 1, 0, 1, 1, 1, 1], [31, 33, 4, 32, 3, 1]), ([1, 0, 1, 0, 0, 1, 0, 1, 1, 1, 1], []), ([0, 0, 0, 1, 1, 0, 0, 1, 0, 1, 1, 1, 1], [4, 6, 33, 32, 31, 3, 1]), ([0, 1, 0, 0, 1, 1, 0, 0, 1, 0, 1, 1, 1, 1], [47, 33, 32, 31, 4, 3, 1]), ([1, 1, 0, 0, 1, 1, 0, 0, 1, 0, 1, 1, 1, 1], [33, 32, 31, 4, 3, 1]), ([0, 0, 1, 1, 0, 0, 1, 1, 0, 0, 1, 0, 1, 1, 1, 1], [2]), ([1, 0, 1, 1, 0, 0, 1, 1, 0, 0, 1, 0, 1, 1, 1, 1], [2]), ([0, 1, 1, 0, 0, 1, 0, 1, 1, 1, 1], [33, 32, 31, 4, 3, 1]), ([1, 1, 1, 0, 0, 1, 0, 1, 1, 1, 1], [33, 32, 31, 4, 3, 1]), ([1, 0, 1, 1, 1, 1], []), ([0, 1, 1, 1, 1, 1], [2]), ([1, 1, 1, 1, 1, 1], [2])]

def z1p (N : Nat) : Env := z45 tys zm [(48, zen N), (40, zbe N), (30, z54 N)] [(4, .unit)] [] [] false [] []

theorem zeb (N : Nat) : EnvOk Go.Proofs.Try.prog (z1p N) := z16 mixed z28 (FnsOk.cons (zpr N) (FnsOk.cons (zdf N) (FnsOk.cons (z8x N) (FnsOk.nil)))) (ItsOk.nil)

def z4g (N : Nat) (t : ((List UInt8) × (Int × (Int × ((List (Int × ((List UInt8) × Unit))) × Unit))))) (k0 : Bool -> Option Bool) : Option Bool :=
 (z6p N t.1).bind fun y =>
 cond (!y)
 (k0 true)
 ((z2j N t.2.1 (0 : Int)).bind fun y1 =>
 cond (!y1)
 (k0 true)
 ((z2j N t.2.2.1 (1 : Int)).bind fun y2 =>
 cond (!y2)
 (k0 true)
 (k0 (decide ((8 : Int) < (((List.length t.2.2.2.1) : Nat) : Int))))))

def z7z (N : Nat) (x : z2g [(1, .box (.pair .str (.pair (.int .i64) (.pair (.int .i64) (.pair (.sl (.pair (.int .i64) (.pair .str .unit))) .unit)))))]) (K : Ex -> List A -> Option Bool) : Option Bool :=
 z4g N x.1 (fun a1 => (K .normal (mkS [(1, .box (.pair .str (.pair (.int .i64) (.pair (.int .i64) (.pair (.sl (.pair (.int .i64) (.pair .str .unit))) .unit))))), (26, .v .bool)] 20 (x.1, a1, ()))))

def z7v (N : Nat) : Hd Bool := fun st K => (unS [(1, .box (.pair .str (.pair (.int .i64) (.pair (.int .i64) (.pair (.sl (.pair (.int .i64) (.pair .str .unit))) .unit)))))] 47 (restr [1] 0 st)).bind fun x => z7z N x K

def zfo (N : Nat) : Tab Bool := []

theorem ze9 {N : Nat} {c : Ctx} (hb : Base Go.Proofs.Try.prog (z1p N) c) : z1b Go.Proofs.Try.prog c (zp z13 [0, 0, 1]) (z7v N) :=
  z1i (s := [(1, .box (.pair .str (.pair (.int .i64) (.pair (.int .i64) (.pair (.sl (.pair (.int .i64) (.pair .str .unit))) .unit)))))]) (m := 47) (g := z7z N) [1] (zo hb N (zfo N) z22 z13 TabOk.nil [0, 0, 1] _ rfl) (fun x K => by kernel_rfl)

def z4h (N : Nat) (t : ((List UInt8) × (Int × (Int × ((List (Int × ((List UInt8) × Unit))) × Unit))))) (k0 : Bool -> Option Bool) (k1 : Option Bool) : Option Bool :=
 z4g N t
 (fun x28 => cond x28
 (k0 false)
 (k1))

def z80 (N : Nat) (x : z2g [(1, .box (.pair .str (.pair (.int .i64) (.pair (.int .i64) (.pair (.sl (.pair (.int .i64) (.pair .str .unit))) .unit)))))]) (K : Ex -> List A -> Option Bool) : Option Bool :=
 z4h N x.1 (fun a0 => (K .ret (mkS [(2, .v .bool)] 46 (a0, ())))) (K .normal (mkS [(1, .box (.pair .str (.pair (.int .i64) (.pair (.int .i64) (.pair (.sl (.pair (.int .i64) (.pair .str .unit))) .unit)))))] 47 (x.1, ())))

def z7w (N : Nat) : Hd Bool := fun st K => (unS [(1, .box (.pair .str (.pair (.int .i64) (.pair (.int .i64) (.pair (.sl (.pair (.int .i64) (.pair .str .unit))) .unit)))))] 47 (restr [1] 0 st)).bind fun x => z80 N x K

def zfp (N : Nat) : Tab Bool := [([0, 0, 1], z7v N)]

theorem zea {N : Nat} {c : Ctx} (hb : Base Go.Proofs.Try.prog (z1p N) c) : z1b Go.Proofs.Try.prog c (zp z13 [0, 1]) (z7w N) :=
  z1i (s := [(1, .box (.pair .str (.pair (.int .i64) (.pair (.int .i64) (.pair (.sl (.pair (.int .i64) (.pair .str .unit))) .unit)))))]) (m := 47) (g := z80 N) [1] (zo hb N (zfp N) z22 z13 (TabOk.cons (ze9 hb) TabOk.nil) [0, 1] _ rfl) (fun x K => by kernel_rfl)

def z4e (N : Nat) (t : ((List UInt8) × (Int × (Int × ((List (Int × ((List UInt8) × Unit))) × Unit))))) (last : Int) (k : (Int × ((List UInt8) × Unit))) (x31 : (List (Int × ((List UInt8) × Unit)))) (x32 : Int) (x33 : Int) (k0 : ((List UInt8) × (Int × (Int × ((List (Int × ((List UInt8) × Unit))) × Unit)))) -> Int -> Bool -> Option Bool) : Option Bool :=
 (zdx N k.1 last t).bind fun y =>
 cond (!y.1)
 (k0 y.2.2.1 y.2.1 true)
 (k0 y.2.2.1 y.2.1 ((((List.length k.2.1) : Nat) : Int) != (32 : Int)))

def z7x (N : Nat) (x : z2g [(1, .box (.pair .str (.pair (.int .i64) (.pair (.int .i64) (.pair (.sl (.pair (.int .i64) (.pair .str .unit))) .unit))))), (1, .box (.int .i64)), (0, .clo 48 [3, 1]), (1, .box (.pair (.int .i64) (.pair .str .unit))), (24, .v (.sl (.pair (.int .i64) (.pair .str .unit)))), (0, .v (.int .i64)), (0, .v (.int .i64))]) (K : Ex -> List A -> Option Bool) : Option Bool :=
 z4e N x.1 x.2.1 x.2.2.2.1 x.2.2.2.2.1 x.2.2.2.2.2.1 x.2.2.2.2.2.2.1 (fun a0 a1 a5 => (K .normal (mkS [(1, .box (.pair .str (.pair (.int .i64) (.pair (.int .i64) (.pair (.sl (.pair (.int .i64) (.pair .str .unit))) .unit))))), (1, .box (.int .i64)), (0, .clo 48 [3, 1]), (26, .v (.sl (.pair (.int .i64) (.pair .str .unit)))), (0, .v (.int .i64)), (0, .v (.int .i64)), (13, .v .bool)] 1 (a0, a1, (), x.2.2.2.2.1, x.2.2.2.2.2.1, x.2.2.2.2.2.2.1, a5, ()))))

def z7t (N : Nat) : Hd Bool := fun st K => (unS [(1, .box (.pair .str (.pair (.int .i64) (.pair (.int .i64) (.pair (.sl (.pair (.int .i64) (.pair .str .unit))) .unit))))), (1, .box (.int .i64)), (0, .clo 48 [3, 1]), (1, .box (.pair (.int .i64) (.pair .str .unit))), (24, .v (.sl (.pair (.int .i64) (.pair .str .unit)))), (0, .v (.int .i64)), (0, .v (.int .i64))] 15 (restr [4, 6, 33, 32, 31, 3, 1] 0 st)).bind fun x => z7x N x K

def zfm (N : Nat) : Tab Bool := []

theorem ze7 {N : Nat} {c : Ctx} (hb : Base Go.Proofs.Try.prog (z1p N) c) : z1b Go.Proofs.Try.prog c (zp z13 [0, 1, 0, 0, 1, 1, 0, 0, 1, 0, 1, 1, 1, 1]) (z7t N) :=
  z1i (s := [(1, .box (.pair .str (.pair (.int .i64) (.pair (.int .i64) (.pair (.sl (.pair (.int .i64) (.pair .str .unit))) .unit))))), (1, .box (.int .i64)), (0, .clo 48 [3, 1]), (1, .box (.pair (.int .i64) (.pair .str .unit))), (24, .v (.sl (.pair (.int .i64) (.pair .str .unit)))), (0, .v (.int .i64)), (0, .v (.int .i64))]) (m := 15) (g := z7x N) [4, 6, 33, 32, 31, 3, 1] (zo hb N (zfm N) z22 z13 TabOk.nil [0, 1, 0, 0, 1, 1, 0, 0, 1, 0, 1, 1, 1, 1] _ rfl) (fun x K => by kernel_rfl)

def z4d (N : Nat) (x31 : (List (Int × ((List UInt8) × Unit)))) (x32 : Int) (t : ((List UInt8) × (Int × (Int × ((List (Int × ((List UInt8) × Unit))) × Unit))))) (last : Int) (x33 : Int) (rec : ((List UInt8) × (Int × (Int × ((List (Int × ((List UInt8) × Unit))) × Unit)))) -> Int -> Int -> Option Bool) (k0 : Bool -> Option Bool) (k1 : Option Bool) : Option Bool :=
 cond (decide (x33 < x32))
 (cond (Go.Lift.inR x33 (List.length x31))
 (z4e N t last (List.getD x31 (Int.toNat x33) ((0 : Int), (([] : List UInt8), ()))) x31 x32 x33
 (fun t1 last1 x47 => cond x47
 (k0 false)
 (rec t1 last1 (Go.IntKind.wrap Go.IntKind.i64 (x33 + (1 : Int))))))
 (none))
 (k1)

def z4f (N : Nat) (t : ((List UInt8) × (Int × (Int × ((List (Int × ((List UInt8) × Unit))) × Unit))))) (last : Int) (x31 : (List (Int × ((List UInt8) × Unit)))) (x32 : Int) (x33 : Int) (k0 : Bool -> Option Bool) (k1 : Option Bool) : Option Bool :=
 iter (fun (v : (((List UInt8) × (Int × (Int × ((List (Int × ((List UInt8) × Unit))) × Unit)))) × Int × Int)) r => z4d N x31 x32 v.1 v.2.1 v.2.2 (fun t last x33 => (r (t, last, x33))) k0 k1) N (t, last, x33)

def z7y (N : Nat) (i : ((List (Int × ((List UInt8) × Unit))) × Int)) (v : (((List UInt8) × (Int × (Int × ((List (Int × ((List UInt8) × Unit))) × Unit)))) × Int × Int)) (r : (((List UInt8) × (Int × (Int × ((List (Int × ((List UInt8) × Unit))) × Unit)))) × Int × Int) -> Option Bool) (K : Ex -> List A -> Option Bool) : Option Bool :=
 z4d N i.1 i.2 v.1 v.2.1 v.2.2 (fun t last x33 => (r (t, last, x33))) (fun a0 => (K .ret (mkS [(2, .v .bool)] 46 (a0, ())))) (K (.exit 0) (mkS [] 49 ()))

def z7u (N : Nat) : Hd Bool := fun st K => (unS [(1, .box (.pair .str (.pair (.int .i64) (.pair (.int .i64) (.pair (.sl (.pair (.int .i64) (.pair .str .unit))) .unit))))), (1, .box (.int .i64)), (0, .clo 48 [3, 1]), (26, .v (.sl (.pair (.int .i64) (.pair .str .unit)))), (0, .v (.int .i64)), (0, .v (.int .i64))] 15 (restr [33, 32, 31, 4, 3, 1] 0 st)).bind fun x => iter (fun v r => z7y N ((fun x => (x.2.2.2.1, x.2.2.2.2.1)) x) v r K) N ((fun x => (x.1, x.2.1, x.2.2.2.2.2.1)) x)

def zfn (N : Nat) : Tab Bool := [([0, 1, 0, 0, 1, 1, 0, 0, 1, 0, 1, 1, 1, 1], z7t N)]

theorem ze8 {N : Nat} {c : Ctx} (hb : Base Go.Proofs.Try.prog (z1p N) c) : z1b Go.Proofs.Try.prog c (zp z13 [0, 1, 0, 1, 1, 1, 1]) (z7u N) :=
  z9d (s := [(1, .box (.pair .str (.pair (.int .i64) (.pair (.int .i64) (.pair (.sl (.pair (.int .i64) (.pair .str .unit))) .unit))))), (1, .box (.int .i64)), (0, .clo 48 [3, 1]), (26, .v (.sl (.pair (.int .i64) (.pair .str .unit)))), (0, .v (.int .i64)), (0, .v (.int .i64))]) (m := 15) (z7y N) [33, 32, 31, 4, 3, 1] N (fun x => (x.2.2.2.1, x.2.2.2.2.1)) (fun x => (x.1, x.2.1, x.2.2.2.2.2.1)) (fun i v => (v.1, v.2.1, (), i.1, i.2, v.2.2, ())) (fun _ => rfl) (zo hb N (zfn N) z22 z13 (TabOk.cons (ze7 hb) TabOk.nil) [0, 0, 1, 0, 1, 1, 1, 1] _ rfl) (fun i v r K => by kernel_rfl)

def z2h (N : Nat) (t : ((List UInt8) × (Int × (Int × ((List (Int × ((List UInt8) × Unit))) × Unit))))) : Option Bool :=
 z4h N t
 (fun x2 => some x2)
 (z4f N t (0 : Int) t.2.2.2.1 (((List.length t.2.2.2.1) : Nat) : Int) (0 : Int)
 (fun x21 => some x21)
 (some true))

def z8n (N : Nat) : Tab Bool := [([0, 1], z7w N), ([0, 1, 0, 1, 1, 1, 1], z7u N)]

theorem zcl (N : Nat) (x : z2g [(0, .v (.pair .str (.pair (.int .i64) (.pair (.int .i64) (.pair (.sl (.pair (.int .i64) (.pair .str .unit))) .unit)))))]) : zc7 (z1p N) N (z8n N) z22 Go.Proofs.Try.f31 (mkS [(0, .v (.pair .str (.pair (.int .i64) (.pair (.int .i64) (.pair (.sl (.pair (.int .i64) (.pair .str .unit))) .unit)))))] 0 x) (z6g (.v .bool) 1) = z2h N x.1 := by kernel_rfl

def z74 (N : Nat) : List A -> Res := z1z [(0, .v (.pair .str (.pair (.int .i64) (.pair (.int .i64) (.pair (.sl (.pair (.int .i64) (.pair .str .unit))) .unit)))))] (fun x => z2h N x.1) (z51 (.v .bool) 1)

theorem zfq (N : Nat) : Contract Go.Proofs.Try.prog zm 31 (z74 N) :=
  Contract.of (E := z1p N) (H := z8n N) (L := z22) (N := N) (body := z13) (K := (z6g (.v .bool) 1)) (zeb N) Go.Proofs.Try.func31 (by kernel_rfl) (by decide) (fun _ hb => (TabOk.cons (zea hb) (TabOk.cons (ze8 hb) TabOk.nil))) (fun x y h => by rw [zcl]; exact h) (z20 (s := (.v .bool)) (m := 1))

def z1q : Code := (Go.Proofs.Try.f13.body).getD .skip

def z4q : List (List Nat × List Nat) := [([0], [1]), ([0, 0, 1], [14, 1]), ([1, 0, 1], [1]), ([0, 0, 1, 0, 1], [2]), ([1, 0, 1, 0, 1], [2]), ([0, 0, 1, 1], [18, 17, 16, 1]), ([0, 1, 0, 1, 1], [18, 17, 16, 1]), ([0, 0, 0, 1, 0, 1, 1], [19, 18, 16, 1, 17]), ([0, 1, 0, 0, 1, 0, 1, 1], [18, 16, 1, 17]), ([1, 0, 1, 0, 0, 1, 0, 1, 1], []), ([0, 0, 0, 1, 1, 0, 0, 1, 0, 1, 1], [3, 4, 1, 18, 17, 16]), ([0, 1, 0, 0, 1, 1, 0, 0, 1, 0, 1, 1], [41, 18, 17, 16, 1]), ([1, 1, 0, 0, 1, 1, 0, 0, 1, 0, 1, 1], [18, 17, 16, 1]), ([0, 0, 1, 1, 0, 0, 1, 1, 0, 0, 1, 0, 1, 1], [2]), ([1, 0, 1, 1, 0, 0, 1, 1, 0, 0, 1, 0, 1, 1], [2]), ([0, 1, 1, 0, 0, 1, 0, 1, 1], [18, 17, 16, 1]), ([1, 1, 1, 0, 0, 1, 0, 1, 1], [18, 17, 16, 1]), ([1, 0, 1, 1], []), ([0, 1, 1, 1], [2]), ([1, 1, 1, 1], [2])]

def z3k (N : Nat) : Env := z45 tys zm [(31, z74 N), (30, z54 N)] [] [] [] false [] []

theorem znl (N : Nat) : EnvOk Go.Proofs.Try.prog (z3k N) := z16 mixed z28 (FnsOk.cons (zfq N) (FnsOk.cons (z8x N) (FnsOk.nil))) (ItsOk.nil)

def zas (N : Nat) (s : ((List ((List UInt8) × (Int × (Int × ((List (Int × ((List UInt8) × Unit))) × Unit))))) × (Int × Unit))) (k0 : Bool -> Option Bool) : Option Bool :=
 cond (decide ((16 : Int) < (((List.length s.1) : Nat) : Int)))
 (k0 true)
 ((z2j N s.2.1 (0 : Int)).bind fun y =>
 k0 (!y))

def zgq (N : Nat) (x : z2g [(1, .box (.pair (.sl (.pair .str (.pair (.int .i64) (.pair (.int .i64) (.pair (.sl (.pair (.int .i64) (.pair .str .unit))) .unit))))) (.pair (.int .i64) .unit)))]) (K : Ex -> List A -> Option Bool) : Option Bool :=
 zas N x.1 (fun a1 => (K .normal (mkS [(1, .box (.pair (.sl (.pair .str (.pair (.int .i64) (.pair (.int .i64) (.pair (.sl (.pair (.int .i64) (.pair .str .unit))) .unit))))) (.pair (.int .i64) .unit))), (12, .v .bool)] 28 (x.1, a1, ()))))

def zgm (N : Nat) : Hd Bool := fun st K => (unS [(1, .box (.pair (.sl (.pair .str (.pair (.int .i64) (.pair (.int .i64) (.pair (.sl (.pair (.int .i64) (.pair .str .unit))) .unit))))) (.pair (.int .i64) .unit)))] 41 (restr [1] 0 st)).bind fun x => zgq N x K

def zpv (N : Nat) : Tab Bool := []

theorem znj {N : Nat} {c : Ctx} (hb : Base Go.Proofs.Try.prog (z3k N) c) : z1b Go.Proofs.Try.prog c (zp z1q [0, 0, 1]) (zgm N) :=
  z1i (s := [(1, .box (.pair (.sl (.pair .str (.pair (.int .i64) (.pair (.int .i64) (.pair (.sl (.pair (.int .i64) (.pair .str .unit))) .unit))))) (.pair (.int .i64) .unit)))]) (m := 41) (g := zgq N) [1] (zo hb N (zpv N) z4q z1q TabOk.nil [0, 0, 1] _ rfl) (fun x K => by kernel_rfl)

def zat (N : Nat) (s : ((List ((List UInt8) × (Int × (Int × ((List (Int × ((List UInt8) × Unit))) × Unit))))) × (Int × Unit))) (k0 : Bool -> Option Bool) (k1 : Option Bool) : Option Bool :=
 zas N s
 (fun x14 => cond x14
 (k0 false)
 (k1))

def zgr (N : Nat) (x : z2g [(1, .box (.pair (.sl (.pair .str (.pair (.int .i64) (.pair (.int .i64) (.pair (.sl (.pair (.int .i64) (.pair .str .unit))) .unit))))) (.pair (.int .i64) .unit)))]) (K : Ex -> List A -> Option Bool) : Option Bool :=
 zat N x.1 (fun a0 => (K .ret (mkS [(2, .v .bool)] 40 (a0, ())))) (K .normal (mkS [(1, .box (.pair (.sl (.pair .str (.pair (.int .i64) (.pair (.int .i64) (.pair (.sl (.pair (.int .i64) (.pair .str .unit))) .unit))))) (.pair (.int .i64) .unit)))] 41 (x.1, ())))

def zgn (N : Nat) : Hd Bool := fun st K => (unS [(1, .box (.pair (.sl (.pair .str (.pair (.int .i64) (.pair (.int .i64) (.pair (.sl (.pair (.int .i64) (.pair .str .unit))) .unit))))) (.pair (.int .i64) .unit)))] 41 (restr [1] 0 st)).bind fun x => zgr N x K

def zpw (N : Nat) : Tab Bool := [([0, 0, 1], zgm N)]

theorem znk {N : Nat} {c : Ctx} (hb : Base Go.Proofs.Try.prog (z3k N) c) : z1b Go.Proofs.Try.prog c (zp z1q [0, 1]) (zgn N) :=
  z1i (s := [(1, .box (.pair (.sl (.pair .str (.pair (.int .i64) (.pair (.int .i64) (.pair (.sl (.pair (.int .i64) (.pair .str .unit))) .unit))))) (.pair (.int .i64) .unit)))]) (m := 41) (g := zgr N) [1] (zo hb N (zpw N) z4q z1q (TabOk.cons (znj hb) TabOk.nil) [0, 1] _ rfl) (fun x K => by kernel_rfl)

def zaq (N : Nat) (s : ((List ((List UInt8) × (Int × (Int × ((List (Int × ((List UInt8) × Unit))) × Unit))))) × (Int × Unit))) (i : Int) (t : ((List UInt8) × (Int × (Int × ((List (Int × ((List UInt8) × Unit))) × Unit))))) (x16 : (List ((List UInt8) × (Int × (Int × ((List (Int × ((List UInt8) × Unit))) × Unit)))))) (x17 : Int) (x18 : Int) (k0 : Bool -> Option Bool) : Option Bool :=
  cond (decide ((0 : Int) < i))
  (cond (Go.Lift.inR (Go.IntKind.wrap Go.IntKind.i64 (i - (1 : Int))) (List.length s.1))
    (cond ((Go.Op.bytesLess t.1 (List.getD s.1 (Int.toNat (Go.IntKind.wrap Go.IntKind.i64 (i - (1 : Int)))) (([] : List UInt8), ((0 : Int), ((0 : Int), (([] : List (Int × ((List UInt8) × Unit))), ()))))).1) || (t.1 == (List.getD s.1 (Int.toNat (Go.IntKind.wrap Go.IntKind.i64 (i - (1 : Int)))) (([] : List UInt8), ((0 : Int), ((0 : Int), (([] : List (Int × ((List UInt8) × Unit))), ()))))).1))
      (k0 true)
      ((z2h N t).bind fun y =>
        k0 (!y)))
    (none))
  ((z2h N t).bind fun y1 =>
    k0 (!y1))

def zgo (N : Nat) (x : z2g [(1, .box (.pair (.sl (.pair .str (.pair (.int .i64) (.pair (.int .i64) (.pair (.sl (.pair (.int .i64) (.pair .str .unit))) .unit))))) (.pair (.int .i64) .unit))), (1, .v (.int .i64)), (0, .box (.pair .str (.pair (.int .i64) (.pair (.int .i64) (.pair (.sl (.pair (.int .i64) (.pair .str .unit))) .unit))))), (11, .v (.sl (.pair .str (.pair (.int .i64) (.pair (.int .i64) (.pair (.sl (.pair (.int .i64) (.pair .str .unit))) .unit)))))), (0, .v (.int .i64)), (0, .v (.int .i64))]) (K : Ex -> List A -> Option Bool) : Option Bool :=
 zaq N x.1 x.2.1 x.2.2.1 x.2.2.2.1 x.2.2.2.2.1 x.2.2.2.2.2.1 (fun a4 => (K .normal (mkS [(1, .box (.pair (.sl (.pair .str (.pair (.int .i64) (.pair (.int .i64) (.pair (.sl (.pair (.int .i64) (.pair .str .unit))) .unit))))) (.pair (.int .i64) .unit))), (14, .v (.sl (.pair .str (.pair (.int .i64) (.pair (.int .i64) (.pair (.sl (.pair (.int .i64) (.pair .str .unit))) .unit)))))), (0, .v (.int .i64)), (0, .v (.int .i64)), (22, .v .bool)] 1 (x.1, x.2.2.2.1, x.2.2.2.2.1, x.2.2.2.2.2.1, a4, ()))))

def zgk (N : Nat) : Hd Bool := fun st K => (unS [(1, .box (.pair (.sl (.pair .str (.pair (.int .i64) (.pair (.int .i64) (.pair (.sl (.pair (.int .i64) (.pair .str .unit))) .unit))))) (.pair (.int .i64) .unit))), (1, .v (.int .i64)), (0, .box (.pair .str (.pair (.int .i64) (.pair (.int .i64) (.pair (.sl (.pair (.int .i64) (.pair .str .unit))) .unit))))), (11, .v (.sl (.pair .str (.pair (.int .i64) (.pair (.int .i64) (.pair (.sl (.pair (.int .i64) (.pair .str .unit))) .unit)))))), (0, .v (.int .i64)), (0, .v (.int .i64))] 24 (restr [3, 4, 1, 18, 17, 16] 0 st)).bind fun x => zgo N x K

def zpt (N : Nat) : Tab Bool := []

theorem znh {N : Nat} {c : Ctx} (hb : Base Go.Proofs.Try.prog (z3k N) c) : z1b Go.Proofs.Try.prog c (zp z1q [0, 1, 0, 0, 1, 1, 0, 0, 1, 0, 1, 1]) (zgk N) :=
  z1i (s := [(1, .box (.pair (.sl (.pair .str (.pair (.int .i64) (.pair (.int .i64) (.pair (.sl (.pair (.int .i64) (.pair .str .unit))) .unit))))) (.pair (.int .i64) .unit))), (1, .v (.int .i64)), (0, .box (.pair .str (.pair (.int .i64) (.pair (.int .i64) (.pair (.sl (.pair (.int .i64) (.pair .str .unit))) .unit))))), (11, .v (.sl (.pair .str (.pair (.int .i64) (.pair (.int .i64) (.pair (.sl (.pair (.int .i64) (.pair .str .unit))) .unit)))))), (0, .v (.int .i64)), (0, .v (.int .i64))]) (m := 24) (g := zgo N) [3, 4, 1, 18, 17, 16] (zo hb N (zpt N) z4q z1q TabOk.nil [0, 1, 0, 0, 1, 1, 0, 0, 1, 0, 1, 1] _ rfl) (fun x K => by kernel_rfl)

def zap (N : Nat) (s : ((List ((List UInt8) × (Int × (Int × ((List (Int × ((List UInt8) × Unit))) × Unit))))) × (Int × Unit))) (x16 : (List ((List UInt8) × (Int × (Int × ((List (Int × ((List UInt8) × Unit))) × Unit)))))) (x17 : Int) (x18 : Int) (rec : Int -> Option Bool) (k0 : Bool -> Option Bool) (k1 : Option Bool) : Option Bool :=
 cond (decide (x18 < x17))
 (cond (Go.Lift.inR x18 (List.length x16))
 (zaq N s x18 (List.getD x16 (Int.toNat x18) (([] : List UInt8), ((0 : Int), ((0 : Int), (([] : List (Int × ((List UInt8) × Unit))), ()))))) x16 x17 x18
 (fun x41 => cond x41
 (k0 false)
 (rec (Go.IntKind.wrap Go.IntKind.i64 (x18 + (1 : Int))))))
 (none))
 (k1)

def zar (N : Nat) (s : ((List ((List UInt8) × (Int × (Int × ((List (Int × ((List UInt8) × Unit))) × Unit))))) × (Int × Unit))) (x16 : (List ((List UInt8) × (Int × (Int × ((List (Int × ((List UInt8) × Unit))) × Unit)))))) (x17 : Int) (x18 : Int) (k0 : Bool -> Option Bool) (k1 : Option Bool) : Option Bool :=
 iter (fun (v : Int) r => zap N s x16 x17 v (fun x18 => (r x18)) k0 k1) N x18

def zgp (N : Nat) (i : (((List ((List UInt8) × (Int × (Int × ((List (Int × ((List UInt8) × Unit))) × Unit))))) × (Int × Unit)) × (List ((List UInt8) × (Int × (Int × ((List (Int × ((List UInt8) × Unit))) × Unit))))) × Int)) (v : Int) (r : Int -> Option Bool) (K : Ex -> List A -> Option Bool) : Option Bool :=
 zap N i.1 i.2.1 i.2.2 v (fun x18 => (r x18)) (fun a0 => (K .ret (mkS [(2, .v .bool)] 40 (a0, ())))) (K (.exit 0) (mkS [] 43 ()))

def zgl (N : Nat) : Hd Bool := fun st K => (unS [(1, .box (.pair (.sl (.pair .str (.pair (.int .i64) (.pair (.int .i64) (.pair (.sl (.pair (.int .i64) (.pair .str .unit))) .unit))))) (.pair (.int .i64) .unit))), (14, .v (.sl (.pair .str (.pair (.int .i64) (.pair (.int .i64) (.pair (.sl (.pair (.int .i64) (.pair .str .unit))) .unit)))))), (0, .v (.int .i64)), (0, .v (.int .i64))] 24 (restr [18, 17, 16, 1] 0 st)).bind fun x => iter (fun v r => zgp N ((fun x => (x.1, x.2.1, x.2.2.1)) x) v r K) N ((fun x => x.2.2.2.1) x)

def zpu (N : Nat) : Tab Bool := [([0, 1, 0, 0, 1, 1, 0, 0, 1, 0, 1, 1], zgk N)]

theorem zni {N : Nat} {c : Ctx} (hb : Base Go.Proofs.Try.prog (z3k N) c) : z1b Go.Proofs.Try.prog c (zp z1q [0, 1, 0, 1, 1]) (zgl N) :=
  z9d (s := [(1, .box (.pair (.sl (.pair .str (.pair (.int .i64) (.pair (.int .i64) (.pair (.sl (.pair (.int .i64) (.pair .str .unit))) .unit))))) (.pair (.int .i64) .unit))), (14, .v (.sl (.pair .str (.pair (.int .i64) (.pair (.int .i64) (.pair (.sl (.pair (.int .i64) (.pair .str .unit))) .unit)))))), (0, .v (.int .i64)), (0, .v (.int .i64))]) (m := 24) (zgp N) [18, 17, 16, 1] N (fun x => (x.1, x.2.1, x.2.2.1)) (fun x => x.2.2.2.1) (fun i v => (i.1, i.2.1, i.2.2, v, ())) (fun _ => rfl) (zo hb N (zpu N) z4q z1q (TabOk.cons (znh hb) TabOk.nil) [0, 0, 1, 0, 1, 1] _ rfl) (fun i v r K => by kernel_rfl)

def z3h (N : Nat) (s : ((List ((List UInt8) × (Int × (Int × ((List (Int × ((List UInt8) × Unit))) × Unit))))) × (Int × Unit))) : Option Bool :=
 zat N s
 (fun x2 => some x2)
 (zar N s s.1 (((List.length s.1) : Nat) : Int) (0 : Int)
 (fun x21 => some x21)
 (some true))

def zj9 (N : Nat) : Tab Bool := [([0, 1], zgn N), ([0, 1, 0, 1, 1], zgl N)]

theorem zlj (N : Nat) (x : z2g [(0, .v (.pair (.sl (.pair .str (.pair (.int .i64) (.pair (.int .i64) (.pair (.sl (.pair (.int .i64) (.pair .str .unit))) .unit))))) (.pair (.int .i64) .unit)))]) : zc7 (z3k N) N (zj9 N) z4q Go.Proofs.Try.f13 (mkS [(0, .v (.pair (.sl (.pair .str (.pair (.int .i64) (.pair (.int .i64) (.pair (.sl (.pair (.int .i64) (.pair .str .unit))) .unit))))) (.pair (.int .i64) .unit)))] 0 x) (z6g (.v .bool) 1) = z3h N x.1 := by kernel_rfl

def z47 (N : Nat) : List A -> Res := z1z [(0, .v (.pair (.sl (.pair .str (.pair (.int .i64) (.pair (.int .i64) (.pair (.sl (.pair (.int .i64) (.pair .str .unit))) .unit))))) (.pair (.int .i64) .unit)))] (fun x => z3h N x.1) (z51 (.v .bool) 1)

theorem z55 (N : Nat) : Contract Go.Proofs.Try.prog zm 13 (z47 N) :=
  Contract.of (E := z3k N) (H := zj9 N) (L := z4q) (N := N) (body := z1q) (K := (z6g (.v .bool) 1)) (znl N) Go.Proofs.Try.func13 (by kernel_rfl) (by decide) (fun _ hb => (TabOk.cons (znk hb) (TabOk.cons (zni hb) TabOk.nil))) (fun x y h => by rw [zlj]; exact h) (z20 (s := (.v .bool)) (m := 1))

def z90 : Code := (Go.Proofs.Try.f49.body).getD .skip

def zfr : List (List Nat × List Nat) := [([0], [1]), ([0, 1], [1, 3]), ([0, 0, 1, 1], [13, 3, 1]), ([0, 0, 1, 0, 1, 1], [14, 3, 1, 13]), ([1, 0, 1, 0, 1, 1], []), ([0, 1, 1, 0, 1, 0, 1, 1], [27, 3, 1, 13]), ([1, 1, 1, 0, 1, 0, 1, 1], []), ([0, 1, 1, 1, 1, 0, 1, 0, 1, 1], [41, 3, 1, 13]), ([1, 1, 1, 1, 1, 0, 1, 0, 1, 1], []), ([0, 1, 1, 1, 1, 1, 1, 0, 1, 0, 1, 1], [54, 1]), ([1, 1, 1, 1, 1, 1, 1, 0, 1, 0, 1, 1], []), ([0, 0, 1, 1, 1, 1, 1, 1, 1, 0, 1, 0, 1, 1], [2]), ([1, 0, 1, 1, 1, 1, 1, 1, 1, 0, 1, 0, 1, 1], [2]), ([0, 0, 1, 1, 1, 1, 1, 0, 1, 0, 1, 1], [2]), ([1, 0, 1, 1, 1, 1, 1, 0, 1, 0, 1, 1], [2]), ([0, 0, 1, 1, 1, 0, 1, 0, 1, 1], [2]), ([1, 0, 1, 1, 1, 0, 1, 0, 1, 1], [2]), ([0, 0, 1, 0, 1, 0, 1, 1], [2]), ([1, 0, 1, 0, 1, 0, 1, 1], [2]), ([1, 0, 1, 1], []), ([0, 1, 1, 1], [2]), ([1, 1, 1, 1], [2])]

def zav (N : Nat) : Env := z45 tys zm [(40, zbe N), (30, z54 N)] [] [] [] false [] []

theorem zq1 (N : Nat) : EnvOk Go.Proofs.Try.prog (zav N) := z16 mixed z28 (FnsOk.cons (zdf N) (FnsOk.cons (z8x N) (FnsOk.nil))) (ItsOk.nil)

def zco (N : Nat) (e : (Int × ((List UInt8) × (Int × (Int × ((List UInt8) × Unit)))))) (k0 : Bool -> Option Bool) : Option Bool :=
 (z6p N e.2.1).bind fun y =>
 cond y
 ((z2j N e.2.2.1 (1 : Int)).bind fun y1 =>
 k0 y1)
 (k0 false)

def zjc (N : Nat) (x : z2g [(1, .box (.pair (.int .i64) (.pair .str (.pair (.int .i64) (.pair (.int .i64) (.pair .str .unit))))))]) (K : Ex -> List A -> Option Bool) : Option Bool :=
 zco N x.1 (fun a1 => (K .normal (mkS [(1, .box (.pair (.int .i64) (.pair .str (.pair (.int .i64) (.pair (.int .i64) (.pair .str .unit)))))), (1, .v .bool)] 70 (x.1, a1, ()))))

def zjb (N : Nat) : Hd Bool := fun st K => (unS [(1, .box (.pair (.int .i64) (.pair .str (.pair (.int .i64) (.pair (.int .i64) (.pair .str .unit))))))] 72 (restr [1] 0 st)).bind fun x => zjc N x K

def zrc (N : Nat) : Tab Bool := []

theorem zq0 {N : Nat} {c : Ctx} (hb : Base Go.Proofs.Try.prog (zav N) c) : z1b Go.Proofs.Try.prog c (zp z90 [0, 1]) (zjb N) :=
  z1i (s := [(1, .box (.pair (.int .i64) (.pair .str (.pair (.int .i64) (.pair (.int .i64) (.pair .str .unit))))))]) (m := 72) (g := zjc N) [1] (zo hb N (zrc N) zfr z90 TabOk.nil [0, 1] _ rfl) (fun x K => by kernel_rfl)

def z9p (N : Nat) (e : (Int × ((List UInt8) × (Int × (Int × ((List UInt8) × Unit)))))) : Option Bool :=
 zco N e
 (fun ofTenant => cond (e.1 == (1 : Int))
 (cond ofTenant
 ((z2j N e.2.2.2.1 (0 : Int)).bind fun y =>
 cond y
 (some (e.2.2.2.2.1 == ([] : List UInt8)))
 (some false))
 (some false))
 (cond (e.1 == (2 : Int))
 (cond ofTenant
 (cond (e.2.2.2.1 == (0 : Int))
 (some ((((List.length e.2.2.2.2.1) : Nat) : Int) == (32 : Int)))
 (some false))
 (some false))
 (cond (e.1 == (3 : Int))
 (cond ofTenant
 (cond (e.2.2.2.1 == (0 : Int))
 (some (e.2.2.2.2.1 == ([] : List UInt8)))
 (some false))
 (some false))
 (cond (e.1 == (4 : Int))
 ((z2j N e.2.2.1 (0 : Int)).bind fun y1 =>
 cond y1
 (cond (e.2.1 == ([] : List UInt8))
 (cond (e.2.2.2.1 == (0 : Int))
 (some (e.2.2.2.2.1 == ([] : List UInt8)))
 (some false))
 (some false))
 (some false))
 (some false)))))

def zlo (N : Nat) : Tab Bool := [([0, 1], zjb N)]

theorem zno (N : Nat) (x : z2g [(0, .v (.pair (.int .i64) (.pair .str (.pair (.int .i64) (.pair (.int .i64) (.pair .str .unit))))))]) : zc7 (zav N) N (zlo N) zfr Go.Proofs.Try.f49 (mkS [(0, .v (.pair (.int .i64) (.pair .str (.pair (.int .i64) (.pair (.int .i64) (.pair .str .unit))))))] 0 x) (z6g (.v .bool) 1) = z9p N x.1 := by kernel_rfl

def zpz (N : Nat) : List A -> Res := z1z [(0, .v (.pair (.int .i64) (.pair .str (.pair (.int .i64) (.pair (.int .i64) (.pair .str .unit))))))] (fun x => z9p N x.1) (z51 (.v .bool) 1)

theorem zrd (N : Nat) : Contract Go.Proofs.Try.prog zm 49 (zpz N) :=
  Contract.of (E := zav N) (H := zlo N) (L := zfr) (N := N) (body := z90) (K := (z6g (.v .bool) 1)) (zq1 N) Go.Proofs.Try.func49 (by kernel_rfl) (by decide) (fun _ hb => (TabOk.cons (zq0 hb) TabOk.nil)) (fun x y h => by rw [zno]; exact h) (z20 (s := (.v .bool)) (m := 1))

def zls : Code := (Go.Proofs.Try.f35.body).getD .skip

def zje : List (List Nat × List Nat) := [([0], [2, 1]), ([0, 1], [3]), ([1, 1], [3])]

def zcp (N : Nat) : Env := z45 tys zm [] [] [] [] false [] []

theorem znr (N : Nat) : EnvOk Go.Proofs.Try.prog (zcp N) := z16 mixed z28 (FnsOk.nil) (ItsOk.nil)

def zop (N : Nat) (t : ((List UInt8) × (Int × (Int × ((List (Int × ((List UInt8) × Unit))) × Unit))))) (x1 : (List UInt8)) : Option Bool :=
 some (t.1 == x1)

def zjd (N : Nat) : Tab Bool := []

theorem zlr (N : Nat) (x : z2g [(0, .v (.pair .str (.pair (.int .i64) (.pair (.int .i64) (.pair (.sl (.pair (.int .i64) (.pair .str .unit))) .unit))))), (0, .v (.ptr .str))]) : zc7 (zcp N) N (zjd N) zje Go.Proofs.Try.f35 (mkS [(0, .v (.pair .str (.pair (.int .i64) (.pair (.int .i64) (.pair (.sl (.pair (.int .i64) (.pair .str .unit))) .unit))))), (0, .v (.ptr .str))] 0 x) (z6g (.v .bool) 2) = zop N x.1 x.2.1 := by kernel_rfl

def z91 (N : Nat) : List A -> Res := z1z [(0, .v (.pair .str (.pair (.int .i64) (.pair (.int .i64) (.pair (.sl (.pair (.int .i64) (.pair .str .unit))) .unit))))), (0, .v (.ptr .str))] (fun x => zop N x.1 x.2.1) (z51 (.v .bool) 2)

theorem zgt (N : Nat) : Contract Go.Proofs.Try.prog zm 35 (z91 N) :=
  Contract.of (E := zcp N) (H := zjd N) (L := zje) (N := N) (body := zls) (K := (z6g (.v .bool) 2)) (znr N) Go.Proofs.Try.func35 (by kernel_rfl) (by decide) (fun _ hb => TabOk.nil) (fun x y h => by rw [zlr]; exact h) (z20 (s := (.v .bool)) (m := 2))

def z72 : Code := (Go.Proofs.Try.f34.body).getD .skip

def zbm : List (List Nat × List Nat) := [([0], [0, 1]), ([0, 0, 1], [8, 7, 1, 0]), ([0, 1, 0, 1], [8, 7, 1, 0]), ([0, 0, 0, 1, 0, 1], [9, 8, 1, 0, 7]), ([0, 1, 0, 0, 1, 0, 1], [8, 1, 0, 7]), ([1, 0, 1, 0, 0, 1, 0, 1], []), ([0, 0, 0, 1, 1, 0, 0, 1, 0, 1], [1, 0, 5, 8, 7]), ([0, 1, 0, 0, 1, 1, 0, 0, 1, 0, 1], [16, 5, 8, 7, 1, 0]), ([1, 1, 0, 0, 1, 1, 0, 0, 1, 0, 1], [8, 7, 1, 0]), ([0, 0, 1, 1, 0, 0, 1, 1, 0, 0, 1, 0, 1], [4]), ([1, 0, 1, 1, 0, 0, 1, 1, 0, 0, 1, 0, 1], [4]), ([0, 1, 1, 0, 0, 1, 0, 1], [8, 7, 1, 0]), ([1, 1, 1, 0, 0, 1, 0, 1], [8, 7, 1, 0]), ([1, 0, 1], []), ([0, 1, 1], [4]), ([1, 1, 1], [4])]

def z7h (N : Nat) : Env := z45 tys zm [(35, z91 N)] [] [] [] false [] []

theorem zmt (N : Nat) : EnvOk Go.Proofs.Try.prog (z7h N) := z16 mixed z28 (FnsOk.cons (zgt N) (FnsOk.nil)) (ItsOk.nil)

def z9f (N : Nat) (s : (List ((List UInt8) × (Int × (Int × ((List (Int × ((List UInt8) × Unit))) × Unit)))))) (f : ((List UInt8) × Unit)) (x7 : Int) (x8 : Int) (rec : Int -> Option Int) (k0 : Int -> Option Int) (k1 : Option Int) : Option Int :=
 cond (decide (x8 < x7))
 (cond (Go.Lift.inR x8 (List.length s))
 (cond ((List.getD s (Int.toNat x8) (([] : List UInt8), ((0 : Int), ((0 : Int), (([] : List (Int × ((List UInt8) × Unit))), ()))))).1 == f.1)
 (k0 x8)
 (rec (Go.IntKind.wrap Go.IntKind.i64 (x8 + (1 : Int)))))
 (none))
 (k1)

def zfd (N : Nat) (s : (List ((List UInt8) × (Int × (Int × ((List (Int × ((List UInt8) × Unit))) × Unit)))))) (f : ((List UInt8) × Unit)) (x7 : Int) (x8 : Int) (k0 : Int -> Option Int) (k1 : Option Int) : Option Int :=
 iter (fun (v : Int) r => z9f N s f x7 v (fun x8 => (r x8)) k0 k1) N x8

def zff (N : Nat) (i : ((List ((List UInt8) × (Int × (Int × ((List (Int × ((List UInt8) × Unit))) × Unit))))) × ((List UInt8) × Unit) × Int)) (v : Int) (r : Int -> Option Int) (K : Ex -> List A -> Option Int) : Option Int :=
 z9f N i.1 i.2.1 i.2.2 v (fun x8 => (r x8)) (fun a0 => (K .ret (mkS [(4, .v (.int .i64))] 14 (a0, ())))) (K (.exit 0) (mkS [] 19 ()))

def zfe (N : Nat) : Hd Int := fun st K => (unS [(0, .v (.sl (.pair .str (.pair (.int .i64) (.pair (.int .i64) (.pair (.sl (.pair (.int .i64) (.pair .str .unit))) .unit)))))), (0, .v (.fn 35 (.pair (.ptr .str) .unit))), (5, .v (.int .i64)), (0, .v (.int .i64))] 10 (restr [8, 7, 1, 0] 0 st)).bind fun x => iter (fun v r => zff N ((fun x => (x.1, x.2.1, x.2.2.1)) x) v r K) N ((fun x => x.2.2.2.1) x)

def zoa (N : Nat) : Tab Int := []

theorem zms {N : Nat} {c : Ctx} (hb : Base Go.Proofs.Try.prog (z7h N) c) : z1b Go.Proofs.Try.prog c (zp z72 [0, 1, 0, 1]) (zfe N) :=
  z9d (s := [(0, .v (.sl (.pair .str (.pair (.int .i64) (.pair (.int .i64) (.pair (.sl (.pair (.int .i64) (.pair .str .unit))) .unit)))))), (0, .v (.fn 35 (.pair (.ptr .str) .unit))), (5, .v (.int .i64)), (0, .v (.int .i64))]) (m := 10) (zff N) [8, 7, 1, 0] N (fun x => (x.1, x.2.1, x.2.2.1)) (fun x => x.2.2.2.1) (fun i v => (i.1, i.2.1, i.2.2, v, ())) (fun _ => rfl) (zo hb N (zoa N) zbm z72 TabOk.nil [0, 0, 1, 0, 1] _ rfl) (fun i v r K => by kernel_rfl)

def z8e (N : Nat) (s : (List ((List UInt8) × (Int × (Int × ((List (Int × ((List UInt8) × Unit))) × Unit)))))) (f : ((List UInt8) × Unit)) : Option Int :=
 zfd N s f (((List.length s) : Nat) : Int) (0 : Int)
 (fun x4 => some x4)
 (some (-(1 : Int)))

def zhe (N : Nat) : Tab Int := [([0, 1, 0, 1], zfe N)]

theorem zkk (N : Nat) (x : z2g [(0, .v (.sl (.pair .str (.pair (.int .i64) (.pair (.int .i64) (.pair (.sl (.pair (.int .i64) (.pair .str .unit))) .unit)))))), (0, .v (.fn 35 (.pair (.ptr .str) .unit)))]) : zc7 (z7h N) N (zhe N) zbm Go.Proofs.Try.f34 (mkS [(0, .v (.sl (.pair .str (.pair (.int .i64) (.pair (.int .i64) (.pair (.sl (.pair (.int .i64) (.pair .str .unit))) .unit)))))), (0, .v (.fn 35 (.pair (.ptr .str) .unit)))] 0 x) (z6g (.v (.int .i64)) 2) = z8e N x.1 x.2.1 := by kernel_rfl

def zdi (N : Nat) : List A -> Res := z1z [(0, .v (.sl (.pair .str (.pair (.int .i64) (.pair (.int .i64) (.pair (.sl (.pair (.int .i64) (.pair .str .unit))) .unit)))))), (0, .v (.fn 35 (.pair (.ptr .str) .unit)))] (fun x => z8e N x.1 x.2.1) (z51 (.v (.int .i64)) 2)

theorem zoc (N : Nat) : Contract Go.Proofs.Try.prog zm 34 (zdi N) :=
  Contract.of (E := z7h N) (H := zhe N) (L := zbm) (N := N) (body := z72) (K := (z6g (.v (.int .i64)) 2)) (zmt N) Go.Proofs.Try.func34 (by kernel_rfl) (by decide) (fun _ hb => (TabOk.cons (zms hb) TabOk.nil)) (fun x y h => by rw [zkk]; exact h) (z20 (s := (.v (.int .i64))) (m := 2))

def znq : Code := (Go.Proofs.Try.f16.body).getD .skip

def zlq : List (List Nat × List Nat) := [([0], [2, 3]), ([0, 1], [4]), ([1, 1], [4])]

def zfs (N : Nat) : Env := z45 tys zm [(34, zdi N), (35, z91 N)] [] [] [] false [] []

theorem zq2 (N : Nat) : EnvOk Go.Proofs.Try.prog (zfs N) := z16 mixed z28 (FnsOk.cons (zoc N) (FnsOk.cons (zgt N) (FnsOk.nil))) (ItsOk.nil)

def z3m (N : Nat) (s : ((List ((List UInt8) × (Int × (Int × ((List (Int × ((List UInt8) × Unit))) × Unit))))) × (Int × Unit))) (tenant : (List UInt8)) : Option Int :=
 (z8e N s.1 (tenant, ())).bind fun y =>
 some y

def zlp (N : Nat) : Tab Int := []

theorem znp (N : Nat) (x : z2g [(0, .v (.pair (.sl (.pair .str (.pair (.int .i64) (.pair (.int .i64) (.pair (.sl (.pair (.int .i64) (.pair .str .unit))) .unit))))) (.pair (.int .i64) .unit))), (0, .v .str)]) : zc7 (zfs N) N (zlp N) zlq Go.Proofs.Try.f16 (mkS [(0, .v (.pair (.sl (.pair .str (.pair (.int .i64) (.pair (.int .i64) (.pair (.sl (.pair (.int .i64) (.pair .str .unit))) .unit))))) (.pair (.int .i64) .unit))), (0, .v .str)] 0 x) (z6g (.v (.int .i64)) 2) = z3m N x.1 x.2.1 := by kernel_rfl

def z57 (N : Nat) : List A -> Res := z1z [(0, .v (.pair (.sl (.pair .str (.pair (.int .i64) (.pair (.int .i64) (.pair (.sl (.pair (.int .i64) (.pair .str .unit))) .unit))))) (.pair (.int .i64) .unit))), (0, .v .str)] (fun x => z3m N x.1 x.2.1) (z51 (.v (.int .i64)) 2)

theorem z6k (N : Nat) : Contract Go.Proofs.Try.prog zm 16 (z57 N) :=
  Contract.of (E := zfs N) (H := zlp N) (L := zlq) (N := N) (body := znq) (K := (z6g (.v (.int .i64)) 2)) (zq2 N) Go.Proofs.Try.func16 (by kernel_rfl) (by decide) (fun _ hb => TabOk.nil) (fun x y h => by rw [znp]; exact h) (z20 (s := (.v (.int .i64))) (m := 2))

def zk5 : Code := (Go.Proofs.Try.f52.body).getD .skip

def zgj : List (List Nat × List Nat) := [([0], [2, 1]), ([0, 1], [3]), ([1, 1], [3])]

def zao (N : Nat) : Env := z45 tys zm [] [] [] [] false [] []

theorem zlh (N : Nat) : EnvOk Go.Proofs.Try.prog (zao N) := z16 mixed z28 (FnsOk.nil) (ItsOk.nil)

def zli (N : Nat) (k : (Int × ((List UInt8) × Unit))) (x1 : Int) : Option Bool :=
 some (k.1 == x1)

def zgi (N : Nat) : Tab Bool := []

theorem zk4 (N : Nat) (x : z2g [(0, .v (.pair (.int .i64) (.pair .str .unit))), (0, .v (.ptr (.int .i64)))]) : zc7 (zao N) N (zgi N) zgj Go.Proofs.Try.f52 (mkS [(0, .v (.pair (.int .i64) (.pair .str .unit))), (0, .v (.ptr (.int .i64)))] 0 x) (z6g (.v .bool) 2) = zli N x.1 x.2.1 := by kernel_rfl

def z81 (N : Nat) : List A -> Res := z1z [(0, .v (.pair (.int .i64) (.pair .str .unit))), (0, .v (.ptr (.int .i64)))] (fun x => zli N x.1 x.2.1) (z51 (.v .bool) 2)

theorem zep (N : Nat) : Contract Go.Proofs.Try.prog zm 52 (z81 N) :=
  Contract.of (E := zao N) (H := zgi N) (L := zgj) (N := N) (body := zk5) (K := (z6g (.v .bool) 2)) (zlh N) Go.Proofs.Try.func52 (by kernel_rfl) (by decide) (fun _ hb => TabOk.nil) (fun x y h => by rw [zk4]; exact h) (z20 (s := (.v .bool)) (m := 2))

def zbn : Code := (Go.Proofs.Try.f51.body).getD .skip

def zis : List (List Nat × List Nat) := [([0], [0, 1]), ([0, 0, 1], [8, 7, 1, 0]), ([0, 1, 0, 1], [8, 7, 1, 0]), ([0, 0, 0, 1, 0, 1], [9, 8, 1, 0, 7]), ([0, 1, 0, 0, 1, 0, 1], [8, 1, 0, 7]), ([1, 0, 1, 0, 0, 1, 0, 1], []), ([0, 0, 0, 1, 1, 0, 0, 1, 0, 1], [1, 0, 5, 8, 7]), ([0, 1, 0, 0, 1, 1, 0, 0, 1, 0, 1], [16, 5, 8, 7, 1, 0]), ([1, 1, 0, 0, 1, 1, 0, 0, 1, 0, 1], [8, 7, 1, 0]), ([0, 0, 1, 1, 0, 0, 1, 1, 0, 0, 1, 0, 1], [4]), ([1, 0, 1, 1, 0, 0, 1, 1, 0, 0, 1, 0, 1], [4]), ([0, 1, 1, 0, 0, 1, 0, 1], [8, 7, 1, 0]), ([1, 1, 1, 0, 0, 1, 0, 1], [8, 7, 1, 0]), ([1, 0, 1], []), ([0, 1, 1], [4]), ([1, 1, 1], [4])]

def ze3 (N : Nat) : Env := z45 tys zm [(52, z81 N)] [] [] [] false [] []

theorem zry (N : Nat) : EnvOk Go.Proofs.Try.prog (ze3 N) := z16 mixed z28 (FnsOk.cons (zep N) (FnsOk.nil)) (ItsOk.nil)

def zg1 (N : Nat) (s : (List (Int × ((List UInt8) × Unit)))) (f : (Int × Unit)) (x7 : Int) (x8 : Int) (rec : Int -> Option Int) (k0 : Int -> Option Int) (k1 : Option Int) : Option Int :=
 cond (decide (x8 < x7))
 (cond (Go.Lift.inR x8 (List.length s))
 (cond ((List.getD s (Int.toNat x8) ((0 : Int), (([] : List UInt8), ()))).1 == f.1)
 (k0 x8)
 (rec (Go.IntKind.wrap Go.IntKind.i64 (x8 + (1 : Int)))))
 (none))
 (k1)

def zmu (N : Nat) (s : (List (Int × ((List UInt8) × Unit)))) (f : (Int × Unit)) (x7 : Int) (x8 : Int) (k0 : Int -> Option Int) (k1 : Option Int) : Option Int :=
 iter (fun (v : Int) r => zg1 N s f x7 v (fun x8 => (r x8)) k0 k1) N x8

def zmw (N : Nat) (i : ((List (Int × ((List UInt8) × Unit))) × (Int × Unit) × Int)) (v : Int) (r : Int -> Option Int) (K : Ex -> List A -> Option Int) : Option Int :=
 zg1 N i.1 i.2.1 i.2.2 v (fun x8 => (r x8)) (fun a0 => (K .ret (mkS [(4, .v (.int .i64))] 14 (a0, ())))) (K (.exit 0) (mkS [] 19 ()))

def zmv (N : Nat) : Hd Int := fun st K => (unS [(0, .v (.sl (.pair (.int .i64) (.pair .str .unit)))), (0, .v (.fn 52 (.pair (.ptr (.int .i64)) .unit))), (5, .v (.int .i64)), (0, .v (.int .i64))] 10 (restr [8, 7, 1, 0] 0 st)).bind fun x => iter (fun v r => zmw N ((fun x => (x.1, x.2.1, x.2.2.1)) x) v r K) N ((fun x => x.2.2.2.1) x)

def ztj (N : Nat) : Tab Int := []

theorem zrx {N : Nat} {c : Ctx} (hb : Base Go.Proofs.Try.prog (ze3 N) c) : z1b Go.Proofs.Try.prog c (zp zbn [0, 1, 0, 1]) (zmv N) :=
  z9d (s := [(0, .v (.sl (.pair (.int .i64) (.pair .str .unit)))), (0, .v (.fn 52 (.pair (.ptr (.int .i64)) .unit))), (5, .v (.int .i64)), (0, .v (.int .i64))]) (m := 10) (zmw N) [8, 7, 1, 0] N (fun x => (x.1, x.2.1, x.2.2.1)) (fun x => x.2.2.2.1) (fun i v => (i.1, i.2.1, i.2.2, v, ())) (fun _ => rfl) (zo hb N (ztj N) zis zbn TabOk.nil [0, 0, 1, 0, 1] _ rfl) (fun i v r K => by kernel_rfl)

def zhf (N : Nat) (s : (List (Int × ((List UInt8) × Unit)))) (f : (Int × Unit)) : Option Int :=
 zmu N s f (((List.length s) : Nat) : Int) (0 : Int)
 (fun x4 => some x4)
 (some (-(1 : Int)))

def zp5 (N : Nat) : Tab Int := [([0, 1, 0, 1], zmv N)]

theorem zqn (N : Nat) (x : z2g [(0, .v (.sl (.pair (.int .i64) (.pair .str .unit)))), (0, .v (.fn 52 (.pair (.ptr (.int .i64)) .unit)))]) : zc7 (ze3 N) N (zp5 N) zis Go.Proofs.Try.f51 (mkS [(0, .v (.sl (.pair (.int .i64) (.pair .str .unit)))), (0, .v (.fn 52 (.pair (.ptr (.int .i64)) .unit)))] 0 x) (z6g (.v (.int .i64)) 2) = zhf N x.1 x.2.1 := by kernel_rfl

def zjv (N : Nat) : List A -> Res := z1z [(0, .v (.sl (.pair (.int .i64) (.pair .str .unit)))), (0, .v (.fn 52 (.pair (.ptr (.int .i64)) .unit)))] (fun x => zhf N x.1 x.2.1) (z51 (.v (.int .i64)) 2)

theorem ztl (N : Nat) : Contract Go.Proofs.Try.prog zm 51 (zjv N) :=
  Contract.of (E := ze3 N) (H := zp5 N) (L := zis) (N := N) (body := zbn) (K := (z6g (.v (.int .i64)) 2)) (zry N) Go.Proofs.Try.func51 (by kernel_rfl) (by decide) (fun _ hb => (TabOk.cons (zrx hb) TabOk.nil)) (fun x y h => by rw [zqn]; exact h) (z20 (s := (.v (.int .i64))) (m := 2))

def zlg : Code := (Go.Proofs.Try.f36.body).getD .skip

def zj8 : List (List Nat × List Nat) := [([0], [0, 3]), ([0, 1], [4]), ([1, 1], [4])]

def zcm (N : Nat) : Env := z45 tys zm [(51, zjv N), (52, z81 N)] [] [] [] false [] []

theorem zng (N : Nat) : EnvOk Go.Proofs.Try.prog (zcm N) := z16 mixed z28 (FnsOk.cons (ztl N) (FnsOk.cons (zep N) (FnsOk.nil))) (ItsOk.nil)

def z4p (N : Nat) (l : (List (Int × ((List UInt8) × Unit)))) (num : Int) : Option Int :=
 (zhf N l (num, ())).bind fun y =>
 some y

def zj7 (N : Nat) : Tab Int := []

theorem zlf (N : Nat) (x : z2g [(0, .v (.sl (.pair (.int .i64) (.pair .str .unit)))), (0, .v (.int .i64))]) : zc7 (zcm N) N (zj7 N) zj8 Go.Proofs.Try.f36 (mkS [(0, .v (.sl (.pair (.int .i64) (.pair .str .unit)))), (0, .v (.int .i64))] 0 x) (z6g (.v (.int .i64)) 2) = z4p N x.1 x.2.1 := by kernel_rfl

def zeo (N : Nat) : List A -> Res := z1z [(0, .v (.sl (.pair (.int .i64) (.pair .str .unit)))), (0, .v (.int .i64))] (fun x => z4p N x.1 x.2.1) (z51 (.v (.int .i64)) 2)

theorem zgh (N : Nat) : Contract Go.Proofs.Try.prog zm 36 (zeo N) :=
  Contract.of (E := zcm N) (H := zj7 N) (L := zj8) (N := N) (body := zlg) (K := (z6g (.v (.int .i64)) 2)) (zng N) Go.Proofs.Try.func36 (by kernel_rfl) (by decide) (fun _ hb => TabOk.nil) (fun x y h => by rw [zlf]; exact h) (z20 (s := (.v (.int .i64))) (m := 2))

def zpy : Code := (Go.Proofs.Try.f18.body).getD .skip

def zoo : List (List Nat × List Nat) := [([0], [3, 1, 2]), ([0, 1], [8, 3, 2]), ([0, 0, 1, 1], [15, 3, 8, 2]), ([1, 0, 1, 1], [3, 8, 2]), ([0, 0, 1, 0, 1, 1], [6, 7]), ([1, 0, 1, 0, 1, 1], [6, 7]), ([0, 1, 1, 1], [9, 2]), ([0, 1, 1, 1, 1], [10, 9]), ([0, 0, 1, 1, 1, 1, 1], [26, 9, 10]), ([1, 0, 1, 1, 1, 1, 1], [9, 10]), ([0, 0, 1, 0, 1, 1, 1, 1, 1], [6, 7]), ([1, 0, 1, 0, 1, 1, 1, 1, 1], [6, 7]), ([0, 1, 1, 1, 1, 1, 1], [6, 7]), ([1, 1, 1, 1, 1, 1, 1], [6, 7])]

def zhw (N : Nat) : Env := z45 tys zm [(36, zeo N), (16, z57 N)] [] [] [] false [] []

theorem zrb (N : Nat) : EnvOk Go.Proofs.Try.prog (zhw N) := z16 mixed z28 (FnsOk.cons (zgh N) (FnsOk.cons (z6k N) (FnsOk.nil))) (ItsOk.nil)

def zau (N : Nat) (s : ((List ((List UInt8) × (Int × (Int × ((List (Int × ((List UInt8) × Unit))) × Unit))))) × (Int × Unit))) (tenant : (List UInt8)) (num : Int) : Option ((List UInt8) × Bool × Unit) :=
 (z3m N s tenant).bind fun y =>
 cond (decide (y < (0 : Int)))
 (some (([] : List UInt8), (false, ())))
 (cond (Go.Lift.inR y (List.length s.1))
 ((z4p N (List.getD s.1 (Int.toNat y) (([] : List UInt8), ((0 : Int), ((0 : Int), (([] : List (Int × ((List UInt8) × Unit))), ()))))).2.2.2.1 num).bind fun y1 =>
 cond (decide (y1 < (0 : Int)))
 (some (([] : List UInt8), (false, ())))
 (cond (Go.Lift.inR y1 (List.length (List.getD s.1 (Int.toNat y) (([] : List UInt8), ((0 : Int), ((0 : Int), (([] : List (Int × ((List UInt8) × Unit))), ()))))).2.2.2.1))
 (some ((List.getD (List.getD s.1 (Int.toNat y) (([] : List UInt8), ((0 : Int), ((0 : Int), (([] : List (Int × ((List UInt8) × Unit))), ()))))).2.2.2.1 (Int.toNat y1) ((0 : Int), (([] : List UInt8), ()))).2.1, (true, ())))
 (none)))
 (none))

def zon (N : Nat) : Tab ((List UInt8) × Bool × Unit) := []

theorem zpx (N : Nat) (x : z2g [(0, .v (.pair (.sl (.pair .str (.pair (.int .i64) (.pair (.int .i64) (.pair (.sl (.pair (.int .i64) (.pair .str .unit))) .unit))))) (.pair (.int .i64) .unit))), (0, .v .str), (0, .v (.int .i64))]) : zc7 (zhw N) N (zon N) zoo Go.Proofs.Try.f18 (mkS [(0, .v (.pair (.sl (.pair .str (.pair (.int .i64) (.pair (.int .i64) (.pair (.sl (.pair (.int .i64) (.pair .str .unit))) .unit))))) (.pair (.int .i64) .unit))), (0, .v .str), (0, .v (.int .i64))] 0 x) (z6g (.tup [.str, .bool]) 3) = zau N x.1 x.2.1 x.2.2.1 := by kernel_rfl

def zja (N : Nat) : List A -> Res := z1z [(0, .v (.pair (.sl (.pair .str (.pair (.int .i64) (.pair (.int .i64) (.pair (.sl (.pair (.int .i64) (.pair .str .unit))) .unit))))) (.pair (.int .i64) .unit))), (0, .v .str), (0, .v (.int .i64))] (fun x => zau N x.1 x.2.1 x.2.2.1) (z51 (.tup [.str, .bool]) 3)

theorem zln (N : Nat) : Contract Go.Proofs.Try.prog zm 18 (zja N) :=
  Contract.of (E := zhw N) (H := zon N) (L := zoo) (N := N) (body := zpy) (K := (z6g (.tup [.str, .bool]) 3)) (zrb N) Go.Proofs.Try.func18 (by kernel_rfl) (by decide) (fun _ hb => TabOk.nil) (fun x y h => by rw [zpx]; exact h) (z20 (s := (.tup [.str, .bool])) (m := 3))

def z3a : Code := (Go.Proofs.Try.f17.body).getD .skip

def z7g : List (List Nat × List Nat) := [([0], [2, 1, 4]), ([0, 1], [6, 2, 4]), ([0, 0, 1, 1], [22, 4, 2, 6]), ([1, 0, 1, 1], [2, 6, 4]), ([0, 0, 1, 0, 1, 1], [4, 5]), ([1, 0, 1, 0, 1, 1], [4, 5]), ([0, 1, 1, 1], [7, 4]), ([0, 1, 1, 1, 1], [4, 5]), ([1, 1, 1, 1, 1], [4, 5])]

def z56 (N : Nat) : Env := z45 tys zm [(16, z57 N)] [(7, (.pair (.int .i64) (.pair .str .unit)))] [] [] false [] []

theorem zlm (N : Nat) : EnvOk Go.Proofs.Try.prog (z56 N) := z16 mixed z28 (FnsOk.cons (z6k N) (FnsOk.nil)) (ItsOk.nil)

def z8y (N : Nat) (s : ((List ((List UInt8) × (Int × (Int × ((List (Int × ((List UInt8) × Unit))) × Unit))))) × (Int × Unit))) (x4 : (Int × ((List UInt8) × Unit))) (at_ : Int) (k0 : Bool -> Option ((Int × ((List UInt8) × Unit)) × Bool × Unit)) : Option ((Int × ((List UInt8) × Unit)) × Bool × Unit) :=
 cond (decide (at_ < (0 : Int)))
 (k0 true)
 (cond (Go.Lift.inR at_ (List.length s.1))
 (k0 ((((List.length (List.getD s.1 (Int.toNat at_) (([] : List UInt8), ((0 : Int), ((0 : Int), (([] : List (Int × ((List UInt8) × Unit))), ()))))).2.2.2.1) : Nat) : Int) == (0 : Int)))
 (none))

def zeu (N : Nat) (x : z2g [(2, .box (.pair (.sl (.pair .str (.pair (.int .i64) (.pair (.int .i64) (.pair (.sl (.pair (.int .i64) (.pair .str .unit))) .unit))))) (.pair (.int .i64) .unit))), (1, .box (.pair (.int .i64) (.pair .str .unit))), (1, .v (.int .i64))]) (K : Ex -> List A -> Option ((Int × ((List UInt8) × Unit)) × Bool × Unit)) : Option ((Int × ((List UInt8) × Unit)) × Bool × Unit) :=
 z8y N x.1 x.2.1 x.2.2.1 (fun a3 => (K .normal (mkS [(2, .box (.pair (.sl (.pair .str (.pair (.int .i64) (.pair (.int .i64) (.pair (.sl (.pair (.int .i64) (.pair .str .unit))) .unit))))) (.pair (.int .i64) .unit))), (1, .box (.pair (.int .i64) (.pair .str .unit))), (1, .v (.int .i64)), (15, .v .bool)] 13 (x.1, x.2.1, x.2.2.1, a3, ()))))

def zes (N : Nat) : Hd ((Int × ((List UInt8) × Unit)) × Bool × Unit) := fun st K => (unS [(2, .box (.pair (.sl (.pair .str (.pair (.int .i64) (.pair (.int .i64) (.pair (.sl (.pair (.int .i64) (.pair .str .unit))) .unit))))) (.pair (.int .i64) .unit))), (1, .box (.pair (.int .i64) (.pair .str .unit))), (1, .v (.int .i64))] 29 (restr [6, 2, 4] 0 st)).bind fun x => zeu N x K

def znm (N : Nat) : Tab ((Int × ((List UInt8) × Unit)) × Bool × Unit) := []

theorem zlk {N : Nat} {c : Ctx} (hb : Base Go.Proofs.Try.prog (z56 N) c) : z1b Go.Proofs.Try.prog c (zp z3a [0, 0, 1, 1]) (zes N) :=
  z1i (s := [(2, .box (.pair (.sl (.pair .str (.pair (.int .i64) (.pair (.int .i64) (.pair (.sl (.pair (.int .i64) (.pair .str .unit))) .unit))))) (.pair (.int .i64) .unit))), (1, .box (.pair (.int .i64) (.pair .str .unit))), (1, .v (.int .i64))]) (m := 29) (g := zeu N) [6, 2, 4] (zo hb N (znm N) z7g z3a TabOk.nil [0, 0, 1, 1] _ rfl) (fun x K => by kernel_rfl)

def z8z (N : Nat) (s : ((List ((List UInt8) × (Int × (Int × ((List (Int × ((List UInt8) × Unit))) × Unit))))) × (Int × Unit))) (x4 : (Int × ((List UInt8) × Unit))) (at_ : Int) (k0 : (Int × ((List UInt8) × Unit)) -> Bool -> Option ((Int × ((List UInt8) × Unit)) × Bool × Unit)) (k1 : Option ((Int × ((List UInt8) × Unit)) × Bool × Unit)) : Option ((Int × ((List UInt8) × Unit)) × Bool × Unit) :=
 z8y N s x4 at_
 (fun x22 => cond x22
 (k0 ((0 : Int), (([] : List UInt8), ())) false)
 (k1))

def zev (N : Nat) (x : z2g [(2, .box (.pair (.sl (.pair .str (.pair (.int .i64) (.pair (.int .i64) (.pair (.sl (.pair (.int .i64) (.pair .str .unit))) .unit))))) (.pair (.int .i64) .unit))), (1, .box (.pair (.int .i64) (.pair .str .unit))), (1, .v (.int .i64))]) (K : Ex -> List A -> Option ((Int × ((List UInt8) × Unit)) × Bool × Unit)) : Option ((Int × ((List UInt8) × Unit)) × Bool × Unit) :=
 z8z N x.1 x.2.1 x.2.2.1 (fun a0 a1 => (K .ret (mkS [(4, .box (.pair (.int .i64) (.pair .str .unit))), (0, .v .bool)] 30 (a0, a1, ())))) (K .normal (mkS [(2, .box (.pair (.sl (.pair .str (.pair (.int .i64) (.pair (.int .i64) (.pair (.sl (.pair (.int .i64) (.pair .str .unit))) .unit))))) (.pair (.int .i64) .unit))), (1, .box (.pair (.int .i64) (.pair .str .unit))), (1, .v (.int .i64))] 29 (x.1, x.2.1, x.2.2.1, ())))

def zet (N : Nat) : Hd ((Int × ((List UInt8) × Unit)) × Bool × Unit) := fun st K => (unS [(2, .box (.pair (.sl (.pair .str (.pair (.int .i64) (.pair (.int .i64) (.pair (.sl (.pair (.int .i64) (.pair .str .unit))) .unit))))) (.pair (.int .i64) .unit))), (1, .box (.pair (.int .i64) (.pair .str .unit))), (1, .v (.int .i64))] 29 (restr [6, 2, 4] 0 st)).bind fun x => zev N x K

def znn (N : Nat) : Tab ((Int × ((List UInt8) × Unit)) × Bool × Unit) := [([0, 0, 1, 1], zes N)]

theorem zll {N : Nat} {c : Ctx} (hb : Base Go.Proofs.Try.prog (z56 N) c) : z1b Go.Proofs.Try.prog c (zp z3a [0, 1, 1]) (zet N) :=
  z1i (s := [(2, .box (.pair (.sl (.pair .str (.pair (.int .i64) (.pair (.int .i64) (.pair (.sl (.pair (.int .i64) (.pair .str .unit))) .unit))))) (.pair (.int .i64) .unit))), (1, .box (.pair (.int .i64) (.pair .str .unit))), (1, .v (.int .i64))]) (m := 29) (g := zev N) [6, 2, 4] (zo hb N (znn N) z7g z3a (TabOk.cons (zlk hb) TabOk.nil) [0, 1, 1] _ rfl) (fun x K => by kernel_rfl)

def z3l (N : Nat) (s : ((List ((List UInt8) × (Int × (Int × ((List (Int × ((List UInt8) × Unit))) × Unit))))) × (Int × Unit))) (tenant : (List UInt8)) : Option ((Int × ((List UInt8) × Unit)) × Bool × Unit) :=
 (z3m N s tenant).bind fun y =>
 z8z N s ((0 : Int), (([] : List UInt8), ())) y
 (fun x4 x5 => some (x4, (x5, ())))
 (cond (Go.Lift.inR y (List.length s.1))
 (cond (Go.Lift.inR (Go.IntKind.wrap Go.IntKind.i64 ((((List.length (List.getD s.1 (Int.toNat y) (([] : List UInt8), ((0 : Int), ((0 : Int), (([] : List (Int × ((List UInt8) × Unit))), ()))))).2.2.2.1) : Nat) : Int) - (1 : Int))) (List.length (List.getD s.1 (Int.toNat y) (([] : List UInt8), ((0 : Int), ((0 : Int), (([] : List (Int × ((List UInt8) × Unit))), ()))))).2.2.2.1))
 (some ((List.getD (List.getD s.1 (Int.toNat y) (([] : List UInt8), ((0 : Int), ((0 : Int), (([] : List (Int × ((List UInt8) × Unit))), ()))))).2.2.2.1 (Int.toNat (Go.IntKind.wrap Go.IntKind.i64 ((((List.length (List.getD s.1 (Int.toNat y) (([] : List UInt8), ((0 : Int), ((0 : Int), (([] : List (Int × ((List UInt8) × Unit))), ()))))).2.2.2.1) : Nat) : Int) - (1 : Int)))) ((0 : Int), (([] : List UInt8), ()))), (true, ())))
 (none))
 (none))

def zgs (N : Nat) : Tab ((Int × ((List UInt8) × Unit)) × Bool × Unit) := [([0, 1, 1], zet N)]

theorem zk6 (N : Nat) (x : z2g [(0, .v (.pair (.sl (.pair .str (.pair (.int .i64) (.pair (.int .i64) (.pair (.sl (.pair (.int .i64) (.pair .str .unit))) .unit))))) (.pair (.int .i64) .unit))), (0, .v .str)]) : zc7 (z56 N) N (zgs N) z7g Go.Proofs.Try.f17 (mkS [(0, .v (.pair (.sl (.pair .str (.pair (.int .i64) (.pair (.int .i64) (.pair (.sl (.pair (.int .i64) (.pair .str .unit))) .unit))))) (.pair (.int .i64) .unit))), (0, .v .str)] 0 x) (z6g (.tup [(.pair (.int .i64) (.pair .str .unit)), .bool]) 2) = z3l N x.1 x.2.1 := by kernel_rfl

def zcn (N : Nat) : List A -> Res := z1z [(0, .v (.pair (.sl (.pair .str (.pair (.int .i64) (.pair (.int .i64) (.pair (.sl (.pair (.int .i64) (.pair .str .unit))) .unit))))) (.pair (.int .i64) .unit))), (0, .v .str)] (fun x => z3l N x.1 x.2.1) (z51 (.tup [(.pair (.int .i64) (.pair .str .unit)), .bool]) 2)

theorem zew (N : Nat) : Contract Go.Proofs.Try.prog zm 17 (zcn N) :=
  Contract.of (E := z56 N) (H := zgs N) (L := z7g) (N := N) (body := z3a) (K := (z6g (.tup [(.pair (.int .i64) (.pair .str .unit)), .bool]) 2)) (zlm N) Go.Proofs.Try.func17 (by kernel_rfl) (by decide) (fun _ hb => (TabOk.cons (zll hb) TabOk.nil)) (fun x y h => by rw [zk6]; exact h) (z20 (s := (.tup [(.pair (.int .i64) (.pair .str .unit)), .bool])) (m := 2))

def z1c : Code := (Go.Proofs.Try.f6.body).getD .skip

def z2d : List (List Nat × List Nat) := [([0], [1]), ([0, 0, 1], [7, 1]), ([1, 0, 1], [1]), ([0, 0, 1, 0, 1], [2]), ([1, 0, 1, 0, 1], [2]), ([0, 0, 1, 1], [3, 1]), ([0, 1, 0, 1, 1], [3, 1]), ([0, 0, 0, 0, 1, 0, 1, 1], [12, 1, 3]), ([1, 0, 0, 0, 1, 0, 1, 1], [1, 3]), ([1, 1, 0, 0, 0, 1, 0, 1, 1], []), ([0, 0, 0, 1, 0, 0, 1, 0, 1, 1], [32, 3, 1]), ([1, 0, 0, 1, 0, 0, 1, 0, 1, 1], [3, 1]), ([0, 0, 1, 0, 0, 1, 0, 0, 1, 0, 1, 1], [2]), ([1, 0, 1, 0, 0, 1, 0, 0, 1, 0, 1, 1], [2]), ([0, 1, 0, 0, 1, 0, 1, 1], [3, 1]), ([1, 1, 0, 0, 1, 0, 1, 1], [3, 1]), ([1, 0, 1, 1], []), ([0, 1, 1, 1], [2]), ([1, 1, 1, 1], [2])]

def z1w (N : Nat) : Env := z45 tys zm [] [] [] [] false [] []

theorem zcy (N : Nat) : EnvOk Go.Proofs.Try.prog (z1w N) := z16 mixed z28 (FnsOk.nil) (ItsOk.nil)

def z43 (N : Nat) (s : ((List ((List UInt8) × (Int × (Int × ((List (Int × ((List UInt8) × Unit))) × Unit))))) × (Int × Unit))) (i : Int) (k0 : Bool -> Option Bool) : Option Bool :=
 cond (Go.Lift.inR i (List.length s.1))
 (cond (decide ((12 : Int) < (((List.length (List.getD s.1 (Int.toNat i) (([] : List UInt8), ((0 : Int), ((0 : Int), (([] : List (Int × ((List UInt8) × Unit))), ()))))).2.2.2.1) : Nat) : Int)))
 (k0 true)
 (cond (Go.Lift.inR i (List.length s.1))
 (k0 (decide ((100 : Int) < (((List.length (List.getD s.1 (Int.toNat i) (([] : List UInt8), ((0 : Int), ((0 : Int), (([] : List (Int × ((List UInt8) × Unit))), ()))))).1) : Nat) : Int))))
 (none)))
 (none)

def z79 (N : Nat) (x : z2g [(1, .box (.pair (.sl (.pair .str (.pair (.int .i64) (.pair (.int .i64) (.pair (.sl (.pair (.int .i64) (.pair .str .unit))) .unit))))) (.pair (.int .i64) .unit))), (1, .v (.int .i64))]) (K : Ex -> List A -> Option Bool) : Option Bool :=
 z43 N x.1 x.2.1 (fun a2 => (K .normal (mkS [(1, .box (.pair (.sl (.pair .str (.pair (.int .i64) (.pair (.int .i64) (.pair (.sl (.pair (.int .i64) (.pair .str .unit))) .unit))))) (.pair (.int .i64) .unit))), (1, .v (.int .i64)), (28, .v .bool)] 0 (x.1, x.2.1, a2, ()))))

def z76 (N : Nat) : Hd Bool := fun st K => (unS [(1, .box (.pair (.sl (.pair .str (.pair (.int .i64) (.pair (.int .i64) (.pair (.sl (.pair (.int .i64) (.pair .str .unit))) .unit))))) (.pair (.int .i64) .unit))), (1, .v (.int .i64))] 29 (restr [1, 3] 0 st)).bind fun x => z79 N x K

def zec (N : Nat) : Tab Bool := []

theorem zcv {N : Nat} {c : Ctx} (hb : Base Go.Proofs.Try.prog (z1w N) c) : z1b Go.Proofs.Try.prog c (zp z1c [0, 0, 0, 1, 0, 0, 1, 0, 1, 1]) (z76 N) :=
  z1i (s := [(1, .box (.pair (.sl (.pair .str (.pair (.int .i64) (.pair (.int .i64) (.pair (.sl (.pair (.int .i64) (.pair .str .unit))) .unit))))) (.pair (.int .i64) .unit))), (1, .v (.int .i64))]) (m := 29) (g := z79 N) [1, 3] (zo hb N (zec N) z2d z1c TabOk.nil [0, 0, 0, 1, 0, 0, 1, 0, 1, 1] _ rfl) (fun x K => by kernel_rfl)

def z44 (N : Nat) (s : ((List ((List UInt8) × (Int × (Int × ((List (Int × ((List UInt8) × Unit))) × Unit))))) × (Int × Unit))) (i : Int) (k0 : Bool -> Option Bool) (k1 : Option Bool) : Option Bool :=
 z43 N s i
 (fun x32 => cond x32
 (k0 true)
 (k1))

def z7a (N : Nat) (x : z2g [(1, .box (.pair (.sl (.pair .str (.pair (.int .i64) (.pair (.int .i64) (.pair (.sl (.pair (.int .i64) (.pair .str .unit))) .unit))))) (.pair (.int .i64) .unit))), (1, .v (.int .i64))]) (K : Ex -> List A -> Option Bool) : Option Bool :=
 z44 N x.1 x.2.1 (fun a0 => (K .ret (mkS [(2, .v .bool)] 30 (a0, ())))) (K .normal (mkS [(1, .box (.pair (.sl (.pair .str (.pair (.int .i64) (.pair (.int .i64) (.pair (.sl (.pair (.int .i64) (.pair .str .unit))) .unit))))) (.pair (.int .i64) .unit))), (1, .v (.int .i64))] 29 (x.1, x.2.1, ())))

def z77 (N : Nat) : Hd Bool := fun st K => (unS [(1, .box (.pair (.sl (.pair .str (.pair (.int .i64) (.pair (.int .i64) (.pair (.sl (.pair (.int .i64) (.pair .str .unit))) .unit))))) (.pair (.int .i64) .unit))), (1, .v (.int .i64))] 29 (restr [1, 3] 0 st)).bind fun x => z7a N x K

def zed (N : Nat) : Tab Bool := [([0, 0, 0, 1, 0, 0, 1, 0, 1, 1], z76 N)]

theorem zcw {N : Nat} {c : Ctx} (hb : Base Go.Proofs.Try.prog (z1w N) c) : z1b Go.Proofs.Try.prog c (zp z1c [0, 1, 0, 0, 1, 0, 1, 1]) (z77 N) :=
  z1i (s := [(1, .box (.pair (.sl (.pair .str (.pair (.int .i64) (.pair (.int .i64) (.pair (.sl (.pair (.int .i64) (.pair .str .unit))) .unit))))) (.pair (.int .i64) .unit))), (1, .v (.int .i64))]) (m := 29) (g := z7a N) [1, 3] (zo hb N (zed N) z2d z1c (TabOk.cons (zcv hb) TabOk.nil) [0, 1, 0, 0, 1, 0, 1, 1] _ rfl) (fun x K => by kernel_rfl)

def z42 (N : Nat) (s : ((List ((List UInt8) × (Int × (Int × ((List (Int × ((List UInt8) × Unit))) × Unit))))) × (Int × Unit))) (i : Int) (rec : Int -> Option Bool) (k0 : Bool -> Option Bool) (k1 : Option Bool) : Option Bool :=
 cond (decide (i < (((List.length s.1) : Nat) : Int)))
 (z44 N s i
 (fun x2 => k0 x2)
 (rec (Go.IntKind.wrap Go.IntKind.i64 (i + (1 : Int)))))
 (k1)

def z75 (N : Nat) (s : ((List ((List UInt8) × (Int × (Int × ((List (Int × ((List UInt8) × Unit))) × Unit))))) × (Int × Unit))) (i : Int) (k0 : Bool -> Option Bool) (k1 : Option Bool) : Option Bool :=
 iter (fun (v : Int) r => z42 N s v (fun i => (r i)) k0 k1) N i

def z7b (N : Nat) (i : ((List ((List UInt8) × (Int × (Int × ((List (Int × ((List UInt8) × Unit))) × Unit))))) × (Int × Unit))) (v : Int) (r : Int -> Option Bool) (K : Ex -> List A -> Option Bool) : Option Bool :=
 z42 N i v (fun i => (r i)) (fun a0 => (K .ret (mkS [(2, .v .bool)] 30 (a0, ())))) (K (.exit 0) (mkS [] 33 ()))

def z78 (N : Nat) : Hd Bool := fun st K => (unS [(1, .box (.pair (.sl (.pair .str (.pair (.int .i64) (.pair (.int .i64) (.pair (.sl (.pair (.int .i64) (.pair .str .unit))) .unit))))) (.pair (.int .i64) .unit))), (1, .v (.int .i64))] 29 (restr [3, 1] 0 st)).bind fun x => iter (fun v r => z7b N ((fun x => x.1) x) v r K) N ((fun x => x.2.1) x)

def zee (N : Nat) : Tab Bool := [([0, 1, 0, 0, 1, 0, 1, 1], z77 N)]

theorem zcx {N : Nat} {c : Ctx} (hb : Base Go.Proofs.Try.prog (z1w N) c) : z1b Go.Proofs.Try.prog c (zp z1c [0, 1, 0, 1, 1]) (z78 N) :=
  z9d (s := [(1, .box (.pair (.sl (.pair .str (.pair (.int .i64) (.pair (.int .i64) (.pair (.sl (.pair (.int .i64) (.pair .str .unit))) .unit))))) (.pair (.int .i64) .unit))), (1, .v (.int .i64))]) (m := 29) (z7b N) [3, 1] N (fun x => x.1) (fun x => x.2.1) (fun i v => (i, v, ())) (fun _ => rfl) (zo hb N (zee N) z2d z1c (TabOk.cons (zcw hb) TabOk.nil) [0, 0, 1, 0, 1, 1] _ rfl) (fun i v r K => by kernel_rfl)

def z2n (N : Nat) (s : ((List ((List UInt8) × (Int × (Int × ((List (Int × ((List UInt8) × Unit))) × Unit))))) × (Int × Unit))) : Option Bool :=
 cond (decide ((20 : Int) < (((List.length s.1) : Nat) : Int)))
 (some true)
 (z75 N s (0 : Int)
 (fun x2 => some x2)
 (some false))

def z83 (N : Nat) : Tab Bool := [([0, 1, 0, 1, 1], z78 N)]

theorem zc8 (N : Nat) (x : z2g [(0, .v (.pair (.sl (.pair .str (.pair (.int .i64) (.pair (.int .i64) (.pair (.sl (.pair (.int .i64) (.pair .str .unit))) .unit))))) (.pair (.int .i64) .unit)))]) : zc7 (z1w N) N (z83 N) z2d Go.Proofs.Try.f6 (mkS [(0, .v (.pair (.sl (.pair .str (.pair (.int .i64) (.pair (.int .i64) (.pair (.sl (.pair (.int .i64) (.pair .str .unit))) .unit))))) (.pair (.int .i64) .unit)))] 0 x) (z6g (.v .bool) 1) = z2n N x.1 := by kernel_rfl

def z6l (N : Nat) : List A -> Res := z1z [(0, .v (.pair (.sl (.pair .str (.pair (.int .i64) (.pair (.int .i64) (.pair (.sl (.pair (.int .i64) (.pair .str .unit))) .unit))))) (.pair (.int .i64) .unit)))] (fun x => z2n N x.1) (z51 (.v .bool) 1)

theorem zef (N : Nat) : Contract Go.Proofs.Try.prog zm 6 (z6l N) :=
  Contract.of (E := z1w N) (H := z83 N) (L := z2d) (N := N) (body := z1c) (K := (z6g (.v .bool) 1)) (zcy N) Go.Proofs.Try.func6 (by kernel_rfl) (by decide) (fun _ hb => (TabOk.cons (zcx hb) TabOk.nil)) (fun x y h => by rw [zc8]; exact h) (z20 (s := (.v .bool)) (m := 1))

def zd3 : Code := (Go.Proofs.Try.f28.body).getD .skip

def z8r : List (List Nat × List Nat) := [([0], [0, 1, 2, 6]), ([0, 1], [6]), ([1, 1], [6])]

def z5s (N : Nat) : Env := z45 tys zm [] [] [] [] false [] []

theorem zei (N : Nat) : EnvOk Go.Proofs.Try.prog (z5s N) := z16 mixed z28 (FnsOk.nil) (ItsOk.nil)

def zbt (N : Nat) (tenant : (List UInt8)) (epoch : Int) (next : Int) : Option (Int × ((List UInt8) × (Int × (Int × ((List UInt8) × Unit))))) :=
 some ((1 : Int), (tenant, (next, (epoch, (([] : List UInt8), ())))))

def z8q (N : Nat) : Tab (Int × ((List UInt8) × (Int × (Int × ((List UInt8) × Unit))))) := []

theorem zd2 (N : Nat) (x : z2g [(0, .v .str), (0, .v (.int .i64)), (0, .v (.int .i64))]) : zc7 (z5s N) N (z8q N) z8r Go.Proofs.Try.f28 (mkS [(0, .v .str), (0, .v (.int .i64)), (0, .v (.int .i64))] 0 x) (z6g (.v (.pair (.int .i64) (.pair .str (.pair (.int .i64) (.pair (.int .i64) (.pair .str .unit)))))) 3) = zbt N x.1 x.2.1 x.2.2.1 := by kernel_rfl

def z7d (N : Nat) : List A -> Res := z1z [(0, .v .str), (0, .v (.int .i64)), (0, .v (.int .i64))] (fun x => zbt N x.1 x.2.1 x.2.2.1) (z51 (.v (.pair (.int .i64) (.pair .str (.pair (.int .i64) (.pair (.int .i64) (.pair .str .unit)))))) 3)

theorem z86 (N : Nat) : Contract Go.Proofs.Try.prog zm 28 (z7d N) :=
  Contract.of (E := z5s N) (H := z8q N) (L := z8r) (N := N) (body := zd3) (K := (z6g (.v (.pair (.int .i64) (.pair .str (.pair (.int .i64) (.pair (.int .i64) (.pair .str .unit)))))) 3)) (zei N) Go.Proofs.Try.func28 (by kernel_rfl) (by decide) (fun _ hb => TabOk.nil) (fun x y h => by rw [zd2]; exact h) (z20 (s := (.v (.pair (.int .i64) (.pair .str (.pair (.int .i64) (.pair (.int .i64) (.pair .str .unit))))))) (m := 3))

def zgw : Code := (Go.Proofs.Try.f29.body).getD .skip

def zd5 : List (List Nat × List Nat) := [([0], [0, 1, 2, 6]), ([0, 1], [6]), ([1, 1], [6])]

def z87 (N : Nat) : Env := z45 tys zm [] [] [] [] false [] []

theorem zhz (N : Nat) : EnvOk Go.Proofs.Try.prog (z87 N) := z16 mixed z28 (FnsOk.nil) (ItsOk.nil)

def zgx (N : Nat) (tenant : (List UInt8)) (num : Int) (key : (List UInt8)) : Option (Int × ((List UInt8) × (Int × (Int × ((List UInt8) × Unit))))) :=
 some ((2 : Int), (tenant, (num, ((0 : Int), (key, ())))))

def zd4 (N : Nat) : Tab (Int × ((List UInt8) × (Int × (Int × ((List UInt8) × Unit))))) := []

theorem zgv (N : Nat) (x : z2g [(0, .v .str), (0, .v (.int .i64)), (0, .v .str)]) : zc7 (z87 N) N (zd4 N) zd5 Go.Proofs.Try.f29 (mkS [(0, .v .str), (0, .v (.int .i64)), (0, .v .str)] 0 x) (z6g (.v (.pair (.int .i64) (.pair .str (.pair (.int .i64) (.pair (.int .i64) (.pair .str .unit)))))) 3) = zgx N x.1 x.2.1 x.2.2.1 := by kernel_rfl

def za8 (N : Nat) : List A -> Res := z1z [(0, .v .str), (0, .v (.int .i64)), (0, .v .str)] (fun x => zgx N x.1 x.2.1 x.2.2.1) (z51 (.v (.pair (.int .i64) (.pair .str (.pair (.int .i64) (.pair (.int .i64) (.pair .str .unit)))))) 3)

theorem zbu (N : Nat) : Contract Go.Proofs.Try.prog zm 29 (za8 N) :=
  Contract.of (E := z87 N) (H := zd4 N) (L := zd5) (N := N) (body := zgw) (K := (z6g (.v (.pair (.int .i64) (.pair .str (.pair (.int .i64) (.pair (.int .i64) (.pair .str .unit)))))) 3)) (zhz N) Go.Proofs.Try.func29 (by kernel_rfl) (by decide) (fun _ hb => TabOk.nil) (fun x y h => by rw [zgv]; exact h) (z20 (s := (.v (.pair (.int .i64) (.pair .str (.pair (.int .i64) (.pair (.int .i64) (.pair .str .unit))))))) (m := 3))

end
end Go.Proofs.YtlohplpnhopldaaLg

set_option linter.all false
set_option maxRecDepth 100000
namespace Go.Proofs.YtlohplpnhopldaaLg
noncomputable section
open Go Go.Lift Go.Proofs.YtlohplpnhopldaaPx

abbrev zhp := Int × (List UInt8 × Unit)
abbrev z8j := List UInt8 × (Int × (Int × (List zhp × Unit)))

def z9e (next : Int) : Int -> List zhp -> Bool
  | _, [] => true
  | last, k :: l => decide (last < k.1) && (decide (k.1 < next) && (decide (k.2.1.length = 32) && z9e next k.1 l))

theorem zye (N : Nat) {t : z8j} (hN : t.2.2.2.1.length < N) (hl : t.2.2.2.1.length <= 1000000) :
    z4f N t 0 t.2.2.2.1 ((t.2.2.2.1.length : Nat) : Int) 0 (fun x21 => some x21) (some true) = some (z9e t.2.2.1 0 t.2.2.2.1) := by
  rw [z4f]
  refine (zbl (fun v => ∃ (i : Nat) (last : Int), v = (t, last, (i : Int)) /\ i <= t.2.2.2.1.length) (fun v => t.2.2.2.1.length - v.2.2.toNat) (fun v => some (z9e t.2.2.1 v.2.1 (t.2.2.2.1.drop v.2.2.toNat))) ?_ N (t, 0, 0) ⟨0, 0, rfl, by omega⟩ (by simp only; omega)).trans (by rfl)
  rintro v r ⟨i, last, rfl, hi⟩ hr
  simp only [Int.toNat_natCast]
  rw [z4d]
  by_cases hlt : i < t.2.2.2.1.length
  . rw [z1f (decide_eq_true (by omega)), z1f (z5y hlt), z4e, Int.toNat_natCast, zdm t.2.2.2.1 ((0 : Int), (([] : List UInt8), ())) i hlt, z9e]
    generalize List.getD t.2.2.2.1 i ((0 : Int), (([] : List UInt8), ())) = k
    rw [zdx]
    by_cases h1 : last < k.1
    . rw [z1f (decide_eq_true h1), Option.bind_some, decide_eq_true h1, Bool.true_and]
      dsimp only
      by_cases h2 : k.1 < t.2.2.1
      . rw [decide_eq_true h2, Bool.not_true, cond_false, Bool.true_and]
        by_cases h3 : k.2.1.length = 32
        . rw [show ((((List.length k.2.1) : Nat) : Int) != (32 : Int)) = false by rw [h3]; rfl, cond_false, z9j (by omega), decide_eq_true h3, Bool.true_and, hr _ ⟨i + 1, k.1, rfl, by omega⟩ (by simp only; omega)]
          simp only [Int.toNat_natCast]
        . rw [show ((((List.length k.2.1) : Nat) : Int) != (32 : Int)) = true by rw [bne_iff_ne]; omega, cond_true, decide_eq_false h3, Bool.false_and]
      . rw [decide_eq_false h2, Bool.not_false, cond_true, cond_true, Bool.false_and]
    . rw [z1d (decide_eq_false h1), Option.bind_some, decide_eq_false h1]
      rfl
  . rw [z1d (decide_eq_false (by omega)), zn1 _ (by omega), z9e]

end
end Go.Proofs.YtlohplpnhopldaaLg
