import Derived.Laws.MakeOwn
import Derived.WalkKit
import Derived.Tactics
import Derived.Tactics2
import Derived.Defers
import Derived.Lib.Hide
import Derived.Below
import Derived.Recover
import Derived.Orders
import Derived.WalkSmall
import Derived.LoopN
import Derived.Deep.RegionHeld3
import Derived.Laws.IdiomStrings
import Derived.Test.YtoamomodbkobfaaDoorLgW
import Derived.Test.YtoamomodbkobfaaDoorChecked
import Derived.KernelRfl
set_option linter.all false
set_option maxRecDepth 100000
namespace Go.Proofs.YtoamomodbkobfaaDoorLg
noncomputable section
open Go Go.Lift

def ty3 : TyI := ⟨(Go.TypeDesc.int Go.IntKind.i64), 1, 8, (.int .i64), (0 : Int), false⟩

theorem zw9 : TyOk Go.Proofs.Tryd.prog 3 ty3 := TyOk.of (by kernel_rfl) (by kernel_rfl) (by kernel_rfl) (by kernel_rfl)

def ty4 : TyI := ⟨Go.TypeDesc.bool, 1, 1, .bool, false, false⟩

theorem zw8 : TyOk Go.Proofs.Tryd.prog 4 ty4 := TyOk.of (by kernel_rfl) (by kernel_rfl) (by kernel_rfl) (by kernel_rfl)

def ty5 : TyI := ⟨(Go.TypeDesc.int Go.IntKind.u8), 1, 1, (.int .u8), (0 : Int), false⟩

theorem zw7 : TyOk Go.Proofs.Tryd.prog 5 ty5 := TyOk.of (by kernel_rfl) (by kernel_rfl) (by kernel_rfl) (by kernel_rfl)

def ty9 : TyI := ⟨Go.TypeDesc.string, 1, 16, .str, ([] : List UInt8), false⟩

theorem zw6 : TyOk Go.Proofs.Tryd.prog 9 ty9 := TyOk.of (by kernel_rfl) (by kernel_rfl) (by kernel_rfl) (by kernel_rfl)

def ty22 : TyI := ⟨(Go.TypeDesc.int Go.IntKind.u32), 1, 4, (.int .u32), (0 : Int), false⟩

theorem zv6 : TyOk Go.Proofs.Tryd.prog 22 ty22 := TyOk.of (by kernel_rfl) (by kernel_rfl) (by kernel_rfl) (by kernel_rfl)

def ty23 : TyI := ⟨(Go.TypeDesc.array 8 22), 8, 32, (.arr 8 (.int .u32)), ([(0 : Int), (0 : Int), (0 : Int), (0 : Int), (0 : Int), (0 : Int), (0 : Int), (0 : Int)] : List Int), true⟩

theorem zv5 : TyOk Go.Proofs.Tryd.prog 23 ty23 := TyOk.of (by kernel_rfl) (by kernel_rfl) (by kernel_rfl) (by kernel_rfl)

def ty24 : TyI := ⟨(Go.TypeDesc.array 8 22), 8, 32, (.arr 8 (.int .u32)), ([(0 : Int), (0 : Int), (0 : Int), (0 : Int), (0 : Int), (0 : Int), (0 : Int), (0 : Int)] : List Int), true⟩

theorem zv4 : TyOk Go.Proofs.Tryd.prog 24 ty24 := TyOk.of (by kernel_rfl) (by kernel_rfl) (by kernel_rfl) (by kernel_rfl)

def ty33 : TyI := ⟨(Go.TypeDesc.pointer 50), 1, 8, .opq, (Go.Value.pointer none), false⟩

theorem zv3 : TyOk Go.Proofs.Tryd.prog 33 ty33 := TyOk.of (by kernel_rfl) (by kernel_rfl) (by kernel_rfl) (by kernel_rfl)

def ty39 : TyI := ⟨(Go.TypeDesc.array 64 22), 64, 256, (.arr 64 (.int .u32)), ((0 : Int) :: (0 : Int) :: (0 : Int) :: (0 : Int) :: (0 : Int) :: (0 : Int) :: (0 : Int) :: (0 : Int) :: (0 : Int) :: (0 : Int) :: (0 : Int) :: (0 : Int) :: (0 : Int) :: (0 : Int) :: (0 : Int) :: (0 : Int) :: (0 : Int) :: (0 : Int) :: (0 : Int) :: (0 : Int) :: (0 : Int) :: (0 : Int) :: (0 : Int) :: (0 : Int) :: (0 : Int) :: (0 : Int) :: (0 : Int) :: (0 : Int) :: (0 : Int) :: (0 : Int) :: (0 : Int) :: (0 : Int) :: (0 : Int) :: (0 : Int) :: (0 : Int) :: (0 : Int) :: (0 : Int) :: (0 : Int) :: (0 : Int) :: (0 : Int) :: (0 : Int) :: (0 : Int) :: (0 : Int) :: (0 : Int) :: (0 : Int) :: (0 : Int) :: (0 : Int) :: (0 : Int) :: (0 : Int) :: (0 : Int) :: (0 : Int) :: (0 : Int) :: (0 : Int) :: (0 : Int) :: (0 : Int) :: (0 : Int) :: (0 : Int) :: (0 : Int) :: (0 : Int) :: (0 : Int) :: (0 : Int) :: (0 : Int) :: (0 : Int) :: (0 : Int) :: ([] : List Int)), true⟩

theorem zv2 : TyOk Go.Proofs.Tryd.prog 39 ty39 := TyOk.of (by kernel_rfl) (by kernel_rfl) (by kernel_rfl) (by kernel_rfl)

def ty43 : TyI := ⟨(Go.TypeDesc.slice 22), 1, 24, (.sl (.int .u32)), ([] : List Int), false⟩

theorem zv1 : TyOk Go.Proofs.Tryd.prog 43 ty43 := TyOk.of (by kernel_rfl) (by kernel_rfl) (by kernel_rfl) (by kernel_rfl)

def ty46 : TyI := ⟨(Go.TypeDesc.int Go.IntKind.u64), 1, 8, (.int .u64), (0 : Int), false⟩

theorem ty46_ok : TyOk Go.Proofs.Tryd.prog 46 ty46 := TyOk.of (by kernel_rfl) (by kernel_rfl) (by kernel_rfl) (by kernel_rfl)

def ty47 : TyI := ⟨(Go.TypeDesc.slice 5), 1, 24, (.sl (.int .u8)), ([] : List Int), false⟩

theorem zv0 : TyOk Go.Proofs.Tryd.prog 47 ty47 := TyOk.of (by kernel_rfl) (by kernel_rfl) (by kernel_rfl) (by kernel_rfl)

def ty48 : TyI := ⟨(Go.TypeDesc.int Go.IntKind.u64), 1, 8, (.int .u64), (0 : Int), false⟩

theorem zuz : TyOk Go.Proofs.Tryd.prog 48 ty48 := TyOk.of (by kernel_rfl) (by kernel_rfl) (by kernel_rfl) (by kernel_rfl)

def ty50 : TyI := ⟨(Go.TypeDesc.struct (List.toArray ([(Go.Field.mk "made" 4 0 false "" "porter/sha" 0), (Go.Field.mk "words" 24 1 false "" "porter/sha" 4), (Go.Field.mk "rest" 9 9 false "" "porter/sha" 40), (Go.Field.mk "long" 3 10 false "" "porter/sha" 56)] : List Go.Field))), 11, 64, (.pair .bool (.pair (.arr 8 (.int .u32)) (.pair .str (.pair (.int .i64) .unit)))), (false, ([(0 : Int), (0 : Int), (0 : Int), (0 : Int), (0 : Int), (0 : Int), (0 : Int), (0 : Int)] : List Int), ([] : List UInt8), (0 : Int), ()), true⟩

theorem zuy : TyOk Go.Proofs.Tryd.prog 50 ty50 := TyOk.of (by kernel_rfl) (by kernel_rfl) (by kernel_rfl) (by kernel_rfl)

def ty56 : TyI := ⟨(Go.TypeDesc.slice 46), 1, 24, (.sl (.int .u64)), ([] : List Int), false⟩

theorem zux : TyOk Go.Proofs.Tryd.prog 56 ty56 := TyOk.of (by kernel_rfl) (by kernel_rfl) (by kernel_rfl) (by kernel_rfl)

def tys : List (Nat × TyI) := [(3, ty3), (4, ty4), (5, ty5), (9, ty9), (22, ty22), (23, ty23), (24, ty24), (33, ty33), (39, ty39), (43, ty43), (46, ty46), (47, ty47), (48, ty48), (50, ty50), (56, ty56)]

theorem z1x : TysOk Go.Proofs.Tryd.prog tys := TysOk.cons zw9 (TysOk.cons zw8 (TysOk.cons zw7 (TysOk.cons zw6 (TysOk.cons zv6 (TysOk.cons zv5 (TysOk.cons zv4 (TysOk.cons zv3 (TysOk.cons zv2 (TysOk.cons zv1 (TysOk.cons ty46_ok (TysOk.cons zv0 (TysOk.cons zuz (TysOk.cons zuy (TysOk.cons zux (TysOk.nil)))))))))))))))

theorem mixed : Go.Proofs.Tryd.prog.follows .mixedOrders = true := by kernel_rfl

def glob0 : List Int := [1116352408, 1899447441, 3049323471, 3921009573, 961987163, 1508970993, 2453635748, 2870763221, 3624381080, 310598401, 607225278, 1426881987, 1925078388, 2162078206, 2614888103, 3248222580, 3835390401, 4022224774, 264347078, 604807628, 770255983, 1249150122, 1555081692, 1996064986, 2554220882, 2821834349, 2952996808, 3210313671, 3336571891, 3584528711, 113926993, 338241895, 666307205, 773529912, 1294757372, 1396182291, 1695183700, 1986661051, 2177026350, 2456956037, 2730485921, 2820302411, 3259730800, 3345764771, 3516065817, 3600352804, 4094571909, 275423344, 430227734, 506948616, 659060556, 883997877, 958139571, 1322822218, 1537002063, 1747873779, 1955562222, 2024104815, 2227730452, 2361852424, 2428436474, 2756734187, 3204031479, 3329325298]

def glob : Nat -> Option Dat := lk [(0, ⟨(.arr 64 (.int .u32)), glob0⟩)]

def zjl : Code := (Go.Proofs.Tryd.f9.body).getD .skip

def zib : List (List Nat × List Nat) := [([0], [0]), ([0, 1], [0]), ([1, 1], [0])]

def zds (N : Nat) : Env := z3v tys glob [] [] [] [] false [] []

theorem zl4 (N : Nat) : EnvOk Go.Proofs.Tryd.prog (zds N) := zu mixed z1x (FnsOk.nil) (ItsOk.nil)

def zmh (N : Nat) : Option (List Int) :=
 some ([(1779033703 : Int), (3144134277 : Int), (1013904242 : Int), (2773480762 : Int), (1359893119 : Int), (2600822924 : Int), (528734635 : Int), (1541459225 : Int)] : List Int)

def zia (N : Nat) : Tab (List Int) := []

theorem zjk (N : Nat) (x : z2i []) : zak (zds N) N (zia N) zib Go.Proofs.Tryd.f9 (mkS [] 0 x) (z56 (.v (.arr 8 (.int .u32))) 0) = zmh N := by kernel_rfl

def z9e (N : Nat) : List A -> Res := z1y [] (fun x => zmh N) (zdc (.v (.arr 8 (.int .u32))) 0)

theorem zgf (N : Nat) : Contract Go.Proofs.Tryd.prog glob 9 (z9e N) :=
  Contract.of (E := zds N) (H := zia N) (L := zib) (N := N) (body := zjl) (K := (z56 (.v (.arr 8 (.int .u32))) 0)) (zl4 N) Go.Proofs.Tryd.func9 (by kernel_rfl) (by decide) (fun _ hb => TabOk.nil) (fun x y h => by rw [zjk]; exact h) (z1k (s := (.v (.arr 8 (.int .u32)))) (m := 0))

def zmf : Code := (Go.Proofs.Tryd.f11.body).getD .skip

def zmg : List (List Nat × List Nat) := [([0], []), ([0, 1], [0]), ([1, 1], [0])]

def zi4 (N : Nat) : Env := z3v tys glob [(9, z9e N)] [] [] [] false [] []

theorem zny (N : Nat) : EnvOk Go.Proofs.Tryd.prog (zi4 N) := zu mixed z1x (FnsOk.cons (zgf N) (FnsOk.nil)) (ItsOk.nil)

def zrf (N : Nat) : Option (Bool × ((List Int) × ((List UInt8) × (Int × Unit)))) :=
 some (true, (([(1779033703 : Int), (3144134277 : Int), (1013904242 : Int), (2773480762 : Int), (1359893119 : Int), (2600822924 : Int), (528734635 : Int), (1541459225 : Int)] : List Int), (([] : List UInt8), ((0 : Int), ()))))

def zmd (N : Nat) : Tab (Bool × ((List Int) × ((List UInt8) × (Int × Unit)))) := []

theorem zme (N : Nat) (x : z2i []) : zak (zi4 N) N (zmd N) zmg Go.Proofs.Tryd.f11 (mkS [] 0 x) (z56 (.box (.pair .bool (.pair (.arr 8 (.int .u32)) (.pair .str (.pair (.int .i64) .unit))))) 0) = zrf N := by kernel_rfl

def zdm (N : Nat) : List A -> Res := z1y [] (fun x => zrf N) (zdc (.box (.pair .bool (.pair (.arr 8 (.int .u32)) (.pair .str (.pair (.int .i64) .unit))))) 0)

theorem zk5 (N : Nat) : Contract Go.Proofs.Tryd.prog glob 11 (zdm N) :=
  Contract.of (E := zi4 N) (H := zmd N) (L := zmg) (N := N) (body := zmf) (K := (z56 (.box (.pair .bool (.pair (.arr 8 (.int .u32)) (.pair .str (.pair (.int .i64) .unit))))) 0)) (zny N) Go.Proofs.Tryd.func11 (by kernel_rfl) (by decide) (fun _ hb => TabOk.nil) (fun x y h => by rw [zme]; exact h) (z1k (s := (.box (.pair .bool (.pair (.arr 8 (.int .u32)) (.pair .str (.pair (.int .i64) .unit)))))) (m := 0))

def z7i : Code := (Go.Proofs.Tryd.f27.body).getD .skip

def z4c : List (List Nat × List Nat) := [([0], [1, 0]), ([0, 1], [0, 5]), ([0, 1, 1], [4]), ([1, 1, 1], [4])]

def z28 (N : Nat) : Env := z3v tys glob [] [] [] [] false [] []

theorem z7o (N : Nat) : EnvOk Go.Proofs.Tryd.prog (z28 N) := zu mixed z1x (FnsOk.nil) (ItsOk.nil)

def z2p (N : Nat) (x0 : Int) (k : Int) : Option Int :=
 cond (decide ((0 : Int) <= (Go.IntKind.wrap Go.IntKind.u64 ((32 : Int) - (Go.Lift.bitsOp Go.BinOp.and Go.IntKind.u64 (Go.IntKind.wrap Go.IntKind.u64 k) (31 : Int))))))
 (some (Go.Lift.bitsOp Go.BinOp.or Go.IntKind.u32 (Go.Lift.shlI Go.IntKind.u32 x0 (Go.Lift.bitsOp Go.BinOp.and Go.IntKind.u64 (Go.IntKind.wrap Go.IntKind.u64 k) (31 : Int))) (Go.Lift.shrI Go.IntKind.u32 x0 (Go.IntKind.wrap Go.IntKind.u64 ((32 : Int) - (Go.Lift.bitsOp Go.BinOp.and Go.IntKind.u64 (Go.IntKind.wrap Go.IntKind.u64 k) (31 : Int)))))))
 (none)

def z4b (N : Nat) : Tab Int := []

theorem z7h (N : Nat) (x : z2i [(0, .v (.int .u32)), (0, .v (.int .i64))]) : zak (z28 N) N (z4b N) z4c Go.Proofs.Tryd.f27 (mkS [(0, .v (.int .u32)), (0, .v (.int .i64))] 0 x) (z56 (.v (.int .u32)) 2) = z2p N x.1 x.2.1 := by kernel_rfl

def z3c (N : Nat) : List A -> Res := z1y [(0, .v (.int .u32)), (0, .v (.int .i64))] (fun x => z2p N x.1 x.2.1) (zdc (.v (.int .u32)) 2)

theorem z8f (N : Nat) : Contract Go.Proofs.Tryd.prog glob 27 (z3c N) :=
  Contract.of (E := z28 N) (H := z4b N) (L := z4c) (N := N) (body := z7i) (K := (z56 (.v (.int .u32)) 2)) (z7o N) Go.Proofs.Tryd.func27 (by kernel_rfl) (by decide) (fun _ hb => TabOk.nil) (fun x y h => by rw [z7h]; exact h) (z1k (s := (.v (.int .u32))) (m := 2))

def zm2 : Code := (Go.Proofs.Tryd.f23.body).getD .skip

def zm3 : List (List Nat × List Nat) := [([0], [0, 1]), ([0, 1], [4]), ([1, 1], [4])]

def zhs (N : Nat) : Env := z3v tys glob [(27, z3c N)] [] [] [] false [] []

theorem zns (N : Nat) : EnvOk Go.Proofs.Tryd.prog (zhs N) := zu mixed z1x (FnsOk.cons (z8f N) (FnsOk.nil)) (ItsOk.nil)

def zre (N : Nat) (x0 : Int) (n : Int) : Option Int :=
 (z2p N x0 (Go.IntKind.wrap Go.IntKind.i64 ((0 : Int) - n))).bind fun y =>
 some y

def zm0 (N : Nat) : Tab Int := []

theorem zm1 (N : Nat) (x : z2i [(0, .v (.int .u32)), (0, .v (.int .i64))]) : zak (zhs N) N (zm0 N) zm3 Go.Proofs.Tryd.f23 (mkS [(0, .v (.int .u32)), (0, .v (.int .i64))] 0 x) (z56 (.v (.int .u32)) 2) = zre N x.1 x.2.1 := by kernel_rfl

def zdj (N : Nat) : List A -> Res := z1y [(0, .v (.int .u32)), (0, .v (.int .i64))] (fun x => zre N x.1 x.2.1) (zdc (.v (.int .u32)) 2)

theorem zk2 (N : Nat) : Contract Go.Proofs.Tryd.prog glob 23 (zdj N) :=
  Contract.of (E := zhs N) (H := zm0 N) (L := zm3) (N := N) (body := zm2) (K := (z56 (.v (.int .u32)) 2)) (zns N) Go.Proofs.Tryd.func23 (by kernel_rfl) (by decide) (fun _ hb => TabOk.nil) (fun x y h => by rw [zm1]; exact h) (z1k (s := (.v (.int .u32))) (m := 2))

def z23 : Code := (Go.Proofs.Tryd.f16.body).getD .skip

def z53 : List (List Nat × List Nat) := [([0], [0, 2]), ([0, 1], [0, 3, 2]), ([0, 0, 1, 1], [11, 0, 3, 2]), ([0, 1, 0, 1, 1], [11, 0, 3, 2]), ([0, 0, 0, 1, 0, 1, 1], [12, 11, 0, 3, 2]), ([0, 1, 0, 0, 1, 0, 1, 1], [11, 0, 3, 2]), ([1, 0, 1, 0, 0, 1, 0, 1, 1], [3, 2]), ([0, 0, 0, 1, 1, 0, 0, 1, 0, 1, 1], [0, 4, 3, 11, 2]), ([0, 1, 0, 0, 1, 1, 0, 0, 1, 0, 1, 1], [4, 5, 3, 11, 0, 2]), ([1, 1, 0, 0, 1, 1, 0, 0, 1, 0, 1, 1], [11, 0, 3, 2]), ([0, 1, 1, 0, 0, 1, 0, 1, 1], [11, 0, 3, 2]), ([1, 1, 1, 0, 0, 1, 0, 1, 1], [11, 0, 3, 2]), ([1, 0, 1, 1], [3, 2]), ([0, 0, 1, 1, 1], [6, 3, 2]), ([0, 1, 0, 1, 1, 1], [6, 3, 2]), ([0, 0, 0, 0, 1, 0, 1, 1, 1], [43, 6, 3, 2]), ([1, 0, 0, 0, 1, 0, 1, 1, 1], [6, 3, 2]), ([1, 1, 0, 0, 0, 1, 0, 1, 1, 1], [3, 2]), ([0, 0, 0, 1, 0, 0, 1, 0, 1, 1, 1], [7, 8, 6, 3, 2]), ([0, 1, 0, 0, 1, 0, 0, 1, 0, 1, 1, 1], [8, 6, 3, 9, 2]), ([0, 1, 1, 0, 0, 1, 0, 0, 1, 0, 1, 1, 1], [6, 10, 3, 9, 2]), ([1, 1, 1, 0, 0, 1, 0, 0, 1, 0, 1, 1, 1], [6, 3, 2]), ([0, 1, 0, 0, 1, 0, 1, 1, 1], [6, 3, 2]), ([1, 1, 0, 0, 1, 0, 1, 1, 1], [6, 3, 2]), ([1, 0, 1, 1, 1], [3, 2]), ([0, 1, 1, 1, 1], [2]), ([1, 1, 1, 1, 1], [2])]

def z3f (N : Nat) : Env := z3v tys glob [(23, zdj N)] [] [] [] false [] []

theorem zgv (N : Nat) : EnvOk Go.Proofs.Tryd.prog (z3f N) := zu mixed z1x (FnsOk.cons (zk2 N) (FnsOk.nil)) (ItsOk.nil)

def z69 (N : Nat) (block : (List UInt8)) (x2 : (List Int)) (w : (List Int)) (x11 : Int) (rec : (List Int) -> Int -> Option (List Int)) (k0 : (List Int) -> Option (List Int)) : Option (List Int) :=
 cond (decide (x11 < (16 : Int)))
 (cond (decide (((0 : Int) <= (Go.IntKind.wrap Go.IntKind.i64 ((Go.IntKind.wrap Go.IntKind.i64 ((4 : Int) * x11)) + (4 : Int)))) /\ ((Go.IntKind.wrap Go.IntKind.i64 ((Go.IntKind.wrap Go.IntKind.i64 ((4 : Int) * x11)) + (4 : Int))) <= (((List.length block) : Nat) : Int))))
 (cond (decide (((0 : Int) <= (Go.IntKind.wrap Go.IntKind.i64 ((4 : Int) * x11))) /\ ((Go.IntKind.wrap Go.IntKind.i64 ((4 : Int) * x11)) <= (Go.IntKind.wrap Go.IntKind.i64 ((Go.IntKind.wrap Go.IntKind.i64 ((4 : Int) * x11)) + (4 : Int))))))
 (cond (Go.Lift.inR (0 : Int) (List.length (Go.Lift.cut block (Int.toNat (Go.IntKind.wrap Go.IntKind.i64 ((4 : Int) * x11))) (Int.toNat (Go.IntKind.wrap Go.IntKind.i64 ((Go.IntKind.wrap Go.IntKind.i64 ((4 : Int) * x11)) + (4 : Int)))))))
 (cond (Go.Lift.inR (1 : Int) (List.length (Go.Lift.cut block (Int.toNat (Go.IntKind.wrap Go.IntKind.i64 ((4 : Int) * x11))) (Int.toNat (Go.IntKind.wrap Go.IntKind.i64 ((Go.IntKind.wrap Go.IntKind.i64 ((4 : Int) * x11)) + (4 : Int)))))))
 (cond (Go.Lift.inR (2 : Int) (List.length (Go.Lift.cut block (Int.toNat (Go.IntKind.wrap Go.IntKind.i64 ((4 : Int) * x11))) (Int.toNat (Go.IntKind.wrap Go.IntKind.i64 ((Go.IntKind.wrap Go.IntKind.i64 ((4 : Int) * x11)) + (4 : Int)))))))
 (cond (Go.Lift.inR (3 : Int) (List.length (Go.Lift.cut block (Int.toNat (Go.IntKind.wrap Go.IntKind.i64 ((4 : Int) * x11))) (Int.toNat (Go.IntKind.wrap Go.IntKind.i64 ((Go.IntKind.wrap Go.IntKind.i64 ((4 : Int) * x11)) + (4 : Int)))))))
 (cond (Go.Lift.inR x11 64)
 (cond (decide ((Int.toNat x11) < (List.length w)))
 (rec (List.set w (Int.toNat x11) (Go.Lift.bitsOp Go.BinOp.or Go.IntKind.u32 (Go.Lift.bitsOp Go.BinOp.or Go.IntKind.u32 (Go.Lift.bitsOp Go.BinOp.or Go.IntKind.u32 (Go.Lift.shlI Go.IntKind.u32 (Go.IntKind.wrap Go.IntKind.u32 (((UInt8.toNat (List.getD (Go.Lift.cut block (Int.toNat (Go.IntKind.wrap Go.IntKind.i64 ((4 : Int) * x11))) (Int.toNat (Go.IntKind.wrap Go.IntKind.i64 ((Go.IntKind.wrap Go.IntKind.i64 ((4 : Int) * x11)) + (4 : Int))))) 0 (0 : UInt8))) : Nat) : Int)) (24 : Int)) (Go.Lift.shlI Go.IntKind.u32 (Go.IntKind.wrap Go.IntKind.u32 (((UInt8.toNat (List.getD (Go.Lift.cut block (Int.toNat (Go.IntKind.wrap Go.IntKind.i64 ((4 : Int) * x11))) (Int.toNat (Go.IntKind.wrap Go.IntKind.i64 ((Go.IntKind.wrap Go.IntKind.i64 ((4 : Int) * x11)) + (4 : Int))))) 1 (0 : UInt8))) : Nat) : Int)) (16 : Int))) (Go.Lift.shlI Go.IntKind.u32 (Go.IntKind.wrap Go.IntKind.u32 (((UInt8.toNat (List.getD (Go.Lift.cut block (Int.toNat (Go.IntKind.wrap Go.IntKind.i64 ((4 : Int) * x11))) (Int.toNat (Go.IntKind.wrap Go.IntKind.i64 ((Go.IntKind.wrap Go.IntKind.i64 ((4 : Int) * x11)) + (4 : Int))))) 2 (0 : UInt8))) : Nat) : Int)) (8 : Int))) (Go.IntKind.wrap Go.IntKind.u32 (((UInt8.toNat (List.getD (Go.Lift.cut block (Int.toNat (Go.IntKind.wrap Go.IntKind.i64 ((4 : Int) * x11))) (Int.toNat (Go.IntKind.wrap Go.IntKind.i64 ((Go.IntKind.wrap Go.IntKind.i64 ((4 : Int) * x11)) + (4 : Int))))) 3 (0 : UInt8))) : Nat) : Int)))) (Go.IntKind.wrap Go.IntKind.i64 (x11 + (1 : Int))))
 (none))
 (none))
 (none))
 (none))
 (none))
 (none))
 (none))
 (none))
 (k0 w)

def z6b (N : Nat) (block : (List UInt8)) (x2 : (List Int)) (w : (List Int)) (x11 : Int) (k0 : (List Int) -> Option (List Int)) : Option (List Int) :=
 iter (fun (v : ((List Int) × Int)) r => z69 N block x2 v.1 v.2 (fun w x11 => (r (w, x11))) k0) N (w, x11)

def zau (N : Nat) (i : ((List UInt8) × (List Int))) (v : ((List Int) × Int)) (r : ((List Int) × Int) -> Option (List Int)) (K : Ex -> List A -> Option (List Int)) : Option (List Int) :=
 z69 N i.1 i.2 v.1 v.2 (fun w x11 => (r (w, x11))) (fun a1 => (K (.exit 0) (mkS [(2, .box (.arr 64 (.int .u32))), (0, .box (.arr 64 (.int .u32)))] 82 (i.2, a1, ()))))

def zas (N : Nat) : Hd (List Int) := fun st K => (unS [(0, .v .str), (1, .box (.arr 64 (.int .u32))), (0, .box (.arr 64 (.int .u32))), (7, .v (.int .i64))] 74 (restr [11, 0, 3, 2] 0 st)).bind fun x => iter (fun v r => zau N ((fun x => (x.1, x.2.1)) x) v r K) N ((fun x => (x.2.2.1, x.2.2.2.1)) x)

def zho (N : Nat) : Tab (List Int) := []

theorem zgu {N : Nat} {c : Ctx} (hb : Base Go.Proofs.Tryd.prog (z3f N) c) : z13 Go.Proofs.Tryd.prog c (zg z23 [0, 1, 0, 1, 1]) (zas N) :=
  z3e (s := [(0, .v .str), (1, .box (.arr 64 (.int .u32))), (0, .box (.arr 64 (.int .u32))), (7, .v (.int .i64))]) (m := 74) (zau N) [11, 0, 3, 2] N (fun x => (x.1, x.2.1)) (fun x => (x.2.2.1, x.2.2.2.1)) (fun i v => (i.1, i.2, v.1, v.2, ())) (fun _ => rfl) (zj hb N (zho N) z53 z23 TabOk.nil [0, 0, 1, 0, 1, 1] _ rfl) (fun i v r K => by kernel_rfl)

def z68 (N : Nat) (x2 : (List Int)) (w : (List Int)) (t : Int) (rec : (List Int) -> Int -> Option (List Int)) (k0 : (List Int) -> Option (List Int)) : Option (List Int) :=
 cond (decide (t < (64 : Int)))
 (cond (Go.Lift.inR (Go.IntKind.wrap Go.IntKind.i64 (t - (15 : Int))) 64)
 (cond (decide ((Int.toNat (Go.IntKind.wrap Go.IntKind.i64 (t - (15 : Int)))) < (List.length w)))
 (cond (Go.Lift.inR (Go.IntKind.wrap Go.IntKind.i64 (t - (2 : Int))) 64)
 (cond (decide ((Int.toNat (Go.IntKind.wrap Go.IntKind.i64 (t - (2 : Int)))) < (List.length w)))
 (cond (Go.Lift.inR (Go.IntKind.wrap Go.IntKind.i64 (t - (7 : Int))) 64)
 (cond (decide ((Int.toNat (Go.IntKind.wrap Go.IntKind.i64 (t - (7 : Int)))) < (List.length w)))
 (cond (Go.Lift.inR (Go.IntKind.wrap Go.IntKind.i64 (t - (16 : Int))) 64)
 (cond (decide ((Int.toNat (Go.IntKind.wrap Go.IntKind.i64 (t - (16 : Int)))) < (List.length w)))
 (cond (Go.Lift.inR t 64)
 (cond (decide ((Int.toNat t) < (List.length w)))
 (rec (List.set w (Int.toNat t) (Go.IntKind.wrap Go.IntKind.u32 ((Go.IntKind.wrap Go.IntKind.u32 ((Go.IntKind.wrap Go.IntKind.u32 ((Go.Lift.bitsOp Go.BinOp.xor Go.IntKind.u32 (Go.Lift.bitsOp Go.BinOp.xor Go.IntKind.u32 (Go.Lift.bitsOp Go.BinOp.or Go.IntKind.u32 (Go.Lift.shlI Go.IntKind.u32 (List.getD w (Int.toNat (Go.IntKind.wrap Go.IntKind.i64 (t - (2 : Int)))) (0 : Int)) (Go.Lift.bitsOp Go.BinOp.and Go.IntKind.u64 (Go.IntKind.wrap Go.IntKind.u64 (Go.IntKind.wrap Go.IntKind.i64 ((0 : Int) - (17 : Int)))) (31 : Int))) (Go.Lift.shrI Go.IntKind.u32 (List.getD w (Int.toNat (Go.IntKind.wrap Go.IntKind.i64 (t - (2 : Int)))) (0 : Int)) (Go.IntKind.wrap Go.IntKind.u64 ((32 : Int) - (Go.Lift.bitsOp Go.BinOp.and Go.IntKind.u64 (Go.IntKind.wrap Go.IntKind.u64 (Go.IntKind.wrap Go.IntKind.i64 ((0 : Int) - (17 : Int)))) (31 : Int)))))) (Go.Lift.bitsOp Go.BinOp.or Go.IntKind.u32 (Go.Lift.shlI Go.IntKind.u32 (List.getD w (Int.toNat (Go.IntKind.wrap Go.IntKind.i64 (t - (2 : Int)))) (0 : Int)) (Go.Lift.bitsOp Go.BinOp.and Go.IntKind.u64 (Go.IntKind.wrap Go.IntKind.u64 (Go.IntKind.wrap Go.IntKind.i64 ((0 : Int) - (19 : Int)))) (31 : Int))) (Go.Lift.shrI Go.IntKind.u32 (List.getD w (Int.toNat (Go.IntKind.wrap Go.IntKind.i64 (t - (2 : Int)))) (0 : Int)) (Go.IntKind.wrap Go.IntKind.u64 ((32 : Int) - (Go.Lift.bitsOp Go.BinOp.and Go.IntKind.u64 (Go.IntKind.wrap Go.IntKind.u64 (Go.IntKind.wrap Go.IntKind.i64 ((0 : Int) - (19 : Int)))) (31 : Int))))))) (Go.Lift.shrI Go.IntKind.u32 (List.getD w (Int.toNat (Go.IntKind.wrap Go.IntKind.i64 (t - (2 : Int)))) (0 : Int)) (10 : Int))) + (List.getD w (Int.toNat (Go.IntKind.wrap Go.IntKind.i64 (t - (7 : Int)))) (0 : Int)))) + (Go.Lift.bitsOp Go.BinOp.xor Go.IntKind.u32 (Go.Lift.bitsOp Go.BinOp.xor Go.IntKind.u32 (Go.Lift.bitsOp Go.BinOp.or Go.IntKind.u32 (Go.Lift.shlI Go.IntKind.u32 (List.getD w (Int.toNat (Go.IntKind.wrap Go.IntKind.i64 (t - (15 : Int)))) (0 : Int)) (Go.Lift.bitsOp Go.BinOp.and Go.IntKind.u64 (Go.IntKind.wrap Go.IntKind.u64 (Go.IntKind.wrap Go.IntKind.i64 ((0 : Int) - (7 : Int)))) (31 : Int))) (Go.Lift.shrI Go.IntKind.u32 (List.getD w (Int.toNat (Go.IntKind.wrap Go.IntKind.i64 (t - (15 : Int)))) (0 : Int)) (Go.IntKind.wrap Go.IntKind.u64 ((32 : Int) - (Go.Lift.bitsOp Go.BinOp.and Go.IntKind.u64 (Go.IntKind.wrap Go.IntKind.u64 (Go.IntKind.wrap Go.IntKind.i64 ((0 : Int) - (7 : Int)))) (31 : Int)))))) (Go.Lift.bitsOp Go.BinOp.or Go.IntKind.u32 (Go.Lift.shlI Go.IntKind.u32 (List.getD w (Int.toNat (Go.IntKind.wrap Go.IntKind.i64 (t - (15 : Int)))) (0 : Int)) (Go.Lift.bitsOp Go.BinOp.and Go.IntKind.u64 (Go.IntKind.wrap Go.IntKind.u64 (Go.IntKind.wrap Go.IntKind.i64 ((0 : Int) - (18 : Int)))) (31 : Int))) (Go.Lift.shrI Go.IntKind.u32 (List.getD w (Int.toNat (Go.IntKind.wrap Go.IntKind.i64 (t - (15 : Int)))) (0 : Int)) (Go.IntKind.wrap Go.IntKind.u64 ((32 : Int) - (Go.Lift.bitsOp Go.BinOp.and Go.IntKind.u64 (Go.IntKind.wrap Go.IntKind.u64 (Go.IntKind.wrap Go.IntKind.i64 ((0 : Int) - (18 : Int)))) (31 : Int))))))) (Go.Lift.shrI Go.IntKind.u32 (List.getD w (Int.toNat (Go.IntKind.wrap Go.IntKind.i64 (t - (15 : Int)))) (0 : Int)) (3 : Int))))) + (List.getD w (Int.toNat (Go.IntKind.wrap Go.IntKind.i64 (t - (16 : Int)))) (0 : Int))))) (Go.IntKind.wrap Go.IntKind.i64 (t + (1 : Int))))
 (none))
 (none))
 (none))
 (none))
 (none))
 (none))
 (none))
 (none))
 (none))
 (none))
 (k0 w)

def z6a (N : Nat) (x2 : (List Int)) (w : (List Int)) (t : Int) (k0 : (List Int) -> Option (List Int)) : Option (List Int) :=
 iter (fun (v : ((List Int) × Int)) r => z68 N x2 v.1 v.2 (fun w t => (r (w, t))) k0) N (w, t)

def zat (N : Nat) (i : (List Int)) (v : ((List Int) × Int)) (r : ((List Int) × Int) -> Option (List Int)) (K : Ex -> List A -> Option (List Int)) : Option (List Int) :=
 z68 N i v.1 v.2 (fun w t => (r (w, t))) (fun a1 => (K (.exit 2) (mkS [(2, .box (.arr 64 (.int .u32))), (0, .box (.arr 64 (.int .u32)))] 82 (i, a1, ()))))

def zar (N : Nat) : Hd (List Int) := fun st K => (unS [(2, .box (.arr 64 (.int .u32))), (0, .box (.arr 64 (.int .u32))), (2, .v (.int .i64))] 79 (restr [6, 3, 2] 0 st)).bind fun x => iter (fun v r => zat N ((fun x => x.1) x) v r K) N ((fun x => (x.2.1, x.2.2.1)) x)

def zhn (N : Nat) : Tab (List Int) := []

theorem zgt {N : Nat} {c : Ctx} (hb : Base Go.Proofs.Tryd.prog (z3f N) c) : z13 Go.Proofs.Tryd.prog c (zg z23 [0, 1, 0, 1, 1, 1]) (zar N) :=
  z3e (s := [(2, .box (.arr 64 (.int .u32))), (0, .box (.arr 64 (.int .u32))), (2, .v (.int .i64))]) (m := 79) (zat N) [6, 3, 2] N (fun x => x.1) (fun x => (x.2.1, x.2.2.1)) (fun i v => (i, v.1, v.2, ())) (fun _ => rfl) (zj hb N (zhn N) z53 z23 TabOk.nil [0, 0, 1, 0, 1, 1, 1] _ rfl) (fun i v r K => by kernel_rfl)

def z7s (N : Nat) (block : (List UInt8)) : Option (List Int) :=
 z6b N block ((0 : Int) :: (0 : Int) :: (0 : Int) :: (0 : Int) :: (0 : Int) :: (0 : Int) :: (0 : Int) :: (0 : Int) :: (0 : Int) :: (0 : Int) :: (0 : Int) :: (0 : Int) :: (0 : Int) :: (0 : Int) :: (0 : Int) :: (0 : Int) :: (0 : Int) :: (0 : Int) :: (0 : Int) :: (0 : Int) :: (0 : Int) :: (0 : Int) :: (0 : Int) :: (0 : Int) :: (0 : Int) :: (0 : Int) :: (0 : Int) :: (0 : Int) :: (0 : Int) :: (0 : Int) :: (0 : Int) :: (0 : Int) :: (0 : Int) :: (0 : Int) :: (0 : Int) :: (0 : Int) :: (0 : Int) :: (0 : Int) :: (0 : Int) :: (0 : Int) :: (0 : Int) :: (0 : Int) :: (0 : Int) :: (0 : Int) :: (0 : Int) :: (0 : Int) :: (0 : Int) :: (0 : Int) :: (0 : Int) :: (0 : Int) :: (0 : Int) :: (0 : Int) :: (0 : Int) :: (0 : Int) :: (0 : Int) :: (0 : Int) :: (0 : Int) :: (0 : Int) :: (0 : Int) :: (0 : Int) :: (0 : Int) :: (0 : Int) :: (0 : Int) :: (0 : Int) :: ([] : List Int)) ((0 : Int) :: (0 : Int) :: (0 : Int) :: (0 : Int) :: (0 : Int) :: (0 : Int) :: (0 : Int) :: (0 : Int) :: (0 : Int) :: (0 : Int) :: (0 : Int) :: (0 : Int) :: (0 : Int) :: (0 : Int) :: (0 : Int) :: (0 : Int) :: (0 : Int) :: (0 : Int) :: (0 : Int) :: (0 : Int) :: (0 : Int) :: (0 : Int) :: (0 : Int) :: (0 : Int) :: (0 : Int) :: (0 : Int) :: (0 : Int) :: (0 : Int) :: (0 : Int) :: (0 : Int) :: (0 : Int) :: (0 : Int) :: (0 : Int) :: (0 : Int) :: (0 : Int) :: (0 : Int) :: (0 : Int) :: (0 : Int) :: (0 : Int) :: (0 : Int) :: (0 : Int) :: (0 : Int) :: (0 : Int) :: (0 : Int) :: (0 : Int) :: (0 : Int) :: (0 : Int) :: (0 : Int) :: (0 : Int) :: (0 : Int) :: (0 : Int) :: (0 : Int) :: (0 : Int) :: (0 : Int) :: (0 : Int) :: (0 : Int) :: (0 : Int) :: (0 : Int) :: (0 : Int) :: (0 : Int) :: (0 : Int) :: (0 : Int) :: (0 : Int) :: (0 : Int) :: ([] : List Int)) (0 : Int)
 (fun w => z6a N ((0 : Int) :: (0 : Int) :: (0 : Int) :: (0 : Int) :: (0 : Int) :: (0 : Int) :: (0 : Int) :: (0 : Int) :: (0 : Int) :: (0 : Int) :: (0 : Int) :: (0 : Int) :: (0 : Int) :: (0 : Int) :: (0 : Int) :: (0 : Int) :: (0 : Int) :: (0 : Int) :: (0 : Int) :: (0 : Int) :: (0 : Int) :: (0 : Int) :: (0 : Int) :: (0 : Int) :: (0 : Int) :: (0 : Int) :: (0 : Int) :: (0 : Int) :: (0 : Int) :: (0 : Int) :: (0 : Int) :: (0 : Int) :: (0 : Int) :: (0 : Int) :: (0 : Int) :: (0 : Int) :: (0 : Int) :: (0 : Int) :: (0 : Int) :: (0 : Int) :: (0 : Int) :: (0 : Int) :: (0 : Int) :: (0 : Int) :: (0 : Int) :: (0 : Int) :: (0 : Int) :: (0 : Int) :: (0 : Int) :: (0 : Int) :: (0 : Int) :: (0 : Int) :: (0 : Int) :: (0 : Int) :: (0 : Int) :: (0 : Int) :: (0 : Int) :: (0 : Int) :: (0 : Int) :: (0 : Int) :: (0 : Int) :: (0 : Int) :: (0 : Int) :: (0 : Int) :: ([] : List Int)) w (16 : Int)
 (fun w1 => some w1))

def zd6 (N : Nat) : Tab (List Int) := [([0, 1, 0, 1, 1], zas N), ([0, 1, 0, 1, 1, 1], zar N)]

theorem zfh (N : Nat) (x : z2i [(0, .v .str)]) : zak (z3f N) N (zd6 N) z53 Go.Proofs.Tryd.f16 (mkS [(0, .v .str)] 0 x) (z56 (.v (.arr 64 (.int .u32))) 1) = z7s N x.1 := by kernel_rfl

def z9v (N : Nat) : List A -> Res := z1y [(0, .v .str)] (fun x => z7s N x.1) (zdc (.v (.arr 64 (.int .u32))) 1)

theorem zhp (N : Nat) : Contract Go.Proofs.Tryd.prog glob 16 (z9v N) :=
  Contract.of (E := z3f N) (H := zd6 N) (L := z53) (N := N) (body := z23) (K := (z56 (.v (.arr 64 (.int .u32))) 1)) (zgv N) Go.Proofs.Tryd.func16 (by kernel_rfl) (by decide) (fun _ hb => (TabOk.cons (zgu hb) (TabOk.cons (zgt hb) TabOk.nil))) (fun x y h => by rw [zfh]; exact h) (z1k (s := (.v (.arr 64 (.int .u32)))) (m := 1))

def zjj : Code := (Go.Proofs.Tryd.f17.body).getD .skip

def zhr : List (List Nat × List Nat) := [([0], [2, 1, 4]), ([0, 1], [12, 9, 10, 11, 1, 5, 6, 7, 8, 4]), ([0, 1, 1], [5, 6, 7, 13, 8, 9, 10, 11, 4]), ([0, 1, 1, 1], [13, 14, 5, 6, 7, 8, 9, 10, 11, 4]), ([0, 1, 1, 1, 1], [4]), ([1, 1, 1, 1, 1], [4])]

def zdi (N : Nat) : Env := z3v tys glob [(23, zdj N)] [] [] [] false [] []

theorem zl1 (N : Nat) : EnvOk Go.Proofs.Tryd.prog (zdi N) := zu mixed z1x (FnsOk.cons (zk2 N) (FnsOk.nil)) (ItsOk.nil)

def zav (N : Nat) (v_ : (List Int)) (k : Int) : Option (List Int) :=
 cond (decide (0 < (List.length v_)))
 (cond (decide (1 < (List.length v_)))
 (cond (decide (2 < (List.length v_)))
 (cond (decide (3 < (List.length v_)))
 (cond (decide (4 < (List.length v_)))
 (cond (decide (5 < (List.length v_)))
 (cond (decide (6 < (List.length v_)))
 (cond (decide (7 < (List.length v_)))
 (some ([(Go.IntKind.wrap Go.IntKind.u32 ((Go.IntKind.wrap Go.IntKind.u32 ((Go.IntKind.wrap Go.IntKind.u32 ((Go.IntKind.wrap Go.IntKind.u32 ((List.getD v_ 7 (0 : Int)) + (Go.Lift.bitsOp Go.BinOp.xor Go.IntKind.u32 (Go.Lift.bitsOp Go.BinOp.xor Go.IntKind.u32 (Go.Lift.bitsOp Go.BinOp.or Go.IntKind.u32 (Go.Lift.shlI Go.IntKind.u32 (List.getD v_ 4 (0 : Int)) (Go.Lift.bitsOp Go.BinOp.and Go.IntKind.u64 (Go.IntKind.wrap Go.IntKind.u64 (Go.IntKind.wrap Go.IntKind.i64 ((0 : Int) - (6 : Int)))) (31 : Int))) (Go.Lift.shrI Go.IntKind.u32 (List.getD v_ 4 (0 : Int)) (Go.IntKind.wrap Go.IntKind.u64 ((32 : Int) - (Go.Lift.bitsOp Go.BinOp.and Go.IntKind.u64 (Go.IntKind.wrap Go.IntKind.u64 (Go.IntKind.wrap Go.IntKind.i64 ((0 : Int) - (6 : Int)))) (31 : Int)))))) (Go.Lift.bitsOp Go.BinOp.or Go.IntKind.u32 (Go.Lift.shlI Go.IntKind.u32 (List.getD v_ 4 (0 : Int)) (Go.Lift.bitsOp Go.BinOp.and Go.IntKind.u64 (Go.IntKind.wrap Go.IntKind.u64 (Go.IntKind.wrap Go.IntKind.i64 ((0 : Int) - (11 : Int)))) (31 : Int))) (Go.Lift.shrI Go.IntKind.u32 (List.getD v_ 4 (0 : Int)) (Go.IntKind.wrap Go.IntKind.u64 ((32 : Int) - (Go.Lift.bitsOp Go.BinOp.and Go.IntKind.u64 (Go.IntKind.wrap Go.IntKind.u64 (Go.IntKind.wrap Go.IntKind.i64 ((0 : Int) - (11 : Int)))) (31 : Int))))))) (Go.Lift.bitsOp Go.BinOp.or Go.IntKind.u32 (Go.Lift.shlI Go.IntKind.u32 (List.getD v_ 4 (0 : Int)) (Go.Lift.bitsOp Go.BinOp.and Go.IntKind.u64 (Go.IntKind.wrap Go.IntKind.u64 (Go.IntKind.wrap Go.IntKind.i64 ((0 : Int) - (25 : Int)))) (31 : Int))) (Go.Lift.shrI Go.IntKind.u32 (List.getD v_ 4 (0 : Int)) (Go.IntKind.wrap Go.IntKind.u64 ((32 : Int) - (Go.Lift.bitsOp Go.BinOp.and Go.IntKind.u64 (Go.IntKind.wrap Go.IntKind.u64 (Go.IntKind.wrap Go.IntKind.i64 ((0 : Int) - (25 : Int)))) (31 : Int))))))))) + (Go.Lift.bitsOp Go.BinOp.xor Go.IntKind.u32 (Go.Lift.bitsOp Go.BinOp.and Go.IntKind.u32 (List.getD v_ 4 (0 : Int)) (List.getD v_ 5 (0 : Int))) (Go.Lift.bitsOp Go.BinOp.and Go.IntKind.u32 (Go.Lift.bitsOp Go.BinOp.xor Go.IntKind.u32 (if ((Go.IntKind.signed Go.IntKind.u32) = true) then (-(1 : Int)) else (Go.IntKind.max Go.IntKind.u32)) (List.getD v_ 4 (0 : Int))) (List.getD v_ 6 (0 : Int)))))) + k)) + (Go.IntKind.wrap Go.IntKind.u32 ((Go.Lift.bitsOp Go.BinOp.xor Go.IntKind.u32 (Go.Lift.bitsOp Go.BinOp.xor Go.IntKind.u32 (Go.Lift.bitsOp Go.BinOp.or Go.IntKind.u32 (Go.Lift.shlI Go.IntKind.u32 (List.getD v_ 0 (0 : Int)) (Go.Lift.bitsOp Go.BinOp.and Go.IntKind.u64 (Go.IntKind.wrap Go.IntKind.u64 (Go.IntKind.wrap Go.IntKind.i64 ((0 : Int) - (2 : Int)))) (31 : Int))) (Go.Lift.shrI Go.IntKind.u32 (List.getD v_ 0 (0 : Int)) (Go.IntKind.wrap Go.IntKind.u64 ((32 : Int) - (Go.Lift.bitsOp Go.BinOp.and Go.IntKind.u64 (Go.IntKind.wrap Go.IntKind.u64 (Go.IntKind.wrap Go.IntKind.i64 ((0 : Int) - (2 : Int)))) (31 : Int)))))) (Go.Lift.bitsOp Go.BinOp.or Go.IntKind.u32 (Go.Lift.shlI Go.IntKind.u32 (List.getD v_ 0 (0 : Int)) (Go.Lift.bitsOp Go.BinOp.and Go.IntKind.u64 (Go.IntKind.wrap Go.IntKind.u64 (Go.IntKind.wrap Go.IntKind.i64 ((0 : Int) - (13 : Int)))) (31 : Int))) (Go.Lift.shrI Go.IntKind.u32 (List.getD v_ 0 (0 : Int)) (Go.IntKind.wrap Go.IntKind.u64 ((32 : Int) - (Go.Lift.bitsOp Go.BinOp.and Go.IntKind.u64 (Go.IntKind.wrap Go.IntKind.u64 (Go.IntKind.wrap Go.IntKind.i64 ((0 : Int) - (13 : Int)))) (31 : Int))))))) (Go.Lift.bitsOp Go.BinOp.or Go.IntKind.u32 (Go.Lift.shlI Go.IntKind.u32 (List.getD v_ 0 (0 : Int)) (Go.Lift.bitsOp Go.BinOp.and Go.IntKind.u64 (Go.IntKind.wrap Go.IntKind.u64 (Go.IntKind.wrap Go.IntKind.i64 ((0 : Int) - (22 : Int)))) (31 : Int))) (Go.Lift.shrI Go.IntKind.u32 (List.getD v_ 0 (0 : Int)) (Go.IntKind.wrap Go.IntKind.u64 ((32 : Int) - (Go.Lift.bitsOp Go.BinOp.and Go.IntKind.u64 (Go.IntKind.wrap Go.IntKind.u64 (Go.IntKind.wrap Go.IntKind.i64 ((0 : Int) - (22 : Int)))) (31 : Int))))))) + (Go.Lift.bitsOp Go.BinOp.xor Go.IntKind.u32 (Go.Lift.bitsOp Go.BinOp.xor Go.IntKind.u32 (Go.Lift.bitsOp Go.BinOp.and Go.IntKind.u32 (List.getD v_ 0 (0 : Int)) (List.getD v_ 1 (0 : Int))) (Go.Lift.bitsOp Go.BinOp.and Go.IntKind.u32 (List.getD v_ 0 (0 : Int)) (List.getD v_ 2 (0 : Int)))) (Go.Lift.bitsOp Go.BinOp.and Go.IntKind.u32 (List.getD v_ 1 (0 : Int)) (List.getD v_ 2 (0 : Int)))))))), (List.getD v_ 0 (0 : Int)), (List.getD v_ 1 (0 : Int)), (List.getD v_ 2 (0 : Int)), (Go.IntKind.wrap Go.IntKind.u32 ((List.getD v_ 3 (0 : Int)) + (Go.IntKind.wrap Go.IntKind.u32 ((Go.IntKind.wrap Go.IntKind.u32 ((Go.IntKind.wrap Go.IntKind.u32 ((List.getD v_ 7 (0 : Int)) + (Go.Lift.bitsOp Go.BinOp.xor Go.IntKind.u32 (Go.Lift.bitsOp Go.BinOp.xor Go.IntKind.u32 (Go.Lift.bitsOp Go.BinOp.or Go.IntKind.u32 (Go.Lift.shlI Go.IntKind.u32 (List.getD v_ 4 (0 : Int)) (Go.Lift.bitsOp Go.BinOp.and Go.IntKind.u64 (Go.IntKind.wrap Go.IntKind.u64 (Go.IntKind.wrap Go.IntKind.i64 ((0 : Int) - (6 : Int)))) (31 : Int))) (Go.Lift.shrI Go.IntKind.u32 (List.getD v_ 4 (0 : Int)) (Go.IntKind.wrap Go.IntKind.u64 ((32 : Int) - (Go.Lift.bitsOp Go.BinOp.and Go.IntKind.u64 (Go.IntKind.wrap Go.IntKind.u64 (Go.IntKind.wrap Go.IntKind.i64 ((0 : Int) - (6 : Int)))) (31 : Int)))))) (Go.Lift.bitsOp Go.BinOp.or Go.IntKind.u32 (Go.Lift.shlI Go.IntKind.u32 (List.getD v_ 4 (0 : Int)) (Go.Lift.bitsOp Go.BinOp.and Go.IntKind.u64 (Go.IntKind.wrap Go.IntKind.u64 (Go.IntKind.wrap Go.IntKind.i64 ((0 : Int) - (11 : Int)))) (31 : Int))) (Go.Lift.shrI Go.IntKind.u32 (List.getD v_ 4 (0 : Int)) (Go.IntKind.wrap Go.IntKind.u64 ((32 : Int) - (Go.Lift.bitsOp Go.BinOp.and Go.IntKind.u64 (Go.IntKind.wrap Go.IntKind.u64 (Go.IntKind.wrap Go.IntKind.i64 ((0 : Int) - (11 : Int)))) (31 : Int))))))) (Go.Lift.bitsOp Go.BinOp.or Go.IntKind.u32 (Go.Lift.shlI Go.IntKind.u32 (List.getD v_ 4 (0 : Int)) (Go.Lift.bitsOp Go.BinOp.and Go.IntKind.u64 (Go.IntKind.wrap Go.IntKind.u64 (Go.IntKind.wrap Go.IntKind.i64 ((0 : Int) - (25 : Int)))) (31 : Int))) (Go.Lift.shrI Go.IntKind.u32 (List.getD v_ 4 (0 : Int)) (Go.IntKind.wrap Go.IntKind.u64 ((32 : Int) - (Go.Lift.bitsOp Go.BinOp.and Go.IntKind.u64 (Go.IntKind.wrap Go.IntKind.u64 (Go.IntKind.wrap Go.IntKind.i64 ((0 : Int) - (25 : Int)))) (31 : Int))))))))) + (Go.Lift.bitsOp Go.BinOp.xor Go.IntKind.u32 (Go.Lift.bitsOp Go.BinOp.and Go.IntKind.u32 (List.getD v_ 4 (0 : Int)) (List.getD v_ 5 (0 : Int))) (Go.Lift.bitsOp Go.BinOp.and Go.IntKind.u32 (Go.Lift.bitsOp Go.BinOp.xor Go.IntKind.u32 (if ((Go.IntKind.signed Go.IntKind.u32) = true) then (-(1 : Int)) else (Go.IntKind.max Go.IntKind.u32)) (List.getD v_ 4 (0 : Int))) (List.getD v_ 6 (0 : Int)))))) + k)))), (List.getD v_ 4 (0 : Int)), (List.getD v_ 5 (0 : Int)), (List.getD v_ 6 (0 : Int))] : List Int))
 (none))
 (none))
 (none))
 (none))
 (none))
 (none))
 (none))
 (none)

def zhq (N : Nat) : Tab (List Int) := []

theorem zji (N : Nat) (x : z2i [(0, .v (.arr 8 (.int .u32))), (0, .v (.int .u32))]) : zak (zdi N) N (zhq N) zhr Go.Proofs.Tryd.f17 (mkS [(0, .v (.arr 8 (.int .u32))), (0, .v (.int .u32))] 0 x) (z56 (.v (.arr 8 (.int .u32))) 2) = zav N x.1 x.2.1 := by kernel_rfl

def zej (N : Nat) : List A -> Res := z1y [(0, .v (.arr 8 (.int .u32))), (0, .v (.int .u32))] (fun x => zav N x.1 x.2.1) (zdc (.v (.arr 8 (.int .u32))) 2)

theorem zlz (N : Nat) : Contract Go.Proofs.Tryd.prog glob 17 (zej N) :=
  Contract.of (E := zdi N) (H := zhq N) (L := zhr) (N := N) (body := zjj) (K := (z56 (.v (.arr 8 (.int .u32))) 2)) (zl1 N) Go.Proofs.Tryd.func17 (by kernel_rfl) (by decide) (fun _ hb => TabOk.nil) (fun x y h => by rw [zji]; exact h) (z1k (s := (.v (.arr 8 (.int .u32)))) (m := 2))

def z4f : Code := (Go.Proofs.Tryd.f5.body).getD .skip

def zc7 : List (List Nat × List Nat) := [([0], [1, 2, 4]), ([0, 0, 1], [11, 2, 4, 1]), ([1, 0, 1], [1, 2, 4]), ([0, 0, 1, 0, 1], [4]), ([1, 0, 1, 0, 1], [4]), ([0, 1, 1], [2, 5, 4]), ([0, 1, 1, 1], [6, 5, 2, 4]), ([0, 0, 1, 1, 1, 1], [16, 6, 5, 2, 4]), ([0, 1, 0, 1, 1, 1, 1], [16, 6, 5, 2, 4]), ([0, 0, 0, 1, 0, 1, 1, 1, 1], [17, 16, 6, 5, 2, 4]), ([0, 1, 0, 0, 1, 0, 1, 1, 1, 1], [16, 6, 5, 2, 4]), ([1, 0, 1, 0, 0, 1, 0, 1, 1, 1, 1], [6, 2, 4]), ([0, 0, 0, 1, 1, 0, 0, 1, 0, 1, 1, 1, 1], [6, 7, 5, 16, 2, 4]), ([1, 0, 0, 1, 1, 0, 0, 1, 0, 1, 1, 1, 1], [16, 6, 5, 2, 4]), ([0, 1, 1, 0, 0, 1, 0, 1, 1, 1, 1], [16, 6, 5, 2, 4]), ([1, 1, 1, 0, 0, 1, 0, 1, 1, 1, 1], [16, 6, 5, 2, 4]), ([1, 0, 1, 1, 1, 1], [6, 2, 4]), ([0, 0, 1, 1, 1, 1, 1], [29, 6, 2, 4]), ([0, 1, 0, 1, 1, 1, 1, 1], [29, 6, 2, 4]), ([0, 0, 0, 1, 0, 1, 1, 1, 1, 1], [30, 29, 6, 2, 4]), ([0, 1, 0, 0, 1, 0, 1, 1, 1, 1, 1], [29, 6, 2, 4]), ([1, 0, 1, 0, 0, 1, 0, 1, 1, 1, 1, 1], [6, 4]), ([0, 0, 0, 1, 1, 0, 0, 1, 0, 1, 1, 1, 1, 1], [8, 6, 2, 29, 4]), ([1, 0, 0, 1, 1, 0, 0, 1, 0, 1, 1, 1, 1, 1], [29, 6, 2, 4]), ([0, 1, 1, 0, 0, 1, 0, 1, 1, 1, 1, 1], [29, 6, 2, 4]), ([1, 1, 1, 0, 0, 1, 0, 1, 1, 1, 1, 1], [29, 6, 2, 4]), ([1, 0, 1, 1, 1, 1, 1], [6, 4]), ([0, 1, 1, 1, 1, 1, 1], [4]), ([1, 1, 1, 1, 1, 1, 1], [4])]

def z8k (N : Nat) : Env := z3v tys glob [(17, zej N), (16, z9v N)] [] [] [] false [] []

theorem zmc (N : Nat) : EnvOk Go.Proofs.Tryd.prog (z8k N) := zu mixed z1x (FnsOk.cons (zlz N) (FnsOk.cons (zhp N) (FnsOk.nil))) (ItsOk.nil)

def zdk (N : Nat) (h : (List Int)) (x4 : (List Int)) (w : (List Int)) (v_ : (List Int)) (x16 : Int) (rec : (List Int) -> Int -> Option (List Int)) (k0 : (List Int) -> Option (List Int)) : Option (List Int) :=
 cond (decide (x16 < (64 : Int)))
 (cond (Go.Lift.inR x16 64)
 (cond (Go.Lift.inR x16 64)
 (cond (decide ((Int.toNat x16) < (List.length w)))
 ((zav N v_ (Go.IntKind.wrap Go.IntKind.u32 ((List.getD glob0 (Int.toNat x16) (0 : Int)) + (List.getD w (Int.toNat x16) (0 : Int))))).bind fun y =>
 rec y (Go.IntKind.wrap Go.IntKind.i64 (x16 + (1 : Int))))
 (none))
 (none))
 (none))
 (k0 v_)

def zdl (N : Nat) (h : (List Int)) (x4 : (List Int)) (w : (List Int)) (v_ : (List Int)) (x16 : Int) (k0 : (List Int) -> Option (List Int)) : Option (List Int) :=
 iter (fun (v : ((List Int) × Int)) r => zdk N h x4 w v.1 v.2 (fun v_ x16 => (r (v_, x16))) k0) N (v_, x16)

def zi2 (N : Nat) (i : ((List Int) × (List Int) × (List Int))) (v : ((List Int) × Int)) (r : ((List Int) × Int) -> Option (List Int)) (K : Ex -> List A -> Option (List Int)) : Option (List Int) :=
 zdk N i.1 i.2.1 i.2.2 v.1 v.2 (fun v_ x16 => (r (v_, x16))) (fun a2 => (K (.exit 0) (mkS [(2, .box (.arr 8 (.int .u32))), (1, .box (.arr 8 (.int .u32))), (1, .box (.arr 8 (.int .u32)))] 35 (i.1, i.2.1, a2, ()))))

def zi0 (N : Nat) : Hd (List Int) := fun st K => (unS [(2, .box (.arr 8 (.int .u32))), (1, .box (.arr 8 (.int .u32))), (0, .box (.arr 64 (.int .u32))), (0, .box (.arr 8 (.int .u32))), (9, .v (.int .i64))] 25 (restr [16, 6, 5, 2, 4] 0 st)).bind fun x => iter (fun v r => zi2 N ((fun x => (x.1, x.2.1, x.2.2.1)) x) v r K) N ((fun x => (x.2.2.2.1, x.2.2.2.2.1)) x)

def znx (N : Nat) : Tab (List Int) := []

theorem zmb {N : Nat} {c : Ctx} (hb : Base Go.Proofs.Tryd.prog (z8k N) c) : z13 Go.Proofs.Tryd.prog c (zg z4f [0, 1, 0, 1, 1, 1, 1]) (zi0 N) :=
  z3e (s := [(2, .box (.arr 8 (.int .u32))), (1, .box (.arr 8 (.int .u32))), (0, .box (.arr 64 (.int .u32))), (0, .box (.arr 8 (.int .u32))), (9, .v (.int .i64))]) (m := 25) (zi2 N) [16, 6, 5, 2, 4] N (fun x => (x.1, x.2.1, x.2.2.1)) (fun x => (x.2.2.2.1, x.2.2.2.2.1)) (fun i v => (i.1, i.2.1, i.2.2, v.1, v.2, ())) (fun _ => rfl) (zj hb N (znx N) zc7 z4f TabOk.nil [0, 0, 1, 0, 1, 1, 1, 1] _ rfl) (fun i v r K => by kernel_rfl)

def zhx (N : Nat) (h : (List Int)) (x4 : (List Int)) (v_ : (List Int)) (x29 : Int) (rec : (List Int) -> Int -> Option (List Int)) (k0 : (List Int) -> Option (List Int)) : Option (List Int) :=
 cond (decide (x29 < (8 : Int)))
 (cond (Go.Lift.inR x29 8)
 (cond (decide ((Int.toNat x29) < (List.length v_)))
 (cond (Go.Lift.inR x29 8)
 (cond (decide ((Int.toNat x29) < (List.length h)))
 (cond (Go.Lift.inR x29 8)
 (cond (decide ((Int.toNat x29) < (List.length v_)))
 (rec (List.set v_ (Int.toNat x29) (Go.IntKind.wrap Go.IntKind.u32 ((List.getD v_ (Int.toNat x29) (0 : Int)) + (List.getD h (Int.toNat x29) (0 : Int))))) (Go.IntKind.wrap Go.IntKind.i64 (x29 + (1 : Int))))
 (none))
 (none))
 (none))
 (none))
 (none))
 (none))
 (k0 v_)

def zhy (N : Nat) (h : (List Int)) (x4 : (List Int)) (v_ : (List Int)) (x29 : Int) (k0 : (List Int) -> Option (List Int)) : Option (List Int) :=
 iter (fun (v : ((List Int) × Int)) r => zhx N h x4 v.1 v.2 (fun v_ x29 => (r (v_, x29))) k0) N (v_, x29)

def zi1 (N : Nat) (i : ((List Int) × (List Int))) (v : ((List Int) × Int)) (r : ((List Int) × Int) -> Option (List Int)) (K : Ex -> List A -> Option (List Int)) : Option (List Int) :=
 zhx N i.1 i.2 v.1 v.2 (fun v_ x29 => (r (v_, x29))) (fun a1 => (K (.exit 2) (mkS [(4, .box (.arr 8 (.int .u32))), (1, .box (.arr 8 (.int .u32)))] 35 (i.2, a1, ()))))

def zhz (N : Nat) : Hd (List Int) := fun st K => (unS [(2, .box (.arr 8 (.int .u32))), (1, .box (.arr 8 (.int .u32))), (1, .box (.arr 8 (.int .u32))), (22, .v (.int .i64))] 12 (restr [29, 6, 2, 4] 0 st)).bind fun x => iter (fun v r => zi1 N ((fun x => (x.1, x.2.1)) x) v r K) N ((fun x => (x.2.2.1, x.2.2.2.1)) x)

def znw (N : Nat) : Tab (List Int) := []

theorem zma {N : Nat} {c : Ctx} (hb : Base Go.Proofs.Tryd.prog (z8k N) c) : z13 Go.Proofs.Tryd.prog c (zg z4f [0, 1, 0, 1, 1, 1, 1, 1]) (zhz N) :=
  z3e (s := [(2, .box (.arr 8 (.int .u32))), (1, .box (.arr 8 (.int .u32))), (1, .box (.arr 8 (.int .u32))), (22, .v (.int .i64))]) (m := 12) (zi1 N) [29, 6, 2, 4] N (fun x => (x.1, x.2.1)) (fun x => (x.2.2.1, x.2.2.2.1)) (fun i v => (i.1, i.2, v.1, v.2, ())) (fun _ => rfl) (zj hb N (znw N) zc7 z4f TabOk.nil [0, 0, 1, 0, 1, 1, 1, 1, 1] _ rfl) (fun i v r K => by kernel_rfl)

def z2e (N : Nat) (h : (List Int)) (block : (List UInt8)) : Option (List Int) :=
 cond ((((List.length block) : Nat) : Int) != (64 : Int))
 (some h)
 ((z7s N block).bind fun y =>
 zdl N h ([(0 : Int), (0 : Int), (0 : Int), (0 : Int), (0 : Int), (0 : Int), (0 : Int), (0 : Int)] : List Int) y h (0 : Int)
 (fun v_ => zhy N h ([(0 : Int), (0 : Int), (0 : Int), (0 : Int), (0 : Int), (0 : Int), (0 : Int), (0 : Int)] : List Int) v_ (0 : Int)
 (fun v_1 => some v_1)))

def zk4 (N : Nat) : Tab (List Int) := [([0, 1, 0, 1, 1, 1, 1], zi0 N), ([0, 1, 0, 1, 1, 1, 1, 1], zhz N)]

theorem zl3 (N : Nat) (x : z2i [(0, .v (.arr 8 (.int .u32))), (0, .v .str)]) : zak (z8k N) N (zk4 N) zc7 Go.Proofs.Tryd.f5 (mkS [(0, .v (.arr 8 (.int .u32))), (0, .v .str)] 0 x) (z56 (.v (.arr 8 (.int .u32))) 2) = z2e N x.1 x.2.1 := by kernel_rfl

def zax (N : Nat) : List A -> Res := z1y [(0, .v (.arr 8 (.int .u32))), (0, .v .str)] (fun x => z2e N x.1 x.2.1) (zdc (.v (.arr 8 (.int .u32))) 2)

theorem zi3 (N : Nat) : Contract Go.Proofs.Tryd.prog glob 5 (zax N) :=
  Contract.of (E := z8k N) (H := zk4 N) (L := zc7) (N := N) (body := z4f) (K := (z56 (.v (.arr 8 (.int .u32))) 2)) (zmc N) Go.Proofs.Tryd.func5 (by kernel_rfl) (by decide) (fun _ hb => (TabOk.cons (zmb hb) (TabOk.cons (zma hb) TabOk.nil))) (fun x y h => by rw [zl3]; exact h) (z1k (s := (.v (.arr 8 (.int .u32)))) (m := 2))

def z85 : Code := (Go.Proofs.Tryd.f21.body).getD .skip

def zdh : List (List Nat × List Nat) := [([0], [1, 2, 4]), ([0, 0, 1], [5, 1, 2, 4]), ([0, 1, 0, 1], [5, 1, 2, 4]), ([0, 0, 0, 0, 1, 0, 1], [9, 2, 1, 5, 4]), ([1, 0, 0, 0, 1, 0, 1], [2, 1, 5, 4]), ([1, 1, 0, 0, 0, 1, 0, 1], [2, 4]), ([0, 0, 1, 0, 0, 1, 0, 1], [5, 1, 2, 4]), ([0, 1, 0, 0, 1, 0, 1], [5, 1, 2, 4]), ([1, 1, 0, 0, 1, 0, 1], [5, 1, 2, 4]), ([1, 0, 1], [2, 4]), ([0, 1, 1], [4]), ([1, 1, 1], [4])]

def z98 (N : Nat) : Env := z3v tys glob [(5, zax N)] [] [] [] false [] []

theorem zl0 (N : Nat) : EnvOk Go.Proofs.Tryd.prog (z98 N) := zu mixed z1x (FnsOk.cons (zi3 N) (FnsOk.nil)) (ItsOk.nil)

def zgc (N : Nat) (s : (List UInt8)) (x4 : (List Int)) (h : (List Int)) (i : Int) (rec : (List Int) -> Int -> Option (List Int)) (k0 : (List Int) -> Option (List Int)) : Option (List Int) :=
 cond (decide (i < (((List.length s) : Nat) : Int)))
 (cond (decide (((0 : Int) <= (Go.IntKind.wrap Go.IntKind.i64 (i + (64 : Int)))) /\ ((Go.IntKind.wrap Go.IntKind.i64 (i + (64 : Int))) <= (((List.length s) : Nat) : Int))))
 (cond (decide (((0 : Int) <= i) /\ (i <= (Go.IntKind.wrap Go.IntKind.i64 (i + (64 : Int))))))
 ((z2e N h (Go.Lift.cut s (Int.toNat i) (Int.toNat (Go.IntKind.wrap Go.IntKind.i64 (i + (64 : Int)))))).bind fun y =>
 rec y (Go.IntKind.wrap Go.IntKind.i64 (i + (64 : Int))))
 (none))
 (none))
 (k0 h)

def zly (N : Nat) (s : (List UInt8)) (h : (List Int)) (x4 : (List Int)) (i : Int) (k0 : (List Int) -> Option (List Int)) : Option (List Int) :=
 iter (fun (v : ((List Int) × Int)) r => zgc N s x4 v.1 v.2 (fun h i => (r (h, i))) k0) N (h, i)

def zge (N : Nat) (i : ((List UInt8) × (List Int))) (v : ((List Int) × Int)) (r : ((List Int) × Int) -> Option (List Int)) (K : Ex -> List A -> Option (List Int)) : Option (List Int) :=
 zgc N i.1 i.2 v.1 v.2 (fun h i => (r (h, i))) (fun a0 => (K (.exit 0) (mkS [(2, .box (.arr 8 (.int .u32))), (1, .box (.arr 8 (.int .u32)))] 15 (a0, i.2, ()))))

def zgd (N : Nat) : Hd (List Int) := fun st K => (unS [(1, .v .str), (0, .box (.arr 8 (.int .u32))), (1, .box (.arr 8 (.int .u32))), (0, .v (.int .i64))] 14 (restr [5, 1, 2, 4] 0 st)).bind fun x => iter (fun v r => zge N ((fun x => (x.1, x.2.2.1)) x) v r K) N ((fun x => (x.2.1, x.2.2.2.1)) x)

def zlx (N : Nat) : Tab (List Int) := []

theorem zkz {N : Nat} {c : Ctx} (hb : Base Go.Proofs.Tryd.prog (z98 N) c) : z13 Go.Proofs.Tryd.prog c (zg z85 [0, 1, 0, 1]) (zgd N) :=
  z3e (s := [(1, .v .str), (0, .box (.arr 8 (.int .u32))), (1, .box (.arr 8 (.int .u32))), (0, .v (.int .i64))]) (m := 14) (zge N) [5, 1, 2, 4] N (fun x => (x.1, x.2.2.1)) (fun x => (x.2.1, x.2.2.2.1)) (fun i v => (i.1, v.1, i.2, v.2, ())) (fun _ => rfl) (zj hb N (zlx N) zdh z85 TabOk.nil [0, 0, 1, 0, 1] _ rfl) (fun i v r K => by kernel_rfl)

def zaq (N : Nat) (h : (List Int)) (s : (List UInt8)) : Option (List Int) :=
 zly N s h ([(0 : Int), (0 : Int), (0 : Int), (0 : Int), (0 : Int), (0 : Int), (0 : Int), (0 : Int)] : List Int) (0 : Int)
 (fun h1 => some h1)

def zhm (N : Nat) : Tab (List Int) := [([0, 1, 0, 1], zgd N)]

theorem zjh (N : Nat) (x : z2i [(0, .v (.arr 8 (.int .u32))), (0, .v .str)]) : zak (z98 N) N (zhm N) zdh Go.Proofs.Tryd.f21 (mkS [(0, .v (.arr 8 (.int .u32))), (0, .v .str)] 0 x) (z56 (.v (.arr 8 (.int .u32))) 2) = zaq N x.1 x.2.1 := by kernel_rfl

def z35 (N : Nat) : List A -> Res := z1y [(0, .v (.arr 8 (.int .u32))), (0, .v .str)] (fun x => zaq N x.1 x.2.1) (zdc (.v (.arr 8 (.int .u32))) 2)

theorem z5b (N : Nat) : Contract Go.Proofs.Tryd.prog glob 21 (z35 N) :=
  Contract.of (E := z98 N) (H := zhm N) (L := zdh) (N := N) (body := z85) (K := (z56 (.v (.arr 8 (.int .u32))) 2)) (zl0 N) Go.Proofs.Tryd.func21 (by kernel_rfl) (by decide) (fun _ hb => (TabOk.cons (zkz hb) TabOk.nil)) (fun x y h => by rw [zjh]; exact h) (z1k (s := (.v (.arr 8 (.int .u32)))) (m := 2))

def z4u : Code := (Go.Proofs.Tryd.f12.body).getD .skip

def z86 : List (List Nat × List Nat) := [([0, 0], [14, 0, 1]), ([1, 0], [0, 1]), ([0, 1, 0], [0]), ([0, 1], [0, 1]), ([0, 1, 1], [4, 0]), ([0, 1, 1, 1], [0, 4, 5]), ([0, 1, 1, 1, 1], [0, 4, 5]), ([1, 1, 1, 1, 1], [0])]

def z55 (N : Nat) : Env := z3v tys glob [(21, z35 N)] [] [] [0] false [] []

theorem zh6 (N : Nat) : EnvOk Go.Proofs.Tryd.prog (z55 N) := zu mixed z1x (FnsOk.cons (z5b N) (FnsOk.nil)) (ItsOk.nil)

def zba (N : Nat) (h : (Bool × ((List Int) × ((List UInt8) × (Int × Unit))))) (s : (List UInt8)) (k0 : Option ((Unit) × ((Bool × ((List Int) × ((List UInt8) × (Int × Unit)))) × Unit))) (k1 : Option ((Unit) × ((Bool × ((List Int) × ((List UInt8) × (Int × Unit)))) × Unit))) : Option ((Unit) × ((Bool × ((List Int) × ((List UInt8) × (Int × Unit)))) × Unit)) :=
 cond (!h.1)
 (k0)
 (k1)

def zbd (N : Nat) (x : z2i [(0, .box (.pair .bool (.pair (.arr 8 (.int .u32)) (.pair .str (.pair (.int .i64) .unit))))), (0, .v .str)]) (K : Ex -> List A -> Option ((Unit) × ((Bool × ((List Int) × ((List UInt8) × (Int × Unit)))) × Unit))) : Option ((Unit) × ((Bool × ((List Int) × ((List UInt8) × (Int × Unit)))) × Unit)) :=
 zba N x.1 x.2.1 (K .ret (mkS [(0, .box (.pair .bool (.pair (.arr 8 (.int .u32)) (.pair .str (.pair (.int .i64) .unit)))))] 52 (x.1, ()))) (K .normal (mkS [(0, .box (.pair .bool (.pair (.arr 8 (.int .u32)) (.pair .str (.pair (.int .i64) .unit))))), (0, .v .str)] 51 (x.1, x.2.1, ())))

def zbc (N : Nat) : Hd ((Unit) × ((Bool × ((List Int) × ((List UInt8) × (Int × Unit)))) × Unit)) := fun st K => (unS [(0, .box (.pair .bool (.pair (.arr 8 (.int .u32)) (.pair .str (.pair (.int .i64) .unit))))), (0, .v .str)] 51 (restr [0, 1] 0 st)).bind fun x => zbd N x K

def zi8 (N : Nat) : Tab ((Unit) × ((Bool × ((List Int) × ((List UInt8) × (Int × Unit)))) × Unit)) := []

theorem zh5 {N : Nat} {c : Ctx} (hb : Base Go.Proofs.Tryd.prog (z55 N) c) : z13 Go.Proofs.Tryd.prog c (zg z4u [0]) (zbc N) :=
  z2w (s := [(0, .box (.pair .bool (.pair (.arr 8 (.int .u32)) (.pair .str (.pair (.int .i64) .unit))))), (0, .v .str)]) (m := 51) (g := zbd N) [0, 1] (zj hb N (zi8 N) z86 z4u TabOk.nil [0] _ rfl) (fun x K => by kernel_rfl)

def z5e (N : Nat) (h : (Bool × ((List Int) × ((List UInt8) × (Int × Unit))))) (s : (List UInt8)) : Option ((Unit) × ((Bool × ((List Int) × ((List UInt8) × (Int × Unit)))) × Unit)) :=
 zba N h s
 (some ((), (h, ())))
 (cond (decide (((List.length h.2.2.1) + (List.length s)) <= 9223372036854775807))
 (cond (decide (((0 : Int) <= (Go.IntKind.wrap Go.IntKind.i64 ((((List.length (h.2.2.1 ++ s)) : Nat) : Int) - (Int.tmod (((List.length (h.2.2.1 ++ s)) : Nat) : Int) (64 : Int))))) /\ ((Go.IntKind.wrap Go.IntKind.i64 ((((List.length (h.2.2.1 ++ s)) : Nat) : Int) - (Int.tmod (((List.length (h.2.2.1 ++ s)) : Nat) : Int) (64 : Int)))) <= (((List.length (h.2.2.1 ++ s)) : Nat) : Int))))
 ((zaq N h.2.1 (Go.Lift.cut (h.2.2.1 ++ s) 0 (Int.toNat (Go.IntKind.wrap Go.IntKind.i64 ((((List.length (h.2.2.1 ++ s)) : Nat) : Int) - (Int.tmod (((List.length (h.2.2.1 ++ s)) : Nat) : Int) (64 : Int))))))).bind fun y =>
 cond (decide (((0 : Int) <= (Go.IntKind.wrap Go.IntKind.i64 ((((List.length (h.2.2.1 ++ s)) : Nat) : Int) - (Int.tmod (((List.length (h.2.2.1 ++ s)) : Nat) : Int) (64 : Int))))) /\ ((Go.IntKind.wrap Go.IntKind.i64 ((((List.length (h.2.2.1 ++ s)) : Nat) : Int) - (Int.tmod (((List.length (h.2.2.1 ++ s)) : Nat) : Int) (64 : Int)))) <= (((List.length (h.2.2.1 ++ s)) : Nat) : Int))))
 (some ((), ((h.1, (y, ((Go.Lift.cut (h.2.2.1 ++ s) (Int.toNat (Go.IntKind.wrap Go.IntKind.i64 ((((List.length (h.2.2.1 ++ s)) : Nat) : Int) - (Int.tmod (((List.length (h.2.2.1 ++ s)) : Nat) : Int) (64 : Int))))) (List.length (h.2.2.1 ++ s))), ((Go.IntKind.wrap Go.IntKind.i64 (h.2.2.2.1 + (((List.length s) : Nat) : Int))), h.2.2.2.2)))), ())))
 (none))
 (none))
 (none))

def zd8 (N : Nat) : Tab ((Unit) × ((Bool × ((List Int) × ((List UInt8) × (Int × Unit)))) × Unit)) := [([0], zbc N)]

theorem zfs (N : Nat) (x : z2i [(0, .box (.pair .bool (.pair (.arr 8 (.int .u32)) (.pair .str (.pair (.int .i64) .unit))))), (0, .v .str)]) : zak (z55 N) N (zd8 N) z86 Go.Proofs.Tryd.f12 (mkS [(0, .box (.pair .bool (.pair (.arr 8 (.int .u32)) (.pair .str (.pair (.int .i64) .unit))))), (0, .v .str)] 0 x) (zjt (.tup []) [(0, .box (.pair .bool (.pair (.arr 8 (.int .u32)) (.pair .str (.pair (.int .i64) .unit)))))] 1) = z5e N x.1 x.2.1 := by kernel_rfl

def za8 (N : Nat) : List A -> Res := z1y [(0, .box (.pair .bool (.pair (.arr 8 (.int .u32)) (.pair .str (.pair (.int .i64) .unit))))), (0, .v .str)] (fun x => z5e N x.1 x.2.1) (zqh (.tup []) [(0, .box (.pair .bool (.pair (.arr 8 (.int .u32)) (.pair .str (.pair (.int .i64) .unit)))))] 1)

theorem zi9 (N : Nat) : Contract Go.Proofs.Tryd.prog glob 12 (za8 N) :=
  Contract.of (E := z55 N) (H := zd8 N) (L := z86) (N := N) (body := z4u) (K := (zjt (.tup []) [(0, .box (.pair .bool (.pair (.arr 8 (.int .u32)) (.pair .str (.pair (.int .i64) .unit)))))] 1)) (zh6 N) Go.Proofs.Tryd.func12 (by kernel_rfl) (by decide) (fun _ hb => (TabOk.cons (zh5 hb) TabOk.nil)) (fun x y h => by rw [zfs]; exact h) (zhf (s := (.tup [])) (os := [(0, .box (.pair .bool (.pair (.arr 8 (.int .u32)) (.pair .str (.pair (.int .i64) .unit)))))]) (m := 1))

def z30 : Code := (Go.Proofs.Tryd.f12.body).getD .skip

def z4h : List (List Nat × List Nat) := [([0, 0], [14, 0, 1]), ([1, 0], [0, 1]), ([0, 1, 0], []), ([0, 1], [0, 1]), ([0, 1, 1], [4, 0]), ([0, 1, 1, 1], [0, 4, 5]), ([0, 1, 1, 1, 1], [0, 4, 5]), ([1, 1, 1, 1, 1], [])]

def z2t (N : Nat) : Env := z3v tys glob [(21, z35 N)] [] [] [] false [] []

theorem zck (N : Nat) : EnvOk Go.Proofs.Tryd.prog (z2t N) := zu mixed z1x (FnsOk.cons (z5b N) (FnsOk.nil)) (ItsOk.nil)

def z6m (N : Nat) (s : (List UInt8)) (k0 : Option (Unit)) : Option (Unit) :=
 k0

def z6o (N : Nat) (x : z2i [(0, .nilp), (0, .v .str)]) (K : Ex -> List A -> Option (Unit)) : Option (Unit) :=
 z6m N x.2.1 (K .ret (mkS [] 53 ()))

def z6n (N : Nat) : Hd (Unit) := fun st K => (unS [(0, .nilp), (0, .v .str)] 51 (restr [0, 1] 0 st)).bind fun x => z6o N x K

def zdq (N : Nat) : Tab (Unit) := []

theorem zcj {N : Nat} {c : Ctx} (hb : Base Go.Proofs.Tryd.prog (z2t N) c) : z13 Go.Proofs.Tryd.prog c (zg z30 [0]) (z6n N) :=
  z2w (s := [(0, .nilp), (0, .v .str)]) (m := 51) (g := z6o N) [0, 1] (zj hb N (zdq N) z4h z30 TabOk.nil [0] _ rfl) (fun x K => by kernel_rfl)

def z5n (N : Nat) (s : (List UInt8)) : Option (Unit) :=
 z6m N s
 (some ())

def z7v (N : Nat) : Tab (Unit) := [([0], z6n N)]

theorem zbb (N : Nat) (x : z2i [(0, .nilp), (0, .v .str)]) : zak (z2t N) N (z7v N) z4h Go.Proofs.Tryd.f12 (mkS [(0, .nilp), (0, .v .str)] 0 x) (z56 (.tup []) 2) = z5n N x.2.1 := by kernel_rfl

def zci (N : Nat) : List A -> Res := z1y [(0, .nilp), (0, .v .str)] (fun x => z5n N x.2.1) (zdc (.tup []) 2)

theorem zdr (N : Nat) : Contract Go.Proofs.Tryd.prog glob 12 (zci N) :=
  Contract.of (E := z2t N) (H := z7v N) (L := z4h) (N := N) (body := z30) (K := (z56 (.tup []) 2)) (zck N) Go.Proofs.Tryd.func12 (by kernel_rfl) (by decide) (fun _ hb => (TabOk.cons (zcj hb) TabOk.nil)) (fun x y h => by rw [zbb]; exact h) (z1k (s := (.tup [])) (m := 2))

def z3d (N : Nat) : List A -> Res := zkb [(0, .nilp), (0, .v .str)] (fun x => z5n N x.2.1) (zdc (.tup []) 2) (za8 N)

theorem z4o (N : Nat) : Contract Go.Proofs.Tryd.prog glob 12 (z3d N) := Contract.alt (zdr N) (zi9 N)

def zjp : Code := (Go.Proofs.Tryd.f26.body).getD .skip

def ziv : List (List Nat × List Nat) := [([0], [1, 0]), ([0, 1], [1, 0]), ([0, 0, 1, 1], [10, 0, 1]), ([1, 0, 1, 1], [0, 1]), ([0, 0, 1, 0, 1, 1], [4]), ([1, 0, 1, 0, 1, 1], [4]), ([0, 1, 1, 1], [4]), ([1, 1, 1, 1], [4])]

def zea (N : Nat) : Env := z3v tys glob [] [] [] [] false [] []

theorem zld (N : Nat) : EnvOk Go.Proofs.Tryd.prog (zea N) := zu mixed z1x (FnsOk.nil) (ItsOk.nil)

def ziw (N : Nat) (s : (List UInt8)) (n : Int) : Option (List UInt8) :=
 cond (decide ((if ((65536 : Int) < n) then (65536 : Int) else n) <= (((List.length s) : Nat) : Int)))
 (some s)
 (cond (decide (((0 : Int) <= (Go.IntKind.wrap Go.IntKind.i64 ((if ((65536 : Int) < n) then (65536 : Int) else n) - (((List.length s) : Nat) : Int)))) /\ (((Go.IntKind.wrap Go.IntKind.i64 ((if ((65536 : Int) < n) then (65536 : Int) else n) - (((List.length s) : Nat) : Int))) <= (Go.IntKind.wrap Go.IntKind.i64 ((if ((65536 : Int) < n) then (65536 : Int) else n) - (((List.length s) : Nat) : Int)))) /\ ((((Go.IntKind.wrap Go.IntKind.i64 ((if ((65536 : Int) < n) then (65536 : Int) else n) - (((List.length s) : Nat) : Int))) * (1 : Int)) <= (281474976710656 : Int)) /\ ((Go.IntKind.wrap Go.IntKind.i64 ((if ((65536 : Int) < n) then (65536 : Int) else n) - (((List.length s) : Nat) : Int))) <= (9223372036854775807 : Int))))))
 (cond (decide (((List.length s) + (List.length (Go.Lift.toStr (List.replicate (Int.toNat (Go.IntKind.wrap Go.IntKind.i64 ((if ((65536 : Int) < n) then (65536 : Int) else n) - (((List.length s) : Nat) : Int)))) (0 : Int))))) <= 9223372036854775807))
 (some (s ++ (Go.Lift.toStr (List.replicate (Int.toNat (Go.IntKind.wrap Go.IntKind.i64 ((if ((65536 : Int) < n) then (65536 : Int) else n) - (((List.length s) : Nat) : Int)))) (0 : Int)))))
 (none))
 (none))

def ziu (N : Nat) : Tab (List UInt8) := []

theorem zjo (N : Nat) (x : z2i [(0, .v .str), (0, .v (.int .i64))]) : zak (zea N) N (ziu N) ziv Go.Proofs.Tryd.f26 (mkS [(0, .v .str), (0, .v (.int .i64))] 0 x) (z56 (.v .str) 2) = ziw N x.1 x.2.1 := by kernel_rfl

def zf2 (N : Nat) : List A -> Res := z1y [(0, .v .str), (0, .v (.int .i64))] (fun x => ziw N x.1 x.2.1) (zdc (.v .str) 2)

theorem zmz (N : Nat) : Contract Go.Proofs.Tryd.prog glob 26 (zf2 N) :=
  Contract.of (E := zea N) (H := ziu N) (L := ziv) (N := N) (body := zjp) (K := (z56 (.v .str) 2)) (zld N) Go.Proofs.Tryd.func26 (by kernel_rfl) (by decide) (fun _ hb => TabOk.nil) (fun x y h => by rw [zjo]; exact h) (z1k (s := (.v .str)) (m := 2))

def z4d : Code := (Go.Proofs.Tryd.f20.body).getD .skip

def z6c : List (List Nat × List Nat) := [([0], [1, 0]), ([0, 1], [1, 5, 0]), ([0, 0, 1, 1], [10, 9, 5, 0, 1]), ([0, 1, 0, 1, 1], [10, 9, 5, 0, 1]), ([0, 0, 0, 1, 0, 1, 1], [11, 10, 5, 0, 1, 9]), ([0, 1, 0, 0, 1, 0, 1, 1], [10, 5, 0, 1, 9]), ([1, 0, 1, 0, 0, 1, 0, 1, 1], [5]), ([0, 0, 0, 1, 1, 0, 0, 1, 0, 1, 1], [5, 6, 0, 1, 10, 9]), ([1, 0, 0, 1, 1, 0, 0, 1, 0, 1, 1], [10, 9, 5, 0, 1]), ([0, 1, 1, 0, 0, 1, 0, 1, 1], [10, 9, 5, 0, 1]), ([1, 1, 1, 0, 0, 1, 0, 1, 1], [10, 9, 5, 0, 1]), ([1, 0, 1, 1], [5]), ([0, 1, 1, 1], [4]), ([1, 1, 1, 1], [4])]

def z4e (N : Nat) : Env := z3v tys glob [] [(5, (.int .u8))] [] [] false [] []

theorem zfj (N : Nat) : EnvOk Go.Proofs.Tryd.prog (z4e N) := zu mixed z1x (FnsOk.nil) (ItsOk.nil)

def z9w (N : Nat) (n : Int) (size : Int) (x9 : Int) (out : (List Int)) (x10 : Int) (rec : (List Int) -> Int -> Option (List UInt8)) (k0 : (List Int) -> Option (List UInt8)) : Option (List UInt8) :=
 cond (decide (x10 < x9))
 (cond (decide ((0 : Int) <= (Go.IntKind.wrap Go.IntKind.i64 ((8 : Int) * (Go.IntKind.wrap Go.IntKind.i64 ((Go.IntKind.wrap Go.IntKind.i64 (size - (1 : Int))) - x10))))))
 (cond (Go.Lift.inR x10 (List.length out))
 (cond (decide ((Int.toNat x10) < (List.length out)))
 (rec (List.set out (Int.toNat x10) (Go.IntKind.wrap Go.IntKind.u8 (Go.Lift.shrI Go.IntKind.u64 n (Go.IntKind.wrap Go.IntKind.i64 ((8 : Int) * (Go.IntKind.wrap Go.IntKind.i64 ((Go.IntKind.wrap Go.IntKind.i64 (size - (1 : Int))) - x10))))))) (Go.IntKind.wrap Go.IntKind.i64 (x10 + (1 : Int))))
 (none))
 (none))
 (none))
 (k0 out)

def zgx (N : Nat) (n : Int) (size : Int) (out : (List Int)) (x9 : Int) (x10 : Int) (k0 : (List Int) -> Option (List UInt8)) : Option (List UInt8) :=
 iter (fun (v : ((List Int) × Int)) r => z9w N n size x9 v.1 v.2 (fun out x10 => (r (out, x10))) k0) N (out, x10)

def z9y (N : Nat) (i : (Int × Int × Int)) (v : ((List Int) × Int)) (r : ((List Int) × Int) -> Option (List UInt8)) (K : Ex -> List A -> Option (List UInt8)) : Option (List UInt8) :=
 z9w N i.1 i.2.1 i.2.2 v.1 v.2 (fun out x10 => (r (out, x10))) (fun a0 => (K (.exit 0) (mkS [(5, .row (.int .u8))] 21 (a0, ()))))

def z9x (N : Nat) : Hd (List UInt8) := fun st K => (unS [(0, .v (.int .u64)), (0, .v (.int .i64)), (3, .row (.int .u8)), (3, .v (.int .i64)), (0, .v (.int .i64))] 16 (restr [10, 9, 5, 0, 1] 0 st)).bind fun x => iter (fun v r => z9y N ((fun x => (x.1, x.2.1, x.2.2.2.1)) x) v r K) N ((fun x => (x.2.2.1, x.2.2.2.2.1)) x)

def zgw (N : Nat) : Tab (List UInt8) := []

theorem zfi {N : Nat} {c : Ctx} (hb : Base Go.Proofs.Tryd.prog (z4e N) c) : z13 Go.Proofs.Tryd.prog c (zg z4d [0, 1, 0, 1, 1]) (z9x N) :=
  z3e (s := [(0, .v (.int .u64)), (0, .v (.int .i64)), (3, .row (.int .u8)), (3, .v (.int .i64)), (0, .v (.int .i64))]) (m := 16) (z9y N) [10, 9, 5, 0, 1] N (fun x => (x.1, x.2.1, x.2.2.2.1)) (fun x => (x.2.2.1, x.2.2.2.2.1)) (fun i v => (i.1, i.2.1, v.1, i.2.2, v.2, ())) (fun _ => rfl) (zj hb N (zgw N) z6c z4d TabOk.nil [0, 0, 1, 0, 1, 1] _ rfl) (fun i v r K => by kernel_rfl)

def z63 (N : Nat) (n : Int) (size : Int) : Option (List UInt8) :=
 cond (decide (((0 : Int) <= size) /\ ((size <= size) /\ (((size * (1 : Int)) <= (281474976710656 : Int)) /\ (size <= (9223372036854775807 : Int))))))
 (zgx N n size (List.replicate (Int.toNat size) (0 : Int)) size (0 : Int)
 (fun out => some (Go.Lift.toStr out)))
 (none)

def zaw (N : Nat) : Tab (List UInt8) := [([0, 1, 0, 1, 1], z9x N)]

theorem zek (N : Nat) (x : z2i [(0, .v (.int .u64)), (0, .v (.int .i64))]) : zak (z4e N) N (zaw N) z6c Go.Proofs.Tryd.f20 (mkS [(0, .v (.int .u64)), (0, .v (.int .i64))] 0 x) (z56 (.v .str) 2) = z63 N x.1 x.2.1 := by kernel_rfl

def z4r (N : Nat) : List A -> Res := z1y [(0, .v (.int .u64)), (0, .v (.int .i64))] (fun x => z63 N x.1 x.2.1) (zdc (.v .str) 2)

theorem z9z (N : Nat) : Contract Go.Proofs.Tryd.prog glob 20 (z4r N) :=
  Contract.of (E := z4e N) (H := zaw N) (L := z6c) (N := N) (body := z4d) (K := (z56 (.v .str) 2)) (zfj N) Go.Proofs.Tryd.func20 (by kernel_rfl) (by decide) (fun _ hb => (TabOk.cons (zfi hb) TabOk.nil)) (fun x y h => by rw [zek]; exact h) (z1k (s := (.v .str)) (m := 2))

def zky : Code := (Go.Proofs.Tryd.f22.body).getD .skip

def zk1 : List (List Nat × List Nat) := [([0], [0]), ([0, 1], [3, 0]), ([0, 1, 1], [2]), ([1, 1, 1], [2])]

def zfg (N : Nat) : Env := z3v tys glob [(20, z4r N), (26, zf2 N)] [] [] [] false [] []

theorem zlw (N : Nat) : EnvOk Go.Proofs.Tryd.prog (zfg N) := zu mixed z1x (FnsOk.cons (z9z N) (FnsOk.cons (zmz N) (FnsOk.nil))) (ItsOk.nil)

def zhb (N : Nat) (n : Int) : Option (List UInt8) :=
 (ziw N ([(128 : UInt8)] : List UInt8) (Go.IntKind.wrap Go.IntKind.i64 ((1 : Int) + (Int.tmod (Go.IntKind.wrap Go.IntKind.i64 ((119 : Int) - (Int.tmod n (64 : Int)))) (64 : Int))))).bind fun y =>
 (z63 N (Go.IntKind.wrap Go.IntKind.u64 ((8 : Int) * (Go.IntKind.wrap Go.IntKind.u64 n))) (8 : Int)).bind fun y1 =>
 cond (decide (((List.length y) + (List.length y1)) <= 9223372036854775807))
 (some (y ++ y1))
 (none)

def zk0 (N : Nat) : Tab (List UInt8) := []

theorem zkx (N : Nat) (x : z2i [(0, .v (.int .i64))]) : zak (zfg N) N (zk0 N) zk1 Go.Proofs.Tryd.f22 (mkS [(0, .v (.int .i64))] 0 x) (z56 (.v .str) 1) = zhb N x.1 := by kernel_rfl

def z7r (N : Nat) : List A -> Res := z1y [(0, .v (.int .i64))] (fun x => zhb N x.1) (zdc (.v .str) 1)

theorem zdg (N : Nat) : Contract Go.Proofs.Tryd.prog glob 22 (z7r N) :=
  Contract.of (E := zfg N) (H := zk0 N) (L := zk1) (N := N) (body := zky) (K := (z56 (.v .str) 1)) (zlw N) Go.Proofs.Tryd.func22 (by kernel_rfl) (by decide) (fun _ hb => TabOk.nil) (fun x y h => by rw [zkx]; exact h) (z1k (s := (.v .str)) (m := 1))

def z9a : Code := (Go.Proofs.Tryd.f7.body).getD .skip

def zfk : List (List Nat × List Nat) := [([0], [1]), ([0, 1], [1, 3]), ([0, 0, 1, 1], [7, 6, 3]), ([0, 1, 0, 1, 1], [7, 6, 3]), ([0, 0, 0, 1, 0, 1, 1], [8, 6, 7, 3]), ([0, 1, 0, 0, 1, 0, 1, 1], [6, 7, 3]), ([1, 0, 1, 0, 0, 1, 0, 1, 1], [3]), ([0, 0, 0, 1, 1, 0, 0, 1, 0, 1, 1], [3, 5, 7, 6]), ([1, 0, 0, 1, 1, 0, 0, 1, 0, 1, 1], [7, 6, 3]), ([0, 1, 1, 0, 0, 1, 0, 1, 1], [7, 6, 3]), ([1, 1, 1, 0, 0, 1, 0, 1, 1], [7, 6, 3]), ([1, 0, 1, 1], [3]), ([0, 1, 1, 1], [2]), ([1, 1, 1, 1], [2])]

def zc6 (N : Nat) : Env := z3v tys glob [(20, z4r N)] [] [] [] false [] []

theorem zm5 (N : Nat) : EnvOk Go.Proofs.Tryd.prog (zc6 N) := zu mixed z1x (FnsOk.cons (z9z N) (FnsOk.nil)) (ItsOk.nil)

def zht (N : Nat) (x6 : (List Int)) (out : (List UInt8)) (x7 : Int) (rec : (List UInt8) -> Int -> Option (List UInt8)) (k0 : (List UInt8) -> Option (List UInt8)) : Option (List UInt8) :=
 cond (decide (x7 < (8 : Int)))
 (cond (Go.Lift.inR x7 8)
 ((z63 N (Go.IntKind.wrap Go.IntKind.u64 (List.getD x6 (Int.toNat x7) (0 : Int))) (4 : Int)).bind fun y =>
 cond (decide (((List.length out) + (List.length y)) <= 9223372036854775807))
 (rec (out ++ y) (Go.IntKind.wrap Go.IntKind.i64 (x7 + (1 : Int))))
 (none))
 (none))
 (k0 out)

def znu (N : Nat) (out : (List UInt8)) (x6 : (List Int)) (x7 : Int) (k0 : (List UInt8) -> Option (List UInt8)) : Option (List UInt8) :=
 iter (fun (v : ((List UInt8) × Int)) r => zht N x6 v.1 v.2 (fun out x7 => (r (out, x7))) k0) N (out, x7)

def zhv (N : Nat) (i : (List Int)) (v : ((List UInt8) × Int)) (r : ((List UInt8) × Int) -> Option (List UInt8)) (K : Ex -> List A -> Option (List UInt8)) : Option (List UInt8) :=
 zht N i v.1 v.2 (fun out x7 => (r (out, x7))) (fun a0 => (K (.exit 0) (mkS [(3, .v .str)] 13 (a0, ()))))

def zhu (N : Nat) : Hd (List UInt8) := fun st K => (unS [(3, .v .str), (2, .v (.arr 8 (.int .u32))), (0, .v (.int .i64))] 9 (restr [7, 6, 3] 0 st)).bind fun x => iter (fun v r => zhv N ((fun x => x.2.1) x) v r K) N ((fun x => (x.1, x.2.2.1)) x)

def znt (N : Nat) : Tab (List UInt8) := []

theorem zm4 {N : Nat} {c : Ctx} (hb : Base Go.Proofs.Tryd.prog (zc6 N) c) : z13 Go.Proofs.Tryd.prog c (zg z9a [0, 1, 0, 1, 1]) (zhu N) :=
  z3e (s := [(3, .v .str), (2, .v (.arr 8 (.int .u32))), (0, .v (.int .i64))]) (m := 9) (zhv N) [7, 6, 3] N (fun x => x.2.1) (fun x => (x.1, x.2.2.1)) (fun i v => (v.1, i, v.2, ())) (fun _ => rfl) (zj hb N (znt N) zfk z9a TabOk.nil [0, 0, 1, 0, 1, 1] _ rfl) (fun i v r K => by kernel_rfl)

def z2r (N : Nat) (h : (List Int)) : Option (List UInt8) :=
 znu N ([] : List UInt8) h (0 : Int)
 (fun out => some out)

def zk3 (N : Nat) : Tab (List UInt8) := [([0, 1, 0, 1, 1], zhu N)]

theorem zl2 (N : Nat) (x : z2i [(0, .v (.arr 8 (.int .u32)))]) : zak (zc6 N) N (zk3 N) zfk Go.Proofs.Tryd.f7 (mkS [(0, .v (.arr 8 (.int .u32)))] 0 x) (z56 (.v .str) 1) = z2r N x.1 := by kernel_rfl

def z5c (N : Nat) : List A -> Res := z1y [(0, .v (.arr 8 (.int .u32)))] (fun x => z2r N x.1) (zdc (.v .str) 1)

theorem z99 (N : Nat) : Contract Go.Proofs.Tryd.prog glob 7 (z5c N) :=
  Contract.of (E := zc6 N) (H := zk3 N) (L := zfk) (N := N) (body := z9a) (K := (z56 (.v .str) 1)) (zm5 N) Go.Proofs.Tryd.func7 (by kernel_rfl) (by decide) (fun _ hb => (TabOk.cons (zm4 hb) TabOk.nil)) (fun x y h => by rw [zl2]; exact h) (z1k (s := (.v .str)) (m := 1))

def z20 : Code := (Go.Proofs.Tryd.f14.body).getD .skip

def z4g : List (List Nat × List Nat) := [([0], [0]), ([0, 0, 1], [11, 0]), ([1, 0, 1], [0]), ([0, 0, 1, 0, 1], [2, 0]), ([1, 0, 1, 0, 1], [2, 0]), ([0, 1, 1], [2, 0]), ([1, 1, 1], [2, 0])]

def z2z (N : Nat) : Env := z3v tys glob [(7, z5c N), (22, z7r N), (21, z35 N)] [] [] [0] false [] []

theorem zfq (N : Nat) : EnvOk Go.Proofs.Tryd.prog (z2z N) := zu mixed z1x (FnsOk.cons (z99 N) (FnsOk.cons (zdg N) (FnsOk.cons (z5b N) (FnsOk.nil)))) (ItsOk.nil)

def za1 (N : Nat) (h : (Bool × ((List Int) × ((List UInt8) × (Int × Unit))))) (k0 : Bool -> Option ((List UInt8) × ((Bool × ((List Int) × ((List UInt8) × (Int × Unit)))) × Unit))) : Option ((List UInt8) × ((Bool × ((List Int) × ((List UInt8) × (Int × Unit)))) × Unit)) :=
 k0 (!h.1)

def za5 (N : Nat) (x : z2i [(0, .box (.pair .bool (.pair (.arr 8 (.int .u32)) (.pair .str (.pair (.int .i64) .unit)))))]) (K : Ex -> List A -> Option ((List UInt8) × ((Bool × ((List Int) × ((List UInt8) × (Int × Unit)))) × Unit))) : Option ((List UInt8) × ((Bool × ((List Int) × ((List UInt8) × (Int × Unit)))) × Unit)) :=
 za1 N x.1 (fun a1 => (K .normal (mkS [(0, .box (.pair .bool (.pair (.arr 8 (.int .u32)) (.pair .str (.pair (.int .i64) .unit))))), (10, .v .bool)] 17 (x.1, a1, ()))))

def za3 (N : Nat) : Hd ((List UInt8) × ((Bool × ((List Int) × ((List UInt8) × (Int × Unit)))) × Unit)) := fun st K => (unS [(0, .box (.pair .bool (.pair (.arr 8 (.int .u32)) (.pair .str (.pair (.int .i64) .unit)))))] 28 (restr [0] 0 st)).bind fun x => za5 N x K

def zh2 (N : Nat) : Tab ((List UInt8) × ((Bool × ((List Int) × ((List UInt8) × (Int × Unit)))) × Unit)) := []

theorem zfo {N : Nat} {c : Ctx} (hb : Base Go.Proofs.Tryd.prog (z2z N) c) : z13 Go.Proofs.Tryd.prog c (zg z20 [0, 0, 1]) (za3 N) :=
  z2w (s := [(0, .box (.pair .bool (.pair (.arr 8 (.int .u32)) (.pair .str (.pair (.int .i64) .unit)))))]) (m := 28) (g := za5 N) [0] (zj hb N (zh2 N) z4g z20 TabOk.nil [0, 0, 1] _ rfl) (fun x K => by kernel_rfl)

def za2 (N : Nat) (h : (Bool × ((List Int) × ((List UInt8) × (Int × Unit))))) (k0 : Option ((List UInt8) × ((Bool × ((List Int) × ((List UInt8) × (Int × Unit)))) × Unit))) : Option ((List UInt8) × ((Bool × ((List Int) × ((List UInt8) × (Int × Unit)))) × Unit)) :=
 za1 N h
 (fun x11 => cond x11
 (none)
 (k0))

def za6 (N : Nat) (x : z2i [(0, .box (.pair .bool (.pair (.arr 8 (.int .u32)) (.pair .str (.pair (.int .i64) .unit)))))]) (K : Ex -> List A -> Option ((List UInt8) × ((Bool × ((List Int) × ((List UInt8) × (Int × Unit)))) × Unit))) : Option ((List UInt8) × ((Bool × ((List Int) × ((List UInt8) × (Int × Unit)))) × Unit)) :=
 za2 N x.1 (K .normal (mkS [(0, .box (.pair .bool (.pair (.arr 8 (.int .u32)) (.pair .str (.pair (.int .i64) .unit)))))] 28 (x.1, ())))

def za4 (N : Nat) : Hd ((List UInt8) × ((Bool × ((List Int) × ((List UInt8) × (Int × Unit)))) × Unit)) := fun st K => (unS [(0, .box (.pair .bool (.pair (.arr 8 (.int .u32)) (.pair .str (.pair (.int .i64) .unit)))))] 28 (restr [0] 0 st)).bind fun x => za6 N x K

def zh3 (N : Nat) : Tab ((List UInt8) × ((Bool × ((List Int) × ((List UInt8) × (Int × Unit)))) × Unit)) := [([0, 0, 1], za3 N)]

theorem zfp {N : Nat} {c : Ctx} (hb : Base Go.Proofs.Tryd.prog (z2z N) c) : z13 Go.Proofs.Tryd.prog c (zg z20 [0, 1]) (za4 N) :=
  z2w (s := [(0, .box (.pair .bool (.pair (.arr 8 (.int .u32)) (.pair .str (.pair (.int .i64) .unit)))))]) (m := 28) (g := za6 N) [0] (zj hb N (zh3 N) z4g z20 (TabOk.cons (zfo hb) TabOk.nil) [0, 1] _ rfl) (fun x K => by kernel_rfl)

def z9c (N : Nat) (h : (Bool × ((List Int) × ((List UInt8) × (Int × Unit))))) : Option ((List UInt8) × ((Bool × ((List Int) × ((List UInt8) × (Int × Unit)))) × Unit)) :=
 za2 N h
 ((zhb N h.2.2.2.1).bind fun y =>
 cond (decide (((List.length h.2.2.1) + (List.length y)) <= 9223372036854775807))
 ((zaq N h.2.1 (h.2.2.1 ++ y)).bind fun y1 =>
 (z2r N y1).bind fun y2 =>
 some (y2, (h, ())))
 (none))

def zb5 (N : Nat) : Tab ((List UInt8) × ((Bool × ((List Int) × ((List UInt8) × (Int × Unit)))) × Unit)) := [([0, 1], za4 N)]

theorem zem (N : Nat) (x : z2i [(0, .box (.pair .bool (.pair (.arr 8 (.int .u32)) (.pair .str (.pair (.int .i64) .unit)))))]) : zak (z2z N) N (zb5 N) z4g Go.Proofs.Tryd.f14 (mkS [(0, .box (.pair .bool (.pair (.arr 8 (.int .u32)) (.pair .str (.pair (.int .i64) .unit)))))] 0 x) (zjt (.v .str) [(0, .box (.pair .bool (.pair (.arr 8 (.int .u32)) (.pair .str (.pair (.int .i64) .unit)))))] 0) = z9c N x.1 := by kernel_rfl

def z4s (N : Nat) : List A -> Res := z1y [(0, .box (.pair .bool (.pair (.arr 8 (.int .u32)) (.pair .str (.pair (.int .i64) .unit)))))] (fun x => z9c N x.1) (zqh (.v .str) [(0, .box (.pair .bool (.pair (.arr 8 (.int .u32)) (.pair .str (.pair (.int .i64) .unit)))))] 0)

theorem za7 (N : Nat) : Contract Go.Proofs.Tryd.prog glob 14 (z4s N) :=
  Contract.of (E := z2z N) (H := zb5 N) (L := z4g) (N := N) (body := z20) (K := (zjt (.v .str) [(0, .box (.pair .bool (.pair (.arr 8 (.int .u32)) (.pair .str (.pair (.int .i64) .unit)))))] 0)) (zfq N) Go.Proofs.Tryd.func14 (by kernel_rfl) (by decide) (fun _ hb => (TabOk.cons (zfp hb) TabOk.nil)) (fun x y h => by rw [zem]; exact h) (zhf (s := (.v .str)) (os := [(0, .box (.pair .bool (.pair (.arr 8 (.int .u32)) (.pair .str (.pair (.int .i64) .unit)))))]) (m := 0))

def zm8 : Code := (Go.Proofs.Tryd.f13.body).getD .skip

def zm9 : List (List Nat × List Nat) := [([0], [0]), ([0, 1], [3, 0]), ([0, 1, 1], [3]), ([0, 1, 1, 1], [2]), ([1, 1, 1, 1], [2])]

def zhw (N : Nat) : Env := z3v tys glob [(14, z4s N), (12, z3d N), (11, zdm N)] [] [] [] false [] []

theorem znv (N : Nat) : EnvOk Go.Proofs.Tryd.prog (zhw N) := zu mixed z1x (FnsOk.cons (za7 N) (FnsOk.cons (z4o N) (FnsOk.cons (zk5 N) (FnsOk.nil)))) (ItsOk.nil)

def zfm (N : Nat) (s : (List UInt8)) : Option (List UInt8) :=
 (z5e N (true, (([(1779033703 : Int), (3144134277 : Int), (1013904242 : Int), (2773480762 : Int), (1359893119 : Int), (2600822924 : Int), (528734635 : Int), (1541459225 : Int)] : List Int), (([] : List UInt8), ((0 : Int), ())))) s).bind fun y =>
 (z9c N y.2.1).bind fun y1 =>
 some y1.1

def zm6 (N : Nat) : Tab (List UInt8) := []

theorem zm7 (N : Nat) (x : z2i [(0, .v .str)]) : zak (zhw N) N (zm6 N) zm9 Go.Proofs.Tryd.f13 (mkS [(0, .v .str)] 0 x) (z56 (.v .str) 1) = zfm N x.1 := by kernel_rfl

def z9b (N : Nat) : List A -> Res := z1y [(0, .v .str)] (fun x => zfm N x.1) (zdc (.v .str) 1)

theorem zfl (N : Nat) : Contract Go.Proofs.Tryd.prog glob 13 (z9b N) :=
  Contract.of (E := zhw N) (H := zm6 N) (L := zm9) (N := N) (body := zm8) (K := (z56 (.v .str) 1)) (znv N) Go.Proofs.Tryd.func13 (by kernel_rfl) (by decide) (fun _ hb => TabOk.nil) (fun x y h => by rw [zm7]; exact h) (z1k (s := (.v .str)) (m := 1))

def z24 : Code := (Go.Proofs.Tryd.f14.body).getD .skip

def z54 : List (List Nat × List Nat) := [([0], [0]), ([0, 0, 1], [11, 0]), ([1, 0, 1], [0]), ([0, 0, 1, 0, 1], [2, 0]), ([1, 0, 1, 0, 1], [2, 0]), ([0, 1, 1], [2, 0]), ([1, 1, 1], [2, 0])]

def z3g (N : Nat) : Env := z3v tys glob [(13, z9b N), (7, z5c N), (22, z7r N), (21, z35 N)] [] [] [0] false [] []

theorem zh1 (N : Nat) : EnvOk Go.Proofs.Tryd.prog (z3g N) := zu mixed z1x (FnsOk.cons (zfl N) (FnsOk.cons (z99 N) (FnsOk.cons (zdg N) (FnsOk.cons (z5b N) (FnsOk.nil))))) (ItsOk.nil)

def zay (N : Nat) (h : (Bool × ((List Int) × ((List UInt8) × (Int × Unit))))) (k0 : Bool -> Option ((List UInt8) × ((Bool × ((List Int) × ((List UInt8) × (Int × Unit)))) × Unit))) : Option ((List UInt8) × ((Bool × ((List Int) × ((List UInt8) × (Int × Unit)))) × Unit)) :=
 k0 (!h.1)

def zb3 (N : Nat) (x : z2i [(0, .box (.pair .bool (.pair (.arr 8 (.int .u32)) (.pair .str (.pair (.int .i64) .unit)))))]) (K : Ex -> List A -> Option ((List UInt8) × ((Bool × ((List Int) × ((List UInt8) × (Int × Unit)))) × Unit))) : Option ((List UInt8) × ((Bool × ((List Int) × ((List UInt8) × (Int × Unit)))) × Unit)) :=
 zay N x.1 (fun a1 => (K .normal (mkS [(0, .box (.pair .bool (.pair (.arr 8 (.int .u32)) (.pair .str (.pair (.int .i64) .unit))))), (10, .v .bool)] 17 (x.1, a1, ()))))

def zb1 (N : Nat) : Hd ((List UInt8) × ((Bool × ((List Int) × ((List UInt8) × (Int × Unit)))) × Unit)) := fun st K => (unS [(0, .box (.pair .bool (.pair (.arr 8 (.int .u32)) (.pair .str (.pair (.int .i64) .unit)))))] 28 (restr [0] 0 st)).bind fun x => zb3 N x K

def zi5 (N : Nat) : Tab ((List UInt8) × ((Bool × ((List Int) × ((List UInt8) × (Int × Unit)))) × Unit)) := []

theorem zgz {N : Nat} {c : Ctx} (hb : Base Go.Proofs.Tryd.prog (z3g N) c) : z13 Go.Proofs.Tryd.prog c (zg z24 [0, 0, 1]) (zb1 N) :=
  z2w (s := [(0, .box (.pair .bool (.pair (.arr 8 (.int .u32)) (.pair .str (.pair (.int .i64) .unit)))))]) (m := 28) (g := zb3 N) [0] (zj hb N (zi5 N) z54 z24 TabOk.nil [0, 0, 1] _ rfl) (fun x K => by kernel_rfl)

def zaz (N : Nat) (h : (Bool × ((List Int) × ((List UInt8) × (Int × Unit))))) (k0 : (List UInt8) -> Option ((List UInt8) × ((Bool × ((List Int) × ((List UInt8) × (Int × Unit)))) × Unit))) (k1 : Option ((List UInt8) × ((Bool × ((List Int) × ((List UInt8) × (Int × Unit)))) × Unit))) : Option ((List UInt8) × ((Bool × ((List Int) × ((List UInt8) × (Int × Unit)))) × Unit)) :=
 zay N h
 (fun x11 => cond x11
 ((zfm N ([] : List UInt8)).bind fun y =>
 k0 y)
 (k1))

def zb4 (N : Nat) (x : z2i [(0, .box (.pair .bool (.pair (.arr 8 (.int .u32)) (.pair .str (.pair (.int .i64) .unit)))))]) (K : Ex -> List A -> Option ((List UInt8) × ((Bool × ((List Int) × ((List UInt8) × (Int × Unit)))) × Unit))) : Option ((List UInt8) × ((Bool × ((List Int) × ((List UInt8) × (Int × Unit)))) × Unit)) :=
 zaz N x.1 (fun a1 => (K .ret (mkS [(0, .box (.pair .bool (.pair (.arr 8 (.int .u32)) (.pair .str (.pair (.int .i64) .unit))))), (1, .v .str)] 26 (x.1, a1, ())))) (K .normal (mkS [(0, .box (.pair .bool (.pair (.arr 8 (.int .u32)) (.pair .str (.pair (.int .i64) .unit)))))] 28 (x.1, ())))

def zb2 (N : Nat) : Hd ((List UInt8) × ((Bool × ((List Int) × ((List UInt8) × (Int × Unit)))) × Unit)) := fun st K => (unS [(0, .box (.pair .bool (.pair (.arr 8 (.int .u32)) (.pair .str (.pair (.int .i64) .unit)))))] 28 (restr [0] 0 st)).bind fun x => zb4 N x K

def zi6 (N : Nat) : Tab ((List UInt8) × ((Bool × ((List Int) × ((List UInt8) × (Int × Unit)))) × Unit)) := [([0, 0, 1], zb1 N)]

theorem zh0 {N : Nat} {c : Ctx} (hb : Base Go.Proofs.Tryd.prog (z3g N) c) : z13 Go.Proofs.Tryd.prog c (zg z24 [0, 1]) (zb2 N) :=
  z2w (s := [(0, .box (.pair .bool (.pair (.arr 8 (.int .u32)) (.pair .str (.pair (.int .i64) .unit)))))]) (m := 28) (g := zb4 N) [0] (zj hb N (zi6 N) z54 z24 (TabOk.cons (zgz hb) TabOk.nil) [0, 1] _ rfl) (fun x K => by kernel_rfl)

def z7u (N : Nat) (h : (Bool × ((List Int) × ((List UInt8) × (Int × Unit))))) : Option ((List UInt8) × ((Bool × ((List Int) × ((List UInt8) × (Int × Unit)))) × Unit)) :=
 zaz N h
 (fun x2 => some (x2, (h, ())))
 ((zhb N h.2.2.2.1).bind fun y =>
 cond (decide (((List.length h.2.2.1) + (List.length y)) <= 9223372036854775807))
 ((zaq N h.2.1 (h.2.2.1 ++ y)).bind fun y1 =>
 (z2r N y1).bind fun y2 =>
 some (y2, (h, ())))
 (none))

def zd7 (N : Nat) : Tab ((List UInt8) × ((Bool × ((List Int) × ((List UInt8) × (Int × Unit)))) × Unit)) := [([0, 1], zb2 N)]

theorem zfn (N : Nat) (x : z2i [(0, .box (.pair .bool (.pair (.arr 8 (.int .u32)) (.pair .str (.pair (.int .i64) .unit)))))]) : zak (z3g N) N (zd7 N) z54 Go.Proofs.Tryd.f14 (mkS [(0, .box (.pair .bool (.pair (.arr 8 (.int .u32)) (.pair .str (.pair (.int .i64) .unit)))))] 0 x) (zjt (.v .str) [(0, .box (.pair .bool (.pair (.arr 8 (.int .u32)) (.pair .str (.pair (.int .i64) .unit)))))] 0) = z7u N x.1 := by kernel_rfl

def zgy (N : Nat) : List A -> Res := z1y [(0, .box (.pair .bool (.pair (.arr 8 (.int .u32)) (.pair .str (.pair (.int .i64) .unit)))))] (fun x => z7u N x.1) (zqh (.v .str) [(0, .box (.pair .bool (.pair (.arr 8 (.int .u32)) (.pair .str (.pair (.int .i64) .unit)))))] 0)

theorem zi7 (N : Nat) : Contract Go.Proofs.Tryd.prog glob 14 (zgy N) :=
  Contract.of (E := z3g N) (H := zd7 N) (L := z54) (N := N) (body := z24) (K := (zjt (.v .str) [(0, .box (.pair .bool (.pair (.arr 8 (.int .u32)) (.pair .str (.pair (.int .i64) .unit)))))] 0)) (zh1 N) Go.Proofs.Tryd.func14 (by kernel_rfl) (by decide) (fun _ hb => (TabOk.cons (zh0 hb) TabOk.nil)) (fun x y h => by rw [zfn]; exact h) (zhf (s := (.v .str)) (os := [(0, .box (.pair .bool (.pair (.arr 8 (.int .u32)) (.pair .str (.pair (.int .i64) .unit)))))]) (m := 0))

def za0 (N : Nat) : List A -> Res := zkb [(0, .box (.pair .bool (.pair (.arr 8 (.int .u32)) (.pair .str (.pair (.int .i64) .unit)))))] (fun x => z7u N x.1) (zqh (.v .str) [(0, .box (.pair .bool (.pair (.arr 8 (.int .u32)) (.pair .str (.pair (.int .i64) .unit)))))] 0) (z4s N)

theorem zel (N : Nat) : Contract Go.Proofs.Tryd.prog glob 14 (za0 N) := Contract.alt (zi7 N) (za7 N)

def z1i : Code := (Go.Proofs.Tryd.f14.body).getD .skip

def z2s : List (List Nat × List Nat) := [([0], [0]), ([0, 0, 1], [11, 0]), ([1, 0, 1], [0]), ([0, 0, 1, 0, 1], [2]), ([1, 0, 1, 0, 1], [2]), ([0, 1, 1], [2]), ([1, 1, 1], [2])]

def z1z (N : Nat) : Env := z3v tys glob [(13, z9b N), (7, z5c N), (22, z7r N), (21, z35 N)] [] [] [] false [] []

theorem zcg (N : Nat) : EnvOk Go.Proofs.Tryd.prog (z1z N) := zu mixed z1x (FnsOk.cons (zfl N) (FnsOk.cons (z99 N) (FnsOk.cons (zdg N) (FnsOk.cons (z5b N) (FnsOk.nil))))) (ItsOk.nil)

def z6d (N : Nat) (k0 : Bool -> Option (List UInt8)) : Option (List UInt8) :=
 k0 true

def z6h (N : Nat) (x : z2i [(0, .nilp)]) (K : Ex -> List A -> Option (List UInt8)) : Option (List UInt8) :=
 z6d N (fun a0 => (K .normal (mkS [(0, .nilp), (10, .v .bool)] 17 ((), a0, ()))))

def z6f (N : Nat) : Hd (List UInt8) := fun st K => (unS [(0, .nilp)] 28 (restr [0] 0 st)).bind fun x => z6h N x K

def zdn (N : Nat) : Tab (List UInt8) := []

theorem zce {N : Nat} {c : Ctx} (hb : Base Go.Proofs.Tryd.prog (z1z N) c) : z13 Go.Proofs.Tryd.prog c (zg z1i [0, 0, 1]) (z6f N) :=
  z2w (s := [(0, .nilp)]) (m := 28) (g := z6h N) [0] (zj hb N (zdn N) z2s z1i TabOk.nil [0, 0, 1] _ rfl) (fun x K => by kernel_rfl)

def z6e (N : Nat) (k0 : (List UInt8) -> Option (List UInt8)) (k1 : Option (List UInt8)) : Option (List UInt8) :=
 z6d N
 (fun x11 => cond x11
 ((zfm N ([] : List UInt8)).bind fun y =>
 k0 y)
 (k1))

def z6i (N : Nat) (x : z2i [(0, .nilp)]) (K : Ex -> List A -> Option (List UInt8)) : Option (List UInt8) :=
 z6e N (fun a0 => (K .ret (mkS [(2, .v .str)] 26 (a0, ())))) (K .normal (mkS [(0, .nilp)] 28 ((), ())))

def z6g (N : Nat) : Hd (List UInt8) := fun st K => (unS [(0, .nilp)] 28 (restr [0] 0 st)).bind fun x => z6i N x K

def zdo (N : Nat) : Tab (List UInt8) := [([0, 0, 1], z6f N)]

theorem zcf {N : Nat} {c : Ctx} (hb : Base Go.Proofs.Tryd.prog (z1z N) c) : z13 Go.Proofs.Tryd.prog c (zg z1i [0, 1]) (z6g N) :=
  z2w (s := [(0, .nilp)]) (m := 28) (g := z6i N) [0] (zj hb N (zdo N) z2s z1i (TabOk.cons (zce hb) TabOk.nil) [0, 1] _ rfl) (fun x K => by kernel_rfl)

def z5m (N : Nat) : Option (List UInt8) :=
 z6e N
 (fun x2 => some x2)
 (none)

def z7t (N : Nat) : Tab (List UInt8) := [([0, 1], z6g N)]

theorem zb0 (N : Nat) (x : z2i [(0, .nilp)]) : zak (z1z N) N (z7t N) z2s Go.Proofs.Tryd.f14 (mkS [(0, .nilp)] 0 x) (z56 (.v .str) 1) = z5m N := by kernel_rfl

def zcd (N : Nat) : List A -> Res := z1y [(0, .nilp)] (fun x => z5m N) (zdc (.v .str) 1)

theorem zdp (N : Nat) : Contract Go.Proofs.Tryd.prog glob 14 (zcd N) :=
  Contract.of (E := z1z N) (H := z7t N) (L := z2s) (N := N) (body := z1i) (K := (z56 (.v .str) 1)) (zcg N) Go.Proofs.Tryd.func14 (by kernel_rfl) (by decide) (fun _ hb => (TabOk.cons (zcf hb) TabOk.nil)) (fun x y h => by rw [zb0]; exact h) (z1k (s := (.v .str)) (m := 1))

def z5p (N : Nat) : List A -> Res := zkb [(0, .nilp)] (fun x => z5m N) (zdc (.v .str) 1) (za0 N)

theorem zab (N : Nat) : Contract Go.Proofs.Tryd.prog glob 14 (z5p N) := Contract.alt (zdp N) (zel N)

def zeo : Code := (Go.Proofs.Tryd.f15.body).getD .skip

def zb9 : List (List Nat × List Nat) := [([0], [0]), ([0, 0, 1], [4, 0]), ([1, 0, 1], [0]), ([0, 0, 1, 0, 1], [2, 0]), ([1, 0, 1, 0, 1], [2, 0]), ([0, 1, 1], [2, 0]), ([1, 1, 1], [2, 0])]

def z6l (N : Nat) : Env := z3v tys glob [] [] [] [0] false [] []

theorem zfr (N : Nat) : EnvOk Go.Proofs.Tryd.prog (z6l N) := zu mixed z1x (FnsOk.nil) (ItsOk.nil)

def zep (N : Nat) (h : (Bool × ((List Int) × ((List UInt8) × (Int × Unit))))) : Option (Int × ((Bool × ((List Int) × ((List UInt8) × (Int × Unit)))) × Unit)) :=
 some (h.2.2.2.1, (h, ()))

def zb6 (N : Nat) : Tab (Int × ((Bool × ((List Int) × ((List UInt8) × (Int × Unit)))) × Unit)) := []

theorem zen (N : Nat) (x : z2i [(0, .box (.pair .bool (.pair (.arr 8 (.int .u32)) (.pair .str (.pair (.int .i64) .unit)))))]) : zak (z6l N) N (zb6 N) zb9 Go.Proofs.Tryd.f15 (mkS [(0, .box (.pair .bool (.pair (.arr 8 (.int .u32)) (.pair .str (.pair (.int .i64) .unit)))))] 0 x) (zjt (.v (.int .i64)) [(0, .box (.pair .bool (.pair (.arr 8 (.int .u32)) (.pair .str (.pair (.int .i64) .unit)))))] 0) = zep N x.1 := by kernel_rfl

def z8l (N : Nat) : List A -> Res := z1y [(0, .box (.pair .bool (.pair (.arr 8 (.int .u32)) (.pair .str (.pair (.int .i64) .unit)))))] (fun x => zep N x.1) (zqh (.v (.int .i64)) [(0, .box (.pair .bool (.pair (.arr 8 (.int .u32)) (.pair .str (.pair (.int .i64) .unit)))))] 0)

theorem zh4 (N : Nat) : Contract Go.Proofs.Tryd.prog glob 15 (z8l N) :=
  Contract.of (E := z6l N) (H := zb6 N) (L := zb9) (N := N) (body := zeo) (K := (zjt (.v (.int .i64)) [(0, .box (.pair .bool (.pair (.arr 8 (.int .u32)) (.pair .str (.pair (.int .i64) .unit)))))] 0)) (zfr N) Go.Proofs.Tryd.func15 (by kernel_rfl) (by decide) (fun _ hb => TabOk.nil) (fun x y h => by rw [zen]; exact h) (zhf (s := (.v (.int .i64))) (os := [(0, .box (.pair .bool (.pair (.arr 8 (.int .u32)) (.pair .str (.pair (.int .i64) .unit)))))]) (m := 0))

def zad : Code := (Go.Proofs.Tryd.f15.body).getD .skip

def z6k : List (List Nat × List Nat) := [([0], [0]), ([0, 0, 1], [4, 0]), ([1, 0, 1], [0]), ([0, 0, 1, 0, 1], [2]), ([1, 0, 1, 0, 1], [2]), ([0, 1, 1], [2]), ([1, 1, 1], [2])]

def z3l (N : Nat) : Env := z3v tys glob [] [] [] [] false [] []

theorem zb8 (N : Nat) : EnvOk Go.Proofs.Tryd.prog (z3l N) := zu mixed z1x (FnsOk.nil) (ItsOk.nil)

def z4t (N : Nat) : Option Int :=
 some (0 : Int)

def z6j (N : Nat) : Tab Int := []

theorem zac (N : Nat) (x : z2i [(0, .nilp)]) : zak (z3l N) N (z6j N) z6k Go.Proofs.Tryd.f15 (mkS [(0, .nilp)] 0 x) (z56 (.v (.int .i64)) 1) = z4t N := by kernel_rfl

def zb7 (N : Nat) : List A -> Res := z1y [(0, .nilp)] (fun x => z4t N) (zdc (.v (.int .i64)) 1)

theorem zch (N : Nat) : Contract Go.Proofs.Tryd.prog glob 15 (zb7 N) :=
  Contract.of (E := z3l N) (H := z6j N) (L := z6k) (N := N) (body := zad) (K := (z56 (.v (.int .i64)) 1)) (zb8 N) Go.Proofs.Tryd.func15 (by kernel_rfl) (by decide) (fun _ hb => TabOk.nil) (fun x y h => by rw [zac]; exact h) (z1k (s := (.v (.int .i64))) (m := 1))

def z5d (N : Nat) : List A -> Res := zkb [(0, .nilp)] (fun x => z4t N) (zdc (.v (.int .i64)) 1) (z8l N)

theorem z9d (N : Nat) : Contract Go.Proofs.Tryd.prog glob 15 (z5d N) := Contract.alt (zch N) (zh4 N)

def zai : Code := (Go.Proofs.Tryd.f4.body).getD .skip

def z7e : List (List Nat × List Nat) := [([0], []), ([0, 1], [1]), ([0, 1, 1], [1]), ([0, 1, 1, 1], [1]), ([0, 1, 1, 1, 1], [0]), ([1, 1, 1, 1, 1], [0])]

def z3t (N : Nat) : Env := z3v tys glob [(15, z5d N), (14, z5p N), (13, z9b N), (12, z3d N), (11, zdm N)] [] [] [] false [] []

theorem zbu (N : Nat) : EnvOk Go.Proofs.Tryd.prog (z3t N) := zu mixed z1x (FnsOk.cons (z9d N) (FnsOk.cons (zab N) (FnsOk.cons (zfl N) (FnsOk.cons (z4o N) (FnsOk.cons (zk5 N) (FnsOk.nil)))))) (ItsOk.nil)

def z1r (N : Nat) : Option Bool :=
 (z5e N (true, (([(1779033703 : Int), (3144134277 : Int), (1013904242 : Int), (2773480762 : Int), (1359893119 : Int), (2600822924 : Int), (528734635 : Int), (1541459225 : Int)] : List Int), (([] : List UInt8), ((0 : Int), ())))) ([(97 : UInt8), (98 : UInt8)] : List UInt8)).bind fun y =>
 (z5e N y.2.1 ([(99 : UInt8)] : List UInt8)).bind fun y1 =>
 (zfm N ([(97 : UInt8), (98 : UInt8), (99 : UInt8)] : List UInt8)).bind fun y2 =>
 cond (y2 == ([(186 : UInt8), (120 : UInt8), (22 : UInt8), (191 : UInt8), (143 : UInt8), (1 : UInt8), (207 : UInt8), (234 : UInt8), (65 : UInt8), (65 : UInt8), (64 : UInt8), (222 : UInt8), (93 : UInt8), (174 : UInt8), (34 : UInt8), (35 : UInt8), (176 : UInt8), (3 : UInt8), (97 : UInt8), (163 : UInt8), (150 : UInt8), (23 : UInt8), (122 : UInt8), (156 : UInt8), (180 : UInt8), (16 : UInt8), (255 : UInt8), (97 : UInt8), (242 : UInt8), (0 : UInt8), (21 : UInt8), (173 : UInt8)] : List UInt8))
 ((z7u N y1.2.1).bind fun y3 =>
 (zfm N ([(97 : UInt8), (98 : UInt8), (99 : UInt8)] : List UInt8)).bind fun y4 =>
 cond (y3.1 == y4)
 (some (y3.2.1.2.2.2.1 == (3 : Int)))
 (some false))
 (some false)

def z7d (N : Nat) : Tab Bool := []

theorem zah (N : Nat) (x : z2i []) : zak (z3t N) N (z7d N) z7e Go.Proofs.Tryd.f4 (mkS [] 0 x) (z56 (.v .bool) 0) = z1r N := by kernel_rfl

def z5i (N : Nat) : List A -> Res := z1y [] (fun x => z1r N) (zdc (.v .bool) 0)

theorem zd5 (N : Nat) : Contract Go.Proofs.Tryd.prog glob 4 (z5i N) :=
  Contract.of (E := z3t N) (H := z7d N) (L := z7e) (N := N) (body := zai) (K := (z56 (.v .bool) 0)) (zbu N) Go.Proofs.Tryd.func4 (by kernel_rfl) (by decide) (fun _ hb => TabOk.nil) (fun x y h => by rw [zah]; exact h) (z1k (s := (.v .bool)) (m := 0))

def cv (xs : List Int) : Array Value := (xs.map (fun x => Value.int .u64 x)).toArray

theorem cv_at {xs : List Int} {i : Nat} (h : i < xs.length) : (cv xs)[i]? = some (.int .u64 (xs.getD i 0)) := by
  simp [cv, List.getD, h]

theorem zwy (xs : List Int) (i : Nat) (v : Int) : (cv xs).setIfInBounds i (.int .u64 v) = cv (xs.set i v) := by
  simp [cv]

structure PutW (w : World) (b E : Nat) (xs : List Int) (w' : World) : Prop where
  at_ : w'.heap[b]? = some (.cells (cv xs) E (0, 0))
  size : w'.heap.size = w.heap.size
  same : ∀ k, k ≠ b -> w'.heap[k]? = w.heap[k]?
  tape : w'.tape = w.tape
  os : w'.os = w.os
  output : w'.output = w.output

theorem PutW.cell {w w' : World} {b E : Nat} {xs : List Int} (h : PutW w b E xs w') {i : Nat} (hi : i < xs.length) : w'.cell? ⟨b, i, none⟩ = some (.int .u64 (xs.getD i 0)) := by
  simp only [World.cell?, h.at_]
  exact cv_at hi

theorem PutW.free {w w' : World} {b E i : Nat} {xs : List Int} (h : PutW w b E xs w') : w'.frozen? ⟨b, i, none⟩ = false := by
  simp [World.frozen?, h.at_]

theorem PutW.set {w w' : World} {b E : Nat} {xs : List Int} (h : PutW w b E xs w') (i : Nat) (v : Int) : PutW w b E (xs.set i v) (w'.setCell ⟨b, i, none⟩ (.int .u64 v)) := by
  have e : w'.setCell ⟨b, i, none⟩ (.int .u64 v) = zw w' b (.cells ((cv xs).setIfInBounds i (.int .u64 v)) E (0, 0)) := zk7 _ h.at_
  rw [e, zwy]
  exact ⟨z1e (w := w') h.at_, by simp [zw, h.size], fun k hk => (ze (w := w') (o := .cells (cv (xs.set i v)) E (0, 0)) hk).trans (h.same k hk), h.tape, h.os, h.output⟩

def prt (at_ i : Nat) (n : Int) : Int := if i = at_ then n.tmod 4294967296 else if i = at_ + 1 then IntKind.wrap .u64 (n.tdiv 4294967296) else 0

def smP (at_ : Nat) (n : Int) (i : Nat) (carry : Int) (xs : List Int) : Int := IntKind.wrap .u64 (IntKind.wrap .u64 (xs.getD i 0 + prt at_ i n) + carry)

def zla (at_ : Nat) (n : Int) : Nat -> Nat -> Int -> List Int -> List Int
  | 0, _, _, xs => xs
  | f + 1, i, carry, xs => zla at_ n f (i + 1) (IntKind.wrap .u64 ((smP at_ n i carry xs).tdiv 4294967296)) (xs.set i ((smP at_ n i carry xs).tmod 4294967296))

def zuh (at_ : Nat) (n : Int) (xs : List Int) : List Int := zla at_ n (xs.length - at_) at_ 0 xs

theorem zmw (at_ : Nat) (n : Int) : ∀ (f i : Nat) (c : Int) (xs : List Int), (zla at_ n f i c xs).length = xs.length
  | 0, _, _, _ => rfl
  | f + 1, i, c, xs => by rw [zla, zmw at_ n f]; simp

theorem PutW.trans {w w1 w2 : World} {b E : Nat} {xs ys : List Int} (h : PutW w b E xs w1) (h' : PutW w1 b E ys w2) : PutW w b E ys w2 :=
  ⟨h'.at_, h'.size.trans h.size, fun k hk => (h'.same k hk).trans (h.same k hk), h'.tape.trans h.tape, h'.os.trans h.os, h'.output.trans h.output⟩

theorem zvr {xs : List Int} {i : Nat} (h : i < xs.length) : xs[i] = xs.getD i 0 := by simp [List.getD, h]

def ixP (a : Act) : Nat := match a.tmps[7]! with | .int _ i => i.toNat | _ => 0

set_option maxHeartbeats 4000000 in
theorem zpj {w : World} {b E len at_ : Nat} {n : Int} {xs : List Int} (hl : xs.length = len) (hw : PutW w b E xs w) (hat : at_ <= len) (hlen : len <= 1000) : Calls Tryd.prog 30 #[.slice (some ⟨b, 0, none⟩) len len, .int .i64 (at_ : Int), .int .u64 n] w fun e w' => (∃ v, e = .returned v) /\ PutW w b E (zuh at_ n xs) w' := by
  suffices HX : ∀ R : Ending -> World -> Prop, Go.RowKit.Hid (∀ v w', PutW w b E (zuh at_ n xs) w' -> R (.returned v) w') -> Calls Tryd.prog 30 #[.slice (some ⟨b, 0, none⟩) len len, .int .i64 (at_ : Int), .int .u64 n] w R from HX _ (Go.Lib.hid (fun v w' h => ⟨⟨v, rfl⟩, h⟩))
  intro R HR
  go_enter Tryd.func30, Tryd.ntmps30
  go_wp2
  refine wp_loop (fun a w' => ∃ (i : Nat) (carry : Int) (xs' : List Int) (x8 x9 x10 x11 x12 x13 x14 x15 x16 x17 x18 x19 x20 x21 x22 x23 x24 x25 x26 x27 x28 x29 x30 x31 x32 x33 x34 x35 x36 x37 x38 x39 x40 x41 x42 : Value), xs'.length = len /\ i <= len /\ PutW w b E xs' w' /\ zla at_ n (len - i) i carry xs' = zuh at_ n xs /\ a = { tmps := #[.slice (some ⟨b, 0, none⟩) len len, .int .i64 (at_ : Int), .int .u64 n, undef, undef, undef, .int .u64 carry, .int .i64 (i : Int), x8, x9, x10, x11, x12, x13, x14, x15, x16, x17, x18, x19, x20, x21, x22, x23, x24, x25, x26, x27, x28, x29, x30, x31, x32, x33, x34, x35, x36, x37, x38, x39, x40, x41, x42], defers := [] }) (fun a _ => len - ixP a) ⟨at_, 0, xs, _, _, _, _, _, _, _, _, _, _, _, _, _, _, _, _, _, _, _, _, _, _, _, _, _, _, _, _, _, _, _, _, _, _, _, hl, hat, hw, by rw [zuh, hl], rfl⟩ ?_
  rintro a w' ⟨i, carry, xs', x8, x9, x10, x11, x12, x13, x14, x15, x16, x17, x18, x19, x20, x21, x22, x23, x24, x25, x26, x27, x28, x29, x30, x31, x32, x33, x34, x35, x36, x37, x38, x39, x40, x41, x42, hx, hi, hp, hg, rfl⟩
  clear hw
  rcases Nat.lt_or_ge i len with hik | hik
  . have hd : decide ((i : Int) < (len : Int)) = true := decide_eq_true (by omega)
    have hb1 : (0 : Int) <= (i : Int) := by omega
    have hb2 : (i : Int) < (len : Int) := by omega
    have c0 := hp.cell (i := i) (by omega)
    have f0 := hp.free (i := i)
    have hstep : zla at_ n (len - i) i carry xs' = zla at_ n (len - (i + 1)) (i + 1) (IntKind.wrap .u64 ((smP at_ n i carry xs').tdiv 4294967296)) (xs'.set i ((smP at_ n i carry xs').tmod 4294967296)) := by
      rw [show len - i = (len - (i + 1)) + 1 by omega, zla]
    have hG := Go.Lib.hid (hstep.symm.trans hg)
    have hE := Go.Lib.hid (zvr (xs := xs') (i := i) (by omega))
    clear hg hstep
    go_wp2
    all_goals (
      rename_i q1 q2
      have q1 := Go.Lib.hid q1
      have q2 := Go.Lib.hid q2
      refine ⟨⟨i + 1, _, _, _, _, _, _, _, _, _, _, _, _, _, _, _, _, _, _, _, _, _, _, _, _, _, _, _, _, _, _, _, _, _, _, _, _, _, ?_, by omega, hp.set i _, ?_, rfl⟩, ?_⟩
      . simp [hx]
      . have hg := hG.out
        have e1 := q1.out
        have e2 := q2.out
        simp only [smP, prt] at hg
        simp only [hE.out]
        first
          | (have : i = at_ := by simp at e1; omega
             simp only [this, if_true] at hg ⊢; exact hg)
          | (have h1 : i = at_ + 1 := by simp at e2; omega
             rw [if_neg (by omega), if_pos h1] at hg; exact hg)
          | (have h1 : ¬ i = at_ := by simp at e1; omega
             have h2 : ¬ i = at_ + 1 := by simp at e2; omega
             rw [if_neg h1, if_neg h2, Int.add_zero] at hg; exact hg)
      . show len - ((i : Int) + 1).toNat < len - (i : Int).toNat
        omega)
  . have hd : decide ((i : Int) < (len : Int)) = false := decide_eq_false (by omega)
    have hg' : xs' = zuh at_ n xs := by rw [<- hg, show len - i = 0 by omega, zla]
    rw [hg'] at hp
    have HP := Go.Lib.hid hp
    clear hp hg hg'
    go_wp2
    exact ⟨rfl, .tuple #[], by simp [results, Tryd.results30], HR.out _ _ HP.out⟩

theorem PutW.self {w : World} {b E : Nat} {xs : List Int} (h : w.heap[b]? = some (.cells (cv xs) E (0, 0))) : PutW w b E xs w := ⟨h, rfl, fun _ _ => rfl, rfl, rfl, rfl⟩

theorem zvm (n : Nat) : madeCells #[.int .u64 0] n = cv (List.replicate n 0) := by
  apply Array.toList_inj.1
  apply List.ext_getElem
  . simp [madeCells, cv]
  . intro i h1 h2
    simp [madeCells, cv, Nat.mod_one]

theorem zwq (w : World) (m : Nat) (hm : m <= 1000) : (Instr.makeSlice 56 (.int .i64 (m : Int)) (.int .i64 (m : Int))).run Tryd.prog w = .ok (.slice (some ⟨w.heap.size, 0, none⟩) m m) (w.alloc (.cells (cv (List.replicate m 0)) 46)) := by
  obtain ⟨inf, h1, h2, h3, z, h4, h5⟩ := ty46_ok.info
  have hz : z = .int .u64 0 := VR.int_inv h5
  have hs : inf.size = 1 := h2
  have hby : inf.bytes = 8 := h3
  have := run_makeSlice (P := Tryd.prog) w 56 46 inf z Tryd.underlying56 h1 h4 .i64 .i64 (m : Int) (m : Int) (by omega) (Int.le_refl _) (by rw [hs, Int.toNat_natCast]; omega) (by rw [hby]; omega) (by omega)
  rw [this, hz, hs, Int.toNat_natCast, Nat.mul_one]
  show Result.ok _ (w.alloc (.cells (madeCells #[.int .u64 0] m) _)) = _
  rw [zvm]

def zde (ds : List Int) (lo hi : Int) : Nat -> Nat -> List Int -> List Int
  | 0, _, xs => xs
  | f + 1, i, xs => zde ds lo hi f (i + 1) (zuh (i + 1) (IntKind.wrap .u64 (ds.getD i 0 * hi)) (zuh i (IntKind.wrap .u64 (ds.getD i 0 * lo)) xs))

def z2y (ds : List Int) (n : Int) : List Int := zde ds (n.tmod 4294967296) (IntKind.wrap .u64 (n.tdiv 4294967296)) ds.length 0 (List.replicate (ds.length + 3) 0)

theorem zex (at_ : Nat) (n : Int) (xs : List Int) : (zuh at_ n xs).length = xs.length := zmw ..

def ixT (a : Act) : Nat := match a.tmps[8]! with | .int _ i => i.toNat | _ => 0

set_option maxHeartbeats 4000000 in
theorem zpy {w : World} {bd off dn dc : Nat} {n : Int} {ds : List Int} (hl : ds.length = dn) (hlen : dn <= 100) (hd : ∀ j, j < dn -> w.cell? ⟨bd, off + j, none⟩ = some (.int .u64 (ds.getD j 0))) {R : Ending -> World -> Prop} (HR : Go.RowKit.Hid (∀ w', PutW (w.alloc (.cells (cv (List.replicate (dn + 3) 0)) 46)) w.heap.size 46 (z2y ds n) w' -> R (.returned (.slice (some ⟨w.heap.size, 0, none⟩) (dn + 3) (dn + 3))) w')) :
    Calls Tryd.prog 29 #[.slice (some ⟨bd, off, none⟩) dn dc, .int .u64 n] w R := by
  have hmk : (Instr.makeSlice 56 (.int .i64 ((dn : Int) + 3)) (.int .i64 ((dn : Int) + 3))).run Tryd.prog w = .ok (.slice (some ⟨w.heap.size, 0, none⟩) (dn + 3) (dn + 3)) (w.alloc (.cells (cv (List.replicate (dn + 3) 0)) 46)) := zwq w (dn + 3) (by omega)
  have hp0 : PutW (w.alloc (.cells (cv (List.replicate (dn + 3) 0)) 46)) w.heap.size 46 (List.replicate (dn + 3) 0) (w.alloc (.cells (cv (List.replicate (dn + 3) 0)) 46)) := PutW.self (by
    show (w.heap.push _)[w.heap.size]? = _
    rw [Array.getElem?_push_size])
  have hd1 := Go.Lib.hid (fun (w' : World) (xs : List Int) (h : PutW (w.alloc (.cells (cv (List.replicate (dn + 3) 0)) 46)) w.heap.size 46 xs w') (j : Nat) (hj : j < dn) => (show w'.cell? ⟨bd, off + j, none⟩ = some (.int .u64 (ds.getD j 0)) by
    have hc := hd j hj
    have hlt : bd < w.heap.size := by
      cases hh : w.heap[bd]? with
      | none => simp [World.cell?, hh] at hc
      | some o => exact (Array.getElem?_eq_some_iff.1 hh).1
    have e : w'.heap[bd]? = w.heap[bd]? := by
      rw [h.same bd (by omega)]
      show (w.heap.push _)[bd]? = _
      rw [Array.getElem?_push_lt hlt, Array.getElem?_eq_getElem hlt]
    simp only [World.cell?] at hc ⊢
    rw [e]; exact hc))
  have HP := Go.Lib.hid hp0
  clear hd hp0
  go_enter Tryd.func29, Tryd.ntmps29
  go_wp2
  refine wp_loop (fun a w' => ∃ (i : Nat) (xs : List Int) (x17 x18 x19 x20 x21 x22 x23 x24 x25 x26 x27 x28 x29 x30 x31 x32 x33 x34 x35 x36 x37 x38 x39 x40 x41 x42 : Value), xs.length = dn + 3 /\ i <= dn /\ PutW (w.alloc (.cells (cv (List.replicate (dn + 3) 0)) 46)) w.heap.size 46 xs w' /\ zde ds (n.tmod 4294967296) (IntKind.wrap .u64 (n.tdiv 4294967296)) (dn - i) i xs = z2y ds n /\ a = { tmps := #[.slice (some ⟨bd, off, none⟩) dn dc, .int .u64 n, undef, undef, .slice none 0 0, .int .u64 (n.tmod 4294967296), .int .u64 (IntKind.wrap .u64 (n.tdiv 4294967296)), .slice (some ⟨w.heap.size, 0, none⟩) (dn + 3) (dn + 3), .int .i64 (i : Int), .int .u64 n, .int .u64 (n.tmod 4294967296), .int .u64 n, .int .u64 (IntKind.wrap .u64 (n.tdiv 4294967296)), .slice (some ⟨bd, off, none⟩) dn dc, .int .i64 (dn : Int), .int .i64 ((dn : Int) + 3), .slice (some ⟨w.heap.size, 0, none⟩) (dn + 3) (dn + 3), x17, x18, x19, x20, x21, x22, x23, x24, x25, x26, x27, x28, x29, x30, x31, x32, x33, x34, x35, x36, x37, x38, x39, x40, x41, x42], defers := [] }) (fun a _ => dn - ixT a) ⟨0, List.replicate (dn + 3) 0, _, _, _, _, _, _, _, _, _, _, _, _, _, _, _, _, _, _, _, _, _, _, _, _, _, _, by simp, Nat.zero_le _, HP.out, by rw [z2y, hl]; rfl, rfl⟩ ?_
  rintro a w' ⟨i, xs, x17, x18, x19, x20, x21, x22, x23, x24, x25, x26, x27, x28, x29, x30, x31, x32, x33, x34, x35, x36, x37, x38, x39, x40, x41, x42, hx, hi, hp, hg, rfl⟩
  rcases Nat.lt_or_ge i dn with hik | hik
  . have hdd : decide ((i : Int) < (dn : Int)) = true := decide_eq_true (by omega)
    have hb1 : (0 : Int) <= (i : Int) := by omega
    have hb2 : (i : Int) < (dn : Int) := by omega
    have c0 := hd1.out w' xs hp i hik
    obtain ⟨di, hdi⟩ : ∃ y, y = ds.getD i 0 := ⟨_, rfl⟩
    rw [<- hdi] at c0
    have HD := Go.Lib.hid hdi
    clear hdi
    have HA := zpj (len := dn + 3) (at_ := i) (n := IntKind.wrap .u64 (di * (n.tmod 4294967296))) hx (PutW.self hp.at_) (by omega) (by omega)
    have HG := Go.Lib.hid (And.intro hp hg)
    have HX := Go.Lib.hid hx
    clear hp hg hx
    go_wp2_with (first
      | (go_at_call 30; refine HA.mono ?_; rintro r w2 ⟨⟨v1, rfl⟩, h2⟩; have h2' := HG.out.1.trans h2; have c2 := hd1.out w2 _ h2' i hik; rw [<- HD.out] at c2; have HB := zpj (len := dn + 3) (at_ := i + 1) (n := IntKind.wrap .u64 (di * (IntKind.wrap .u64 (n.tdiv 4294967296)))) ((zex _ _ _).trans HX.out) (PutW.self h2'.at_) (by omega) (by omega); have H2 := Go.Lib.hid h2'; clear HA h2 h2')
      | (go_at_call 30; refine HB.mono ?_; rintro r w3 ⟨⟨v2, rfl⟩, h3⟩; have H3 := Go.Lib.hid (H2.out.trans h3); clear HB h3))
    refine ⟨⟨i + 1, _, _, _, _, _, _, _, _, _, _, _, _, _, _, _, _, _, _, _, _, _, _, _, _, _, _, _, ?_, by omega, H3.out, ?_, rfl⟩, ?_⟩
    . rw [zex, zex]; exact HX.out
    . have hg := HG.out.2
      rw [show dn - i = (dn - (i + 1)) + 1 by omega, zde, <- HD.out] at hg
      exact hg
    . show dn - ((i : Int) + 1).toNat < dn - (i : Int).toNat
      omega
  . have hdd : decide ((i : Int) < (dn : Int)) = false := decide_eq_false (by omega)
    have hg' : xs = z2y ds n := by rw [<- hg, show dn - i = 0 by omega, zde]
    rw [hg'] at hp
    have HQ := Go.Lib.hid hp
    clear hp hg hg'
    go_wp2
    try go_ret
    exact HR.out _ HQ.out

theorem zhk (ds : List Int) (lo hi : Int) : ∀ (f i : Nat) (xs : List Int), (zde ds lo hi f i xs).length = xs.length
  | 0, _, _ => rfl
  | f + 1, i, xs => by rw [zde, zhk ds lo hi f, zex, zex]

theorem zq0 (ds : List Int) (n : Int) : (z2y ds n).length = ds.length + 3 := by rw [z2y, zhk, List.length_replicate]

theorem zt7 {S : Hp} {k : IntKind} : ∀ {xs : List Int} {cs : List Value}, All (Rd S (.int k)) xs cs -> cs = xs.map (fun x => Value.int k x)
  | [], _, h => h
  | x :: xs, _, ⟨c1, c2, e, h1, h2⟩ => by
    rw [e, show c1 = [Value.int k x] from h1, zt7 h2]; rfl

theorem zsh (S : Hp) (k : IntKind) : ∀ (xs : List Int), All (Rd S (.int k)) xs (xs.map (fun x => Value.int k x))
  | [] => rfl
  | x :: xs => ⟨[Value.int k x], xs.map (fun x => Value.int k x), rfl, rfl, zsh S k xs⟩

def zfv (N : Nat) (ds : List Int) (n : Int) : Option (List Int) := cond (decide (0 < ds.length /\ ds.length <= 100)) (some (z2y ds n)) none

def z5f (N : Nat) : List A -> Res := z1y [(0, .v (.sl (.int .u64))), (0, .v (.int .u64))] (fun x => zfv N x.1 x.2.1) (zdc (.row (.int .u64)) 2)

theorem zpz {w w' : World} {S : Hp} {args : List A} {vals : List Value} {ob : Nat -> List Nat} {outs : List A} {dn E : Nat} {xs : List Int} (hS : Lift.Sub S (hp w)) (hx : xs.length = dn) (hob : ∀ i, ob i = []) (hb : ∀ y ∈ args, z82 y = false)
    (hp1 : PutW (w.alloc (.cells (cv (List.replicate dn 0)) E)) w.heap.size E xs w') : Lift.Ends w S args vals ob (.row (.int .u64) xs) outs (.returned (.slice (some ⟨w.heap.size, 0, none⟩) dn dn)) w' := by
  have hh : (w.alloc (.cells (cv (List.replicate dn 0)) E)).heap = w.heap.push (.cells (cv (List.replicate dn 0)) E (0, 0)) := rfl
  have hold : ∀ k, k < w.heap.size -> w'.heap[k]? = w.heap[k]? := fun k hk => by
    rw [hp1.same k (by omega), hh, Array.getElem?_push, if_neg (by omega)]
  have hsz : w'.heap.size = w.heap.size + 1 := by rw [hp1.size, hh, Array.size_push]
  have hno : ∀ k, ¬ ∃ i, k ∈ ob i := fun k ⟨i, hi⟩ => by rw [hob i] at hi; cases hi
  have hSn : S w.heap.size = none := by
    cases hs : S w.heap.size with
    | none => rfl
    | some q =>
      have := hS _ _ hs
      simp only [hp] at this
      have := (Array.getElem?_eq_some_iff.1 this).1
      omega
  refine ⟨_, S, [w.heap.size], ob, rfl, ⟨by omega, fun k hk _ => hold k hk, hp1.tape, hp1.os, hp1.output⟩, Lift.Sub.refl S, fun k q hq => ?_, fun k hk => .inl hk, ⟨?_, rfl⟩, fun k hk => ?_, by simp, ?_, ?_, ?_, ?_, fun _ h => h⟩
  . have := hS k q hq
    simp only [hp] at this ⊢
    rw [hold k (Array.getElem?_eq_some_iff.1 this).1]; exact this
  . refine .inr ⟨w.heap.size, dn, cv xs, E, (0, 0), rfl, by rw [hx], hp1.at_, fun i hi h => by omega, by simp [cv, hx, T.size], by omega, ?_, fun q hq => by cases hq⟩
    have : (cv xs).toList.take (xs.length * (T.int .u64).size) = xs.map (fun x => Value.int .u64 x) := by
      simp only [cv, T.size, Nat.mul_one, List.toList_toArray]
      exact List.take_of_length_le (by simp)
    rw [this]
    exact zsh S .u64 xs
  . rw [List.mem_singleton.1 hk]
    exact ⟨hSn, .inr (Nat.le_refl _)⟩
  . intro i y hy hbx
    have := hb y (List.mem_of_getElem? hy)
    rw [hbx] at this; cases this
  . intro i k hi
    exact absurd ⟨i, hi⟩ (hno k)
  . intro i j k hi
    exact absurd ⟨i, hi⟩ (hno k)
  . intro i
    rw [hob i]; exact .nil

theorem zcl (N : Nat) : Contract Tryd.prog glob 29 (z5f N) := by
  refine Contract.hand ⟨_, Tryd.func29, by kernel_rfl, by decide⟩ ?_
  rintro w S vals ob ⟨ds, n, ⟨⟩⟩ y har hS hg hy
  have hy' : cond (decide (0 < ds.length /\ ds.length <= 100)) (some (z2y ds n)) none = some y := hy
  by_cases hlen : 0 < ds.length /\ ds.length <= 100
  case neg => rw [decide_eq_false hlen] at hy'; cases hy'
  rw [decide_eq_true hlen] at hy'
  have hy2 : y = z2y ds n := (Option.some.inj hy').symm
  subst hy2
  have hob : ∀ i, ob i = [] := by
    intro i
    match i with
    | 0 => obtain ⟨⟨u1, e1, r1⟩, _⟩ := har.rel 0 _ rfl; exact r1.2
    | 1 => obtain ⟨⟨u2, e2, r2⟩, _⟩ := har.rel 1 _ rfl; exact r2.2
    | i + 2 => exact har.out _ (by simp [mkS, zj9])
  obtain ⟨⟨u1, e1, r1⟩, _⟩ := har.rel 0 _ rfl
  obtain ⟨⟨u2, e2, r2⟩, _⟩ := har.rel 1 _ rfl
  have hv : vals = [u1, u2] := by
    match vals, har.len, e1, e2 with
    | [a, b], _, h1, h2 => simp at h1 h2; rw [h1, h2]
  subst hv
  obtain ⟨a, cap, rfl, hcap, hm⟩ := VR.sl_inv r1.1
  rw [VR.int_inv r2.1]
  rcases hm with hm | ⟨b, off, c1, rfl, ⟨all, E, fr, c0, c2, hSb, hall, hoff⟩, hA⟩
  . have hm : ds = [] := hm
    rw [hm] at hlen; exact absurd hlen.1 (by simp)
  have hc1 := zt7 hA
  have hwb : w.heap[b]? = some (.cells all E fr) := hS b _ hSb
  have hcell : ∀ j, j < ds.length -> w.cell? ⟨b, off + j, none⟩ = some (.int .u64 (ds.getD j 0)) := by
    intro j hj
    simp only [World.cell?, hwb]
    have : all.toList[off + j]? = some (.int .u64 (ds.getD j 0)) := by
      rw [hall, List.getElem?_append_right (by omega), hoff, Nat.add_sub_cancel_left, List.getElem?_append_left (by rw [hc1, List.length_map]; exact hj), hc1, List.getElem?_map]
      simp [List.getD, hj]
    simpa using this
  refine zpy (R := fun e w' => Lift.Ends w S _ _ ob _ _ e w') rfl hlen.2 hcell (Go.Lib.hid (fun w' h => ?_))
  exact zpz hS (zq0 ds n) hob (by intro y hy; have hy : y ∈ [A.v (.sl (.int .u64)) ds, A.v (.int .u64) n] := hy; simp at hy; rcases hy with rfl | rfl <;> rfl) h

def zy : Code := (Go.Proofs.Tryd.f28.body).getD .skip

def z1v : List (List Nat × List Nat) := [([0], [0, 1]), ([0, 1], [5, 1]), ([0, 1, 1], [5, 6, 1]), ([0, 0, 1, 1, 1], [7, 6, 5, 1]), ([0, 1, 0, 1, 1, 1], [7, 6, 5, 1]), ([0, 0, 0, 0, 1, 0, 1, 1, 1], [21, 6, 5, 7, 1]), ([1, 0, 0, 0, 1, 0, 1, 1, 1], [6, 5, 7, 1]), ([1, 1, 0, 0, 0, 1, 0, 1, 1, 1], [6, 5, 1]), ([0, 0, 1, 0, 0, 1, 0, 1, 1, 1], [7, 6, 5, 1]), ([0, 1, 0, 0, 1, 0, 1, 1, 1], [7, 6, 5, 1]), ([1, 1, 0, 0, 1, 0, 1, 1, 1], [7, 6, 5, 1]), ([1, 0, 1, 1, 1], [6, 5, 1]), ([0, 0, 1, 1, 1, 1], [38, 5, 1]), ([1, 0, 1, 1, 1, 1], [5, 1]), ([0, 0, 1, 0, 1, 1, 1, 1], [4]), ([1, 0, 1, 0, 1, 1, 1, 1], [4]), ([0, 1, 1, 1, 1, 1], [4]), ([1, 1, 1, 1, 1, 1], [4])]

def z1f (N : Nat) : Env := z3v tys glob [(29, z5f N)] [] [] [] false [] []

theorem zbp (N : Nat) : EnvOk Go.Proofs.Tryd.prog (z1f N) := zu mixed z1x (FnsOk.cons (zcl N) (FnsOk.nil)) (ItsOk.nil)

def z5s (N : Nat) (p : Int) (c : (List Int)) (high : Int) (i : Int) (rec : Int -> Int -> Option Bool) (k0 : Int -> Option Bool) : Option Bool :=
 cond (decide ((4 : Int) <= i))
 (cond (Go.Lift.inR i (List.length c))
 (rec (Go.IntKind.wrap Go.IntKind.u64 (high + (List.getD c (Int.toNat i) (0 : Int)))) (Go.IntKind.wrap Go.IntKind.i64 (i - (1 : Int))))
 (none))
 (k0 high)

def zcz (N : Nat) (p : Int) (c : (List Int)) (high : Int) (i : Int) (k0 : Int -> Option Bool) : Option Bool :=
 iter (fun (v : (Int × Int)) r => z5s N p c v.1 v.2 (fun high i => (r (high, i))) k0) N (high, i)

def z60 (N : Nat) (i : (Int × (List Int))) (v : (Int × Int)) (r : (Int × Int) -> Option Bool) (K : Ex -> List A -> Option Bool) : Option Bool :=
 z5s N i.1 i.2 v.1 v.2 (fun high i => (r (high, i))) (fun a2 => (K (.exit 0) (mkS [(1, .v (.int .u64)), (3, .v (.sl (.int .u64))), (0, .v (.int .u64))] 55 (i.1, i.2, a2, ()))))

def z5x (N : Nat) : Hd Bool := fun st K => (unS [(1, .v (.int .u64)), (3, .v (.sl (.int .u64))), (0, .v (.int .u64)), (0, .v (.int .i64))] 54 (restr [7, 6, 5, 1] 0 st)).bind fun x => iter (fun v r => z60 N ((fun x => (x.1, x.2.1)) x) v r K) N ((fun x => (x.2.2.1, x.2.2.2.1)) x)

def zcy (N : Nat) : Tab Bool := []

theorem zbo {N : Nat} {c : Ctx} (hb : Base Go.Proofs.Tryd.prog (z1f N) c) : z13 Go.Proofs.Tryd.prog c (zg zy [0, 1, 0, 1, 1, 1]) (z5x N) :=
  z3e (s := [(1, .v (.int .u64)), (3, .v (.sl (.int .u64))), (0, .v (.int .u64)), (0, .v (.int .i64))]) (m := 54) (z60 N) [7, 6, 5, 1] N (fun x => (x.1, x.2.1)) (fun x => (x.2.2.1, x.2.2.2.1)) (fun i v => (i.1, i.2, v.1, v.2, ())) (fun _ => rfl) (zj hb N (zcy N) z1v zy TabOk.nil [0, 0, 1, 0, 1, 1, 1] _ rfl) (fun i v r K => by kernel_rfl)

def z5t (N : Nat) (p : Int) (c : (List Int)) (high : Int) (k0 : Bool -> Option Bool) : Option Bool :=
 cond (decide ((0 : Int) < high))
 (k0 true)
 (cond (Go.Lift.inR (3 : Int) (List.length c))
 (k0 (decide (p < (List.getD c 3 (0 : Int)))))
 (none))

def z5y (N : Nat) (x : z2i [(1, .v (.int .u64)), (3, .v (.sl (.int .u64))), (0, .v (.int .u64))]) (K : Ex -> List A -> Option Bool) : Option Bool :=
 z5t N x.1 x.2.1 x.2.2.1 (fun a2 => (K .normal (mkS [(1, .v (.int .u64)), (3, .v (.sl (.int .u64))), (32, .v .bool)] 23 (x.1, x.2.1, a2, ()))))

def z5v (N : Nat) : Hd Bool := fun st K => (unS [(1, .v (.int .u64)), (3, .v (.sl (.int .u64))), (0, .v (.int .u64))] 55 (restr [6, 5, 1] 0 st)).bind fun x => z5y N x K

def zcw (N : Nat) : Tab Bool := []

theorem zbm {N : Nat} {c : Ctx} (hb : Base Go.Proofs.Tryd.prog (z1f N) c) : z13 Go.Proofs.Tryd.prog c (zg zy [0, 0, 1, 1, 1, 1]) (z5v N) :=
  z2w (s := [(1, .v (.int .u64)), (3, .v (.sl (.int .u64))), (0, .v (.int .u64))]) (m := 55) (g := z5y N) [6, 5, 1] (zj hb N (zcw N) z1v zy TabOk.nil [0, 0, 1, 1, 1, 1] _ rfl) (fun x K => by kernel_rfl)

def z5u (N : Nat) (p : Int) (c : (List Int)) (high : Int) (k0 : Bool -> Option Bool) (k1 : Option Bool) : Option Bool :=
 z5t N p c high
 (fun x38 => cond x38
 (k0 false)
 (k1))

def z5z (N : Nat) (x : z2i [(1, .v (.int .u64)), (3, .v (.sl (.int .u64))), (0, .v (.int .u64))]) (K : Ex -> List A -> Option Bool) : Option Bool :=
 z5u N x.1 x.2.1 x.2.2.1 (fun a0 => (K .ret (mkS [(4, .v .bool)] 57 (a0, ())))) (K .normal (mkS [(1, .v (.int .u64)), (3, .v (.sl (.int .u64)))] 56 (x.1, x.2.1, ())))

def z5w (N : Nat) : Hd Bool := fun st K => (unS [(1, .v (.int .u64)), (3, .v (.sl (.int .u64))), (0, .v (.int .u64))] 55 (restr [6, 5, 1] 0 st)).bind fun x => z5z N x K

def zcx (N : Nat) : Tab Bool := [([0, 0, 1, 1, 1, 1], z5v N)]

theorem zbn {N : Nat} {c : Ctx} (hb : Base Go.Proofs.Tryd.prog (z1f N) c) : z13 Go.Proofs.Tryd.prog c (zg zy [0, 1, 1, 1, 1]) (z5w N) :=
  z2w (s := [(1, .v (.int .u64)), (3, .v (.sl (.int .u64))), (0, .v (.int .u64))]) (m := 55) (g := z5z N) [6, 5, 1] (zj hb N (zcx N) z1v zy (TabOk.cons (zbm hb) TabOk.nil) [0, 1, 1, 1, 1] _ rfl) (fun x K => by kernel_rfl)

def z50 (N : Nat) (n : Int) (p : Int) : Option Bool :=
 zcz N p (z2y (z2y ([(Int.tmod n (4294967296 : Int)), (Go.IntKind.wrap Go.IntKind.u64 (Int.tdiv n (4294967296 : Int)))] : List Int) n) n) (0 : Int) (Go.IntKind.wrap Go.IntKind.i64 ((((List.length (z2y (z2y ([(Int.tmod n (4294967296 : Int)), (Go.IntKind.wrap Go.IntKind.u64 (Int.tdiv n (4294967296 : Int)))] : List Int) n) n)) : Nat) : Int) - (1 : Int)))
 (fun high => z5u N p (z2y (z2y ([(Int.tmod n (4294967296 : Int)), (Go.IntKind.wrap Go.IntKind.u64 (Int.tdiv n (4294967296 : Int)))] : List Int) n) n) high
 (fun x4 => some x4)
 (cond (decide ((List.getD (z2y (z2y ([(Int.tmod n (4294967296 : Int)), (Go.IntKind.wrap Go.IntKind.u64 (Int.tdiv n (4294967296 : Int)))] : List Int) n) n) 3 (0 : Int)) < p))
 (some true)
 (cond ((List.getD (z2y (z2y ([(Int.tmod n (4294967296 : Int)), (Go.IntKind.wrap Go.IntKind.u64 (Int.tdiv n (4294967296 : Int)))] : List Int) n) n) 0 (0 : Int)) == (0 : Int))
 (cond ((List.getD (z2y (z2y ([(Int.tmod n (4294967296 : Int)), (Go.IntKind.wrap Go.IntKind.u64 (Int.tdiv n (4294967296 : Int)))] : List Int) n) n) 1 (0 : Int)) == (0 : Int))
 (some ((List.getD (z2y (z2y ([(Int.tmod n (4294967296 : Int)), (Go.IntKind.wrap Go.IntKind.u64 (Int.tdiv n (4294967296 : Int)))] : List Int) n) n) 2 (0 : Int)) == (0 : Int)))
 (some false))
 (some false))))

def z77 (N : Nat) : Tab Bool := [([0, 1, 0, 1, 1, 1], z5x N), ([0, 1, 1, 1, 1], z5w N)]

theorem zae (N : Nat) (x : z2i [(0, .v (.int .u64)), (0, .v (.int .u64))]) : zak (z1f N) N (z77 N) z1v Go.Proofs.Tryd.f28 (mkS [(0, .v (.int .u64)), (0, .v (.int .u64))] 0 x) (z56 (.v .bool) 2) = z50 N x.1 x.2.1 := by kernel_rfl

def z5g (N : Nat) : List A -> Res := z1y [(0, .v (.int .u64)), (0, .v (.int .u64))] (fun x => z50 N x.1 x.2.1) (zdc (.v .bool) 2)

theorem zd0 (N : Nat) : Contract Go.Proofs.Tryd.prog glob 28 (z5g N) :=
  Contract.of (E := z1f N) (H := z77 N) (L := z1v) (N := N) (body := zy) (K := (z56 (.v .bool) 2)) (zbp N) Go.Proofs.Tryd.func28 (by kernel_rfl) (by decide) (fun _ hb => (TabOk.cons (zbo hb) (TabOk.cons (zbn hb) TabOk.nil))) (fun x y h => by rw [zae]; exact h) (z1k (s := (.v .bool)) (m := 2))

def z1j : Code := (Go.Proofs.Tryd.f25.body).getD .skip

def z2u : List (List Nat × List Nat) := [([0], [0]), ([0, 1], [3, 0]), ([0, 0, 1, 1], [4, 3, 0]), ([0, 1, 0, 1, 1], [4, 3, 0]), ([0, 0, 0, 0, 1, 0, 1, 1], [7, 3, 4, 0]), ([1, 0, 0, 0, 1, 0, 1, 1], [3, 4, 0]), ([1, 1, 0, 0, 0, 1, 0, 1, 1], [3]), ([0, 0, 0, 1, 0, 0, 1, 0, 1, 1], [5, 0, 4, 3]), ([0, 1, 0, 0, 1, 0, 0, 1, 0, 1, 1], [18, 5, 4, 0, 3]), ([1, 1, 0, 0, 1, 0, 0, 1, 0, 1, 1], [4, 3, 0]), ([0, 1, 1, 0, 0, 1, 0, 0, 1, 0, 1, 1], [4, 3, 0]), ([0, 1, 0, 0, 1, 0, 1, 1], [4, 3, 0]), ([1, 1, 0, 0, 1, 0, 1, 1], [4, 3, 0]), ([1, 0, 1, 1], [3]), ([0, 1, 1, 1], [2]), ([1, 1, 1, 1], [2])]

def z21 (N : Nat) : Env := z3v tys glob [(28, z5g N)] [] [] [] false [] []

theorem zcv (N : Nat) : EnvOk Go.Proofs.Tryd.prog (z21 N) := zu mixed z1x (FnsOk.cons (zd0 N) (FnsOk.nil)) (ItsOk.nil)

def z72 (N : Nat) (p : Int) (k : Int) (bit : Int) (k0 : Int -> Option Int) : Option Int :=
 cond (decide ((0 : Int) <= (Go.IntKind.wrap Go.IntKind.u64 bit)))
 ((z50 N (Go.IntKind.wrap Go.IntKind.u64 (k + (Go.Lift.shlI Go.IntKind.u64 (1 : Int) (Go.IntKind.wrap Go.IntKind.u64 bit)))) (Go.IntKind.wrap Go.IntKind.u64 p)).bind fun y =>
 cond y
 (k0 (Go.IntKind.wrap Go.IntKind.u64 (k + (Go.Lift.shlI Go.IntKind.u64 (1 : Int) (Go.IntKind.wrap Go.IntKind.u64 bit)))))
 (k0 k))
 (none)

def z75 (N : Nat) (x : z2i [(0, .v (.int .i64)), (2, .v (.int .u64)), (0, .v (.int .i64))]) (K : Ex -> List A -> Option Int) : Option Int :=
 z72 N x.1 x.2.1 x.2.2.1 (fun a1 => (K .normal (mkS [(0, .v (.int .i64)), (2, .v (.int .u64)), (0, .v (.int .i64))] 18 (x.1, a1, x.2.2.1, ()))))

def z73 (N : Nat) : Hd Int := fun st K => (unS [(0, .v (.int .i64)), (2, .v (.int .u64)), (0, .v (.int .i64))] 18 (restr [3, 4, 0] 0 st)).bind fun x => z75 N x K

def ze2 (N : Nat) : Tab Int := []

theorem zct {N : Nat} {c : Ctx} (hb : Base Go.Proofs.Tryd.prog (z21 N) c) : z13 Go.Proofs.Tryd.prog c (zg z1j [0, 1, 0, 0, 1, 0, 1, 1]) (z73 N) :=
  z2w (s := [(0, .v (.int .i64)), (2, .v (.int .u64)), (0, .v (.int .i64))]) (m := 18) (g := z75 N) [3, 4, 0] (zj hb N (ze2 N) z2u z1j TabOk.nil [0, 1, 0, 0, 1, 0, 1, 1] _ rfl) (fun x K => by kernel_rfl)

def z71 (N : Nat) (p : Int) (k : Int) (bit : Int) (rec : Int -> Int -> Option Int) (k0 : Int -> Option Int) : Option Int :=
 cond (decide ((0 : Int) <= bit))
 (z72 N p k bit
 (fun k1 => rec k1 (Go.IntKind.wrap Go.IntKind.i64 (bit - (1 : Int)))))
 (k0 k)

def ze4 (N : Nat) (p : Int) (k : Int) (bit : Int) (k0 : Int -> Option Int) : Option Int :=
 iter (fun (v : (Int × Int)) r => z71 N p v.1 v.2 (fun k bit => (r (k, bit))) k0) N (k, bit)

def z76 (N : Nat) (i : Int) (v : (Int × Int)) (r : (Int × Int) -> Option Int) (K : Ex -> List A -> Option Int) : Option Int :=
 z71 N i v.1 v.2 (fun k bit => (r (k, bit))) (fun a0 => (K (.exit 0) (mkS [(3, .v (.int .u64))] 19 (a0, ()))))

def z74 (N : Nat) : Hd Int := fun st K => (unS [(0, .v (.int .i64)), (2, .v (.int .u64)), (0, .v (.int .i64))] 18 (restr [4, 3, 0] 0 st)).bind fun x => iter (fun v r => z76 N ((fun x => x.1) x) v r K) N ((fun x => (x.2.1, x.2.2.1)) x)

def ze3 (N : Nat) : Tab Int := [([0, 1, 0, 0, 1, 0, 1, 1], z73 N)]

theorem zcu {N : Nat} {c : Ctx} (hb : Base Go.Proofs.Tryd.prog (z21 N) c) : z13 Go.Proofs.Tryd.prog c (zg z1j [0, 1, 0, 1, 1]) (z74 N) :=
  z3e (s := [(0, .v (.int .i64)), (2, .v (.int .u64)), (0, .v (.int .i64))]) (m := 18) (z76 N) [4, 3, 0] N (fun x => x.1) (fun x => (x.2.1, x.2.2.1)) (fun i v => (i, v.1, v.2, ())) (fun _ => rfl) (zj hb N (ze3 N) z2u z1j (TabOk.cons (zct hb) TabOk.nil) [0, 0, 1, 0, 1, 1] _ rfl) (fun i v r K => by kernel_rfl)

def z6 (N : Nat) (p : Int) : Option Int :=
 ze4 N p (0 : Int) (35 : Int)
 (fun k => some (Go.IntKind.wrap Go.IntKind.u32 (Int.tmod k (4294967296 : Int))))

def z7y (N : Nat) : Tab Int := [([0, 1, 0, 1, 1], z74 N)]

theorem zbl (N : Nat) (x : z2i [(0, .v (.int .i64))]) : zak (z21 N) N (z7y N) z2u Go.Proofs.Tryd.f25 (mkS [(0, .v (.int .i64))] 0 x) (z56 (.v (.int .u32)) 1) = z6 N x.1 := by kernel_rfl

def z5r (N : Nat) : List A -> Res := z1y [(0, .v (.int .i64))] (fun x => z6 N x.1) (zdc (.v (.int .u32)) 1)

theorem ze5 (N : Nat) : Contract Go.Proofs.Tryd.prog glob 25 (z5r N) :=
  Contract.of (E := z21 N) (H := z7y N) (L := z2u) (N := N) (body := z1j) (K := (z56 (.v (.int .u32)) 1)) (zcv N) Go.Proofs.Tryd.func25 (by kernel_rfl) (by decide) (fun _ hb => (TabOk.cons (zcu hb) TabOk.nil)) (fun x y h => by rw [zbl]; exact h) (z1k (s := (.v (.int .u32))) (m := 1))

def z9 : Code := (Go.Proofs.Tryd.f19.body).getD .skip

def zq : List (List Nat × List Nat) := [([0], []), ([0, 1], [1]), ([0, 0, 1, 1], [1, 2]), ([0, 1, 0, 1, 1], [1, 2]), ([0, 0, 0, 0, 1, 0, 1, 1], [11, 2, 1]), ([1, 0, 0, 0, 1, 0, 1, 1], [2, 1]), ([1, 1, 0, 0, 0, 1, 0, 1, 1], [1]), ([0, 0, 0, 1, 0, 0, 1, 0, 1, 1], [2, 3, 1]), ([0, 0, 1, 0, 0, 1, 0, 0, 1, 0, 1, 1], [4, 2, 3, 1]), ([0, 1, 0, 1, 0, 0, 1, 0, 0, 1, 0, 1, 1], [4, 2, 3, 1]), ([0, 0, 0, 0, 1, 0, 1, 0, 0, 1, 0, 0, 1, 0, 1, 1], [16, 3, 2, 4, 1]), ([1, 0, 0, 0, 1, 0, 1, 0, 0, 1, 0, 0, 1, 0, 1, 1], [3, 2, 4, 1]), ([1, 1, 0, 0, 0, 1, 0, 1, 0, 0, 1, 0, 0, 1, 0, 1, 1], [3, 1, 2]), ([0, 0, 1, 0, 0, 1, 0, 1, 0, 0, 1, 0, 0, 1, 0, 1, 1], [4, 2, 3, 1]), ([0, 1, 0, 0, 1, 0, 1, 0, 0, 1, 0, 0, 1, 0, 1, 1], [4, 2, 3, 1]), ([1, 1, 0, 0, 1, 0, 1, 0, 0, 1, 0, 0, 1, 0, 1, 1], [4, 2, 3, 1]), ([1, 0, 1, 0, 0, 1, 0, 0, 1, 0, 1, 1], [3, 1, 2]), ([0, 1, 1, 0, 0, 1, 0, 0, 1, 0, 1, 1], [26, 1, 2]), ([1, 1, 1, 0, 0, 1, 0, 0, 1, 0, 1, 1], [2, 1]), ([0, 1, 1, 1, 0, 0, 1, 0, 0, 1, 0, 1, 1], [2, 1]), ([0, 1, 0, 0, 1, 0, 1, 1], [2, 1]), ([1, 1, 0, 0, 1, 0, 1, 1], [1, 2]), ([1, 0, 1, 1], [1]), ([0, 1, 1, 1], [0]), ([1, 1, 1, 1], [0])]

def zm (N : Nat) : Env := z3v tys glob [(25, z5r N)] [(1, (.int .u32)), (0, (.int .u32))] [] [] false [] []

theorem z8c (N : Nat) : EnvOk Go.Proofs.Tryd.prog (zm N) := zu mixed z1x (FnsOk.cons (ze5 N) (FnsOk.nil)) (ItsOk.nil)

def z27 (N : Nat) (out : (List Int)) (p : Int) (k0 : Option (List Int)) (k1 : Option (List Int)) : Option (List Int) :=
 cond (decide ((((List.length out) : Nat) : Int) < (64 : Int)))
 (cond (decide (p < (400 : Int)))
 (k0)
 (k1))
 (k1)

def z49 (N : Nat) (x : z2i [(1, .row (.int .u32)), (0, .v (.int .i64))]) (K : Ex -> List A -> Option (List Int)) : Option (List Int) :=
 z27 N x.1 x.2.1 (K .normal (mkS [(1, .row (.int .u32)), (0, .v (.int .i64))] 30 (x.1, x.2.1, ()))) (K (.exit 0) (mkS [(1, .row (.int .u32))] 31 (x.1, ())))

def z44 (N : Nat) : Hd (List Int) := fun st K => (unS [(1, .row (.int .u32)), (0, .v (.int .i64))] 30 (restr [1, 2] 0 st)).bind fun x => z49 N x K

def z8w (N : Nat) : Tab (List Int) := []

theorem z8a {N : Nat} {c : Ctx} (hb : Base Go.Proofs.Tryd.prog (zm N) c) : z13 Go.Proofs.Tryd.prog c (zg z9 [0, 0, 0, 1, 0, 1, 1]) (z44 N) :=
  z2w (s := [(1, .row (.int .u32)), (0, .v (.int .i64))]) (m := 30) (g := z49 N) [1, 2] (zj hb N (z8w N) zq z9 TabOk.nil [0, 0, 0, 1, 0, 1, 1] _ rfl) (fun x K => by kernel_rfl)

def z1p (N : Nat) (out : (List Int)) (p : Int) (prime : Bool) (d : Int) (k0 : Bool -> Option (List Int)) : Option (List Int) :=
 cond prime
 (cond (d == (0 : Int))
 (none)
 (k0 ((Int.tmod p d) != (0 : Int))))
 (k0 false)

def z46 (N : Nat) (x : z2i [(1, .row (.int .u32)), (0, .v (.int .i64)), (0, .v .bool), (0, .v (.int .i64))]) (K : Ex -> List A -> Option (List Int)) : Option (List Int) :=
 z1p N x.1 x.2.1 x.2.2.1 x.2.2.2.1 (fun a2 => (K .normal (mkS [(1, .row (.int .u32)), (0, .v (.int .i64)), (0, .v .bool), (0, .v (.int .i64))] 28 (x.1, x.2.1, a2, x.2.2.2.1, ()))))

def z41 (N : Nat) : Hd (List Int) := fun st K => (unS [(1, .row (.int .u32)), (0, .v (.int .i64)), (0, .v .bool), (0, .v (.int .i64))] 28 (restr [3, 2, 4, 1] 0 st)).bind fun x => z46 N x K

def z8t (N : Nat) : Tab (List Int) := []

theorem z87 {N : Nat} {c : Ctx} (hb : Base Go.Proofs.Tryd.prog (zm N) c) : z13 Go.Proofs.Tryd.prog c (zg z9 [0, 1, 0, 0, 1, 0, 1, 0, 0, 1, 0, 0, 1, 0, 1, 1]) (z41 N) :=
  z2w (s := [(1, .row (.int .u32)), (0, .v (.int .i64)), (0, .v .bool), (0, .v (.int .i64))]) (m := 28) (g := z46 N) [3, 2, 4, 1] (zj hb N (z8t N) zq z9 TabOk.nil [0, 1, 0, 0, 1, 0, 1, 0, 0, 1, 0, 0, 1, 0, 1, 1] _ rfl) (fun x K => by kernel_rfl)

def z1n (N : Nat) (out : (List Int)) (p : Int) (prime : Bool) (d : Int) (rec : Bool -> Int -> Option (List Int)) (k0 : Bool -> Option (List Int)) : Option (List Int) :=
 cond (decide (d < p))
 (z1p N out p prime d
 (fun prime1 => rec prime1 (Go.IntKind.wrap Go.IntKind.i64 (d + (1 : Int)))))
 (k0 prime)

def z25 (N : Nat) (out : (List Int)) (p : Int) (prime : Bool) (d : Int) (k0 : Bool -> Option (List Int)) : Option (List Int) :=
 iter (fun (v : (Bool × Int)) r => z1n N out p v.1 v.2 (fun prime d => (r (prime, d))) k0) N (prime, d)

def z47 (N : Nat) (i : ((List Int) × Int)) (v : (Bool × Int)) (r : (Bool × Int) -> Option (List Int)) (K : Ex -> List A -> Option (List Int)) : Option (List Int) :=
 z1n N i.1 i.2 v.1 v.2 (fun prime d => (r (prime, d))) (fun a2 => (K (.exit 2) (mkS [(1, .row (.int .u32)), (0, .v (.int .i64)), (0, .v .bool)] 29 (i.1, i.2, a2, ()))))

def z42 (N : Nat) : Hd (List Int) := fun st K => (unS [(1, .row (.int .u32)), (0, .v (.int .i64)), (0, .v .bool), (0, .v (.int .i64))] 28 (restr [4, 2, 3, 1] 0 st)).bind fun x => iter (fun v r => z47 N ((fun x => (x.1, x.2.1)) x) v r K) N ((fun x => (x.2.2.1, x.2.2.2.1)) x)

def z8u (N : Nat) : Tab (List Int) := [([0, 1, 0, 0, 1, 0, 1, 0, 0, 1, 0, 0, 1, 0, 1, 1], z41 N)]

theorem z88 {N : Nat} {c : Ctx} (hb : Base Go.Proofs.Tryd.prog (zm N) c) : z13 Go.Proofs.Tryd.prog c (zg z9 [0, 1, 0, 1, 0, 0, 1, 0, 0, 1, 0, 1, 1]) (z42 N) :=
  z3e (s := [(1, .row (.int .u32)), (0, .v (.int .i64)), (0, .v .bool), (0, .v (.int .i64))]) (m := 28) (z47 N) [4, 2, 3, 1] N (fun x => (x.1, x.2.1)) (fun x => (x.2.2.1, x.2.2.2.1)) (fun i v => (i.1, i.2, v.1, v.2, ())) (fun _ => rfl) (zj hb N (z8u N) zq z9 (TabOk.cons (z87 hb) TabOk.nil) [0, 0, 1, 0, 1, 0, 0, 1, 0, 0, 1, 0, 1, 1] _ rfl) (fun i v r K => by kernel_rfl)

def z26 (N : Nat) (out : (List Int)) (p : Int) (k0 : (List Int) -> Option (List Int)) : Option (List Int) :=
 z25 N out p true (2 : Int)
 (fun prime => cond prime
 ((z6 N p).bind fun y =>
 cond (decide ((((List.length out) + 1) * 4) <= 70368744177664))
 (k0 (out ++ ([y] : List Int)))
 (none))
 (k0 out))

def z48 (N : Nat) (x : z2i [(1, .row (.int .u32)), (0, .v (.int .i64))]) (K : Ex -> List A -> Option (List Int)) : Option (List Int) :=
 z26 N x.1 x.2.1 (fun a0 => (K .normal (mkS [(1, .row (.int .u32)), (0, .v (.int .i64))] 30 (a0, x.2.1, ()))))

def z43 (N : Nat) : Hd (List Int) := fun st K => (unS [(1, .row (.int .u32)), (0, .v (.int .i64))] 30 (restr [2, 1] 0 st)).bind fun x => z48 N x K

def z8v (N : Nat) : Tab (List Int) := [([0, 1, 0, 1, 0, 0, 1, 0, 0, 1, 0, 1, 1], z42 N)]

theorem z89 {N : Nat} {c : Ctx} (hb : Base Go.Proofs.Tryd.prog (zm N) c) : z13 Go.Proofs.Tryd.prog c (zg z9 [0, 1, 0, 0, 1, 0, 1, 1]) (z43 N) :=
  z2w (s := [(1, .row (.int .u32)), (0, .v (.int .i64))]) (m := 30) (g := z48 N) [2, 1] (zj hb N (z8v N) zq z9 (TabOk.cons (z88 hb) TabOk.nil) [0, 1, 0, 0, 1, 0, 1, 1] _ rfl) (fun x K => by kernel_rfl)

def z1o (N : Nat) (out : (List Int)) (p : Int) (rec : (List Int) -> Int -> Option (List Int)) (k0 : (List Int) -> Option (List Int)) : Option (List Int) :=
 z27 N out p
 (z26 N out p
 (fun out1 => rec out1 (Go.IntKind.wrap Go.IntKind.i64 (p + (1 : Int)))))
 (k0 out)

def z40 (N : Nat) (out : (List Int)) (p : Int) (k0 : (List Int) -> Option (List Int)) : Option (List Int) :=
 iter (fun (v : ((List Int) × Int)) r => z1o N v.1 v.2 (fun out p => (r (out, p))) k0) N (out, p)

def z4a (N : Nat) (i : Unit) (v : ((List Int) × Int)) (r : ((List Int) × Int) -> Option (List Int)) (K : Ex -> List A -> Option (List Int)) : Option (List Int) :=
 z1o N v.1 v.2 (fun out p => (r (out, p))) (fun a0 => (K (.exit 0) (mkS [(1, .row (.int .u32))] 31 (a0, ()))))

def z45 (N : Nat) : Hd (List Int) := fun st K => (unS [(1, .row (.int .u32)), (0, .v (.int .i64))] 30 (restr [1, 2] 0 st)).bind fun x => iter (fun v r => z4a N ((fun x => ()) x) v r K) N ((fun x => (x.1, x.2.1)) x)

def z8x (N : Nat) : Tab (List Int) := [([0, 0, 0, 1, 0, 1, 1], z44 N), ([0, 1, 0, 0, 1, 0, 1, 1], z43 N)]

theorem z8b {N : Nat} {c : Ctx} (hb : Base Go.Proofs.Tryd.prog (zm N) c) : z13 Go.Proofs.Tryd.prog c (zg z9 [0, 1, 0, 1, 1]) (z45 N) :=
  z3e (s := [(1, .row (.int .u32)), (0, .v (.int .i64))]) (m := 30) (z4a N) [1, 2] N (fun x => ()) (fun x => (x.1, x.2.1)) (fun i v => (v.1, v.2, ())) (fun _ => rfl) (zj hb N (z8x N) zq z9 (TabOk.cons (z8a hb) (TabOk.cons (z89 hb) TabOk.nil)) [0, 0, 1, 0, 1, 1] _ rfl) (fun i v r K => by kernel_rfl)

def z17 (N : Nat) : Option (List Int) :=
 z40 N ([] : List Int) (2 : Int)
 (fun out => some out)

def z4k (N : Nat) : Tab (List Int) := [([0, 1, 0, 1, 1], z45 N)]

theorem z7n (N : Nat) (x : z2i []) : zak (zm N) N (z4k N) zq Go.Proofs.Tryd.f19 (mkS [] 0 x) (z56 (.v (.sl (.int .u32))) 0) = z17 N := by kernel_rfl

def z3i (N : Nat) : List A -> Res := z1y [] (fun x => z17 N) (zdc (.v (.sl (.int .u32))) 0)

theorem z8y (N : Nat) : Contract Go.Proofs.Tryd.prog glob 19 (z3i N) :=
  Contract.of (E := zm N) (H := z4k N) (L := zq) (N := N) (body := z9) (K := (z56 (.v (.sl (.int .u32))) 0)) (z8c N) Go.Proofs.Tryd.func19 (by kernel_rfl) (by decide) (fun _ hb => (TabOk.cons (z8b hb) TabOk.nil)) (fun x y h => by rw [z7n]; exact h) (z1k (s := (.v (.sl (.int .u32)))) (m := 0))

def zcs : Code := (Go.Proofs.Tryd.f24.body).getD .skip

def z8r : List (List Nat × List Nat) := [([0], [0, 1]), ([0, 1], [4]), ([1, 1], [4])]

def z4z (N : Nat) : Env := z3v tys glob [] [] [] [] false [] []

theorem ze1 (N : Nat) : EnvOk Go.Proofs.Tryd.prog (z4z N) := zu mixed z1x (FnsOk.nil) (ItsOk.nil)

def zbk (N : Nat) (x0 : Int) (n : Int) : Option Int :=
 cond (decide ((0 : Int) <= (Go.IntKind.wrap Go.IntKind.u64 n)))
 (cond (decide ((0 : Int) <= (Go.IntKind.wrap Go.IntKind.u64 (Go.IntKind.wrap Go.IntKind.i64 ((32 : Int) - n)))))
 (some (Go.Lift.bitsOp Go.BinOp.or Go.IntKind.u32 (Go.Lift.shrI Go.IntKind.u32 x0 (Go.IntKind.wrap Go.IntKind.u64 n)) (Go.Lift.shlI Go.IntKind.u32 x0 (Go.IntKind.wrap Go.IntKind.u64 (Go.IntKind.wrap Go.IntKind.i64 ((32 : Int) - n))))))
 (none))
 (none)

def z8q (N : Nat) : Tab Int := []

theorem zcr (N : Nat) (x : z2i [(0, .v (.int .u32)), (0, .v (.int .i64))]) : zak (z4z N) N (z8q N) z8r Go.Proofs.Tryd.f24 (mkS [(0, .v (.int .u32)), (0, .v (.int .i64))] 0 x) (z56 (.v (.int .u32)) 2) = zbk N x.1 x.2.1 := by kernel_rfl

def z70 (N : Nat) : List A -> Res := z1y [(0, .v (.int .u32)), (0, .v (.int .i64))] (fun x => zbk N x.1 x.2.1) (zdc (.v (.int .u32)) 2)

theorem zey (N : Nat) : Contract Go.Proofs.Tryd.prog glob 24 (z70 N) :=
  Contract.of (E := z4z N) (H := z8q N) (L := z8r) (N := N) (body := zcs) (K := (z56 (.v (.int .u32)) 2)) (ze1 N) Go.Proofs.Tryd.func24 (by kernel_rfl) (by decide) (fun _ hb => TabOk.nil) (fun x y h => by rw [zcr]; exact h) (z1k (s := (.v (.int .u32))) (m := 2))

def zl : Code := (Go.Proofs.Tryd.f18.body).getD .skip

def z1m : List (List Nat × List Nat) := [([0], [2, 1, 4, 3, 8]), ([0, 1], [2, 9, 1, 4, 3, 8]), ([0, 0, 1, 1], [10, 2, 9, 1, 4, 3, 8]), ([0, 1, 0, 1, 1], [10, 2, 9, 1, 4, 3, 8]), ([0, 0, 0, 0, 1, 0, 1, 1], [26, 2, 10, 9, 1, 4, 3, 8]), ([1, 0, 0, 0, 1, 0, 1, 1], [2, 10, 9, 1, 4, 3, 8]), ([1, 1, 0, 0, 0, 1, 0, 1, 1], [9, 4, 3, 8]), ([0, 0, 0, 1, 0, 0, 1, 0, 1, 1], [9, 1, 11, 10, 2, 4, 3, 8]), ([1, 0, 0, 1, 0, 0, 1, 0, 1, 1], [10, 2, 9, 1, 4, 3, 8]), ([0, 1, 0, 0, 1, 0, 1, 1], [10, 2, 9, 1, 4, 3, 8]), ([1, 1, 0, 0, 1, 0, 1, 1], [10, 2, 9, 1, 4, 3, 8]), ([1, 0, 1, 1], [9, 4, 3, 8]), ([0, 0, 1, 1, 1], [12, 9, 4, 3, 8]), ([0, 1, 0, 1, 1, 1], [12, 9, 4, 3, 8]), ([0, 0, 0, 0, 1, 0, 1, 1, 1], [62, 9, 12, 4, 3, 8]), ([1, 0, 0, 0, 1, 0, 1, 1, 1], [9, 12, 4, 3, 8]), ([1, 1, 0, 0, 0, 1, 0, 1, 1, 1], [4, 3, 9, 8]), ([0, 0, 0, 1, 0, 0, 1, 0, 1, 1, 1], [13, 14, 9, 12, 4, 3, 8]), ([0, 1, 0, 0, 1, 0, 0, 1, 0, 1, 1, 1], [14, 9, 12, 15, 4, 3, 8]), ([0, 1, 1, 0, 0, 1, 0, 0, 1, 0, 1, 1, 1], [9, 16, 12, 15, 4, 3, 8]), ([1, 1, 1, 0, 0, 1, 0, 0, 1, 0, 1, 1, 1], [12, 9, 4, 3, 8]), ([0, 1, 0, 0, 1, 0, 1, 1, 1], [12, 9, 4, 3, 8]), ([1, 1, 0, 0, 1, 0, 1, 1, 1], [12, 9, 4, 3, 8]), ([1, 0, 1, 1, 1], [4, 3, 9, 8]), ([0, 1, 1, 1, 1], [17, 3, 9, 4, 8]), ([0, 0, 1, 1, 1, 1, 1], [18, 17, 3, 9, 4, 8]), ([0, 1, 0, 1, 1, 1, 1, 1], [18, 17, 3, 9, 4, 8]), ([0, 0, 0, 0, 1, 0, 1, 1, 1, 1, 1], [111, 17, 3, 18, 9, 4, 8]), ([1, 0, 0, 0, 1, 0, 1, 1, 1, 1, 1], [17, 3, 18, 9, 4, 8]), ([1, 1, 0, 0, 0, 1, 0, 1, 1, 1, 1, 1], [17, 4, 8]), ([0, 0, 0, 1, 0, 0, 1, 0, 1, 1, 1, 1, 1], [17, 19, 3, 18, 9, 4, 8]), ([0, 1, 0, 0, 1, 0, 0, 1, 0, 1, 1, 1, 1, 1], [17, 19, 20, 3, 18, 9, 4, 8]), ([0, 1, 1, 0, 0, 1, 0, 0, 1, 0, 1, 1, 1, 1, 1], [17, 21, 18, 3, 9, 4, 8]), ([0, 1, 1, 1, 0, 0, 1, 0, 0, 1, 0, 1, 1, 1, 1, 1], [17, 21, 22, 18, 3, 9, 4, 8]), ([0, 1, 1, 1, 1, 0, 0, 1, 0, 0, 1, 0, 1, 1, 1, 1, 1], [21, 22, 23, 17, 18, 3, 9, 4, 8]), ([1, 1, 1, 1, 1, 0, 0, 1, 0, 0, 1, 0, 1, 1, 1, 1, 1], [18, 17, 3, 9, 4, 8]), ([0, 1, 0, 0, 1, 0, 1, 1, 1, 1, 1], [18, 17, 3, 9, 4, 8]), ([1, 1, 0, 0, 1, 0, 1, 1, 1, 1, 1], [18, 17, 3, 9, 4, 8]), ([1, 0, 1, 1, 1, 1, 1], [17, 4, 8]), ([0, 0, 1, 1, 1, 1, 1, 1], [24, 17, 4, 8]), ([0, 1, 0, 1, 1, 1, 1, 1, 1], [24, 17, 4, 8]), ([0, 0, 0, 0, 1, 0, 1, 1, 1, 1, 1, 1], [204, 24, 17, 4, 8]), ([1, 0, 0, 0, 1, 0, 1, 1, 1, 1, 1, 1], [24, 17, 4, 8]), ([1, 1, 0, 0, 0, 1, 0, 1, 1, 1, 1, 1, 1], [17, 8]), ([0, 0, 1, 0, 0, 1, 0, 1, 1, 1, 1, 1, 1], [24, 17, 4, 8]), ([0, 1, 0, 0, 1, 0, 1, 1, 1, 1, 1, 1], [24, 17, 4, 8]), ([1, 1, 0, 0, 1, 0, 1, 1, 1, 1, 1, 1], [24, 17, 4, 8]), ([1, 0, 1, 1, 1, 1, 1, 1], [17, 8]), ([0, 1, 1, 1, 1, 1, 1, 1], [8]), ([1, 1, 1, 1, 1, 1, 1, 1], [8])]

def z1a (N : Nat) : Env := z3v tys glob [(24, z70 N)] [(9, (.int .u32))] [] [] false [] []

theorem zcq (N : Nat) : EnvOk Go.Proofs.Tryd.prog (z1a N) := zu mixed z1x (FnsOk.cons (zey N) (FnsOk.nil)) (ItsOk.nil)

def z3o (N : Nat) (s : (List UInt8)) (at_ : Int) (k : (List Int)) (h : (List Int)) (x8 : (List Int)) (w : (List Int)) (t : Int) (rec : (List Int) -> Int -> Option (List Int)) (k0 : (List Int) -> Option (List Int)) : Option (List Int) :=
 cond (decide (t < (16 : Int)))
 (cond (Go.Lift.inR (Go.IntKind.wrap Go.IntKind.i64 (at_ + (Go.IntKind.wrap Go.IntKind.i64 ((4 : Int) * t)))) (List.length s))
 (cond (Go.Lift.inR (Go.IntKind.wrap Go.IntKind.i64 ((Go.IntKind.wrap Go.IntKind.i64 (at_ + (Go.IntKind.wrap Go.IntKind.i64 ((4 : Int) * t)))) + (1 : Int))) (List.length s))
 (cond (Go.Lift.inR (Go.IntKind.wrap Go.IntKind.i64 ((Go.IntKind.wrap Go.IntKind.i64 (at_ + (Go.IntKind.wrap Go.IntKind.i64 ((4 : Int) * t)))) + (2 : Int))) (List.length s))
 (cond (Go.Lift.inR (Go.IntKind.wrap Go.IntKind.i64 ((Go.IntKind.wrap Go.IntKind.i64 (at_ + (Go.IntKind.wrap Go.IntKind.i64 ((4 : Int) * t)))) + (3 : Int))) (List.length s))
 (cond (decide ((((List.length w) + 1) * 4) <= 70368744177664))
 (rec (w ++ ([(Go.IntKind.wrap Go.IntKind.u32 ((Go.IntKind.wrap Go.IntKind.u32 ((Go.IntKind.wrap Go.IntKind.u32 ((Go.Lift.shlI Go.IntKind.u32 (Go.IntKind.wrap Go.IntKind.u32 (((UInt8.toNat (List.getD s (Int.toNat (Go.IntKind.wrap Go.IntKind.i64 (at_ + (Go.IntKind.wrap Go.IntKind.i64 ((4 : Int) * t))))) (0 : UInt8))) : Nat) : Int)) (24 : Int)) + (Go.Lift.shlI Go.IntKind.u32 (Go.IntKind.wrap Go.IntKind.u32 (((UInt8.toNat (List.getD s (Int.toNat (Go.IntKind.wrap Go.IntKind.i64 ((Go.IntKind.wrap Go.IntKind.i64 (at_ + (Go.IntKind.wrap Go.IntKind.i64 ((4 : Int) * t)))) + (1 : Int)))) (0 : UInt8))) : Nat) : Int)) (16 : Int)))) + (Go.Lift.shlI Go.IntKind.u32 (Go.IntKind.wrap Go.IntKind.u32 (((UInt8.toNat (List.getD s (Int.toNat (Go.IntKind.wrap Go.IntKind.i64 ((Go.IntKind.wrap Go.IntKind.i64 (at_ + (Go.IntKind.wrap Go.IntKind.i64 ((4 : Int) * t)))) + (2 : Int)))) (0 : UInt8))) : Nat) : Int)) (8 : Int)))) + (Go.IntKind.wrap Go.IntKind.u32 (((UInt8.toNat (List.getD s (Int.toNat (Go.IntKind.wrap Go.IntKind.i64 ((Go.IntKind.wrap Go.IntKind.i64 (at_ + (Go.IntKind.wrap Go.IntKind.i64 ((4 : Int) * t)))) + (3 : Int)))) (0 : UInt8))) : Nat) : Int))))] : List Int)) (Go.IntKind.wrap Go.IntKind.i64 (t + (1 : Int))))
 (none))
 (none))
 (none))
 (none))
 (none))
 (k0 w)

def z3r (N : Nat) (s : (List UInt8)) (at_ : Int) (k : (List Int)) (h : (List Int)) (x8 : (List Int)) (w : (List Int)) (t : Int) (k0 : (List Int) -> Option (List Int)) : Option (List Int) :=
 iter (fun (v : ((List Int) × Int)) r => z3o N s at_ k h x8 v.1 v.2 (fun w t => (r (w, t))) k0) N (w, t)

def z6z (N : Nat) (i : ((List UInt8) × Int × (List Int) × (List Int) × (List Int))) (v : ((List Int) × Int)) (r : ((List Int) × Int) -> Option (List Int)) (K : Ex -> List A -> Option (List Int)) : Option (List Int) :=
 z3o N i.1 i.2.1 i.2.2.1 i.2.2.2.1 i.2.2.2.2 v.1 v.2 (fun w t => (r (w, t))) (fun a3 => (K (.exit 0) (mkS [(3, .v (.sl (.int .u32))), (0, .box (.arr 8 (.int .u32))), (3, .box (.arr 8 (.int .u32))), (0, .row (.int .u32))] 207 (i.2.2.1, i.2.2.2.1, i.2.2.2.2, a3, ()))))

def z6v (N : Nat) : Hd (List Int) := fun st K => (unS [(1, .v .str), (0, .v (.int .i64)), (0, .v (.sl (.int .u32))), (0, .box (.arr 8 (.int .u32))), (3, .box (.arr 8 (.int .u32))), (0, .row (.int .u32)), (0, .v (.int .i64))] 206 (restr [10, 2, 9, 1, 4, 3, 8] 0 st)).bind fun x => iter (fun v r => z6z N ((fun x => (x.1, x.2.1, x.2.2.1, x.2.2.2.1, x.2.2.2.2.1)) x) v r K) N ((fun x => (x.2.2.2.2.2.1, x.2.2.2.2.2.2.1)) x)

def zdz (N : Nat) : Tab (List Int) := []

theorem zcp {N : Nat} {c : Ctx} (hb : Base Go.Proofs.Tryd.prog (z1a N) c) : z13 Go.Proofs.Tryd.prog c (zg zl [0, 1, 0, 1, 1]) (z6v N) :=
  z3e (s := [(1, .v .str), (0, .v (.int .i64)), (0, .v (.sl (.int .u32))), (0, .box (.arr 8 (.int .u32))), (3, .box (.arr 8 (.int .u32))), (0, .row (.int .u32)), (0, .v (.int .i64))]) (m := 206) (z6z N) [10, 2, 9, 1, 4, 3, 8] N (fun x => (x.1, x.2.1, x.2.2.1, x.2.2.2.1, x.2.2.2.2.1)) (fun x => (x.2.2.2.2.2.1, x.2.2.2.2.2.2.1)) (fun i v => (i.1, i.2.1, i.2.2.1, i.2.2.2.1, i.2.2.2.2, v.1, v.2, ())) (fun _ => rfl) (zj hb N (zdz N) z1m zl TabOk.nil [0, 0, 1, 0, 1, 1] _ rfl) (fun i v r K => by kernel_rfl)

def z3n (N : Nat) (k : (List Int)) (h : (List Int)) (x8 : (List Int)) (w : (List Int)) (t : Int) (rec : (List Int) -> Int -> Option (List Int)) (k0 : (List Int) -> Option (List Int)) : Option (List Int) :=
 cond (decide (t < (64 : Int)))
 (cond (Go.Lift.inR (Go.IntKind.wrap Go.IntKind.i64 (t - (15 : Int))) (List.length w))
 (cond (decide ((Int.toNat (Go.IntKind.wrap Go.IntKind.i64 (t - (15 : Int)))) < (List.length w)))
 (cond (Go.Lift.inR (Go.IntKind.wrap Go.IntKind.i64 (t - (2 : Int))) (List.length w))
 (cond (decide ((Int.toNat (Go.IntKind.wrap Go.IntKind.i64 (t - (2 : Int)))) < (List.length w)))
 (cond (Go.Lift.inR (Go.IntKind.wrap Go.IntKind.i64 (t - (7 : Int))) (List.length w))
 (cond (decide ((Int.toNat (Go.IntKind.wrap Go.IntKind.i64 (t - (7 : Int)))) < (List.length w)))
 (cond (Go.Lift.inR (Go.IntKind.wrap Go.IntKind.i64 (t - (16 : Int))) (List.length w))
 (cond (decide ((Int.toNat (Go.IntKind.wrap Go.IntKind.i64 (t - (16 : Int)))) < (List.length w)))
 (cond (decide ((((List.length w) + 1) * 4) <= 70368744177664))
 (rec (w ++ ([(Go.IntKind.wrap Go.IntKind.u32 ((Go.IntKind.wrap Go.IntKind.u32 ((Go.IntKind.wrap Go.IntKind.u32 ((Go.Lift.bitsOp Go.BinOp.xor Go.IntKind.u32 (Go.Lift.bitsOp Go.BinOp.xor Go.IntKind.u32 (Go.Lift.bitsOp Go.BinOp.or Go.IntKind.u32 (Go.Lift.shrI Go.IntKind.u32 (List.getD w (Int.toNat (Go.IntKind.wrap Go.IntKind.i64 (t - (2 : Int)))) (0 : Int)) (Go.IntKind.wrap Go.IntKind.u64 (17 : Int))) (Go.Lift.shlI Go.IntKind.u32 (List.getD w (Int.toNat (Go.IntKind.wrap Go.IntKind.i64 (t - (2 : Int)))) (0 : Int)) (Go.IntKind.wrap Go.IntKind.u64 (Go.IntKind.wrap Go.IntKind.i64 ((32 : Int) - (17 : Int)))))) (Go.Lift.bitsOp Go.BinOp.or Go.IntKind.u32 (Go.Lift.shrI Go.IntKind.u32 (List.getD w (Int.toNat (Go.IntKind.wrap Go.IntKind.i64 (t - (2 : Int)))) (0 : Int)) (Go.IntKind.wrap Go.IntKind.u64 (19 : Int))) (Go.Lift.shlI Go.IntKind.u32 (List.getD w (Int.toNat (Go.IntKind.wrap Go.IntKind.i64 (t - (2 : Int)))) (0 : Int)) (Go.IntKind.wrap Go.IntKind.u64 (Go.IntKind.wrap Go.IntKind.i64 ((32 : Int) - (19 : Int))))))) (Go.Lift.shrI Go.IntKind.u32 (List.getD w (Int.toNat (Go.IntKind.wrap Go.IntKind.i64 (t - (2 : Int)))) (0 : Int)) (10 : Int))) + (List.getD w (Int.toNat (Go.IntKind.wrap Go.IntKind.i64 (t - (7 : Int)))) (0 : Int)))) + (Go.Lift.bitsOp Go.BinOp.xor Go.IntKind.u32 (Go.Lift.bitsOp Go.BinOp.xor Go.IntKind.u32 (Go.Lift.bitsOp Go.BinOp.or Go.IntKind.u32 (Go.Lift.shrI Go.IntKind.u32 (List.getD w (Int.toNat (Go.IntKind.wrap Go.IntKind.i64 (t - (15 : Int)))) (0 : Int)) (Go.IntKind.wrap Go.IntKind.u64 (7 : Int))) (Go.Lift.shlI Go.IntKind.u32 (List.getD w (Int.toNat (Go.IntKind.wrap Go.IntKind.i64 (t - (15 : Int)))) (0 : Int)) (Go.IntKind.wrap Go.IntKind.u64 (Go.IntKind.wrap Go.IntKind.i64 ((32 : Int) - (7 : Int)))))) (Go.Lift.bitsOp Go.BinOp.or Go.IntKind.u32 (Go.Lift.shrI Go.IntKind.u32 (List.getD w (Int.toNat (Go.IntKind.wrap Go.IntKind.i64 (t - (15 : Int)))) (0 : Int)) (Go.IntKind.wrap Go.IntKind.u64 (18 : Int))) (Go.Lift.shlI Go.IntKind.u32 (List.getD w (Int.toNat (Go.IntKind.wrap Go.IntKind.i64 (t - (15 : Int)))) (0 : Int)) (Go.IntKind.wrap Go.IntKind.u64 (Go.IntKind.wrap Go.IntKind.i64 ((32 : Int) - (18 : Int))))))) (Go.Lift.shrI Go.IntKind.u32 (List.getD w (Int.toNat (Go.IntKind.wrap Go.IntKind.i64 (t - (15 : Int)))) (0 : Int)) (3 : Int))))) + (List.getD w (Int.toNat (Go.IntKind.wrap Go.IntKind.i64 (t - (16 : Int)))) (0 : Int))))] : List Int)) (Go.IntKind.wrap Go.IntKind.i64 (t + (1 : Int))))
 (none))
 (none))
 (none))
 (none))
 (none))
 (none))
 (none))
 (none))
 (none))
 (k0 w)

def z3q (N : Nat) (k : (List Int)) (h : (List Int)) (x8 : (List Int)) (w : (List Int)) (t : Int) (k0 : (List Int) -> Option (List Int)) : Option (List Int) :=
 iter (fun (v : ((List Int) × Int)) r => z3n N k h x8 v.1 v.2 (fun w t => (r (w, t))) k0) N (w, t)

def z6y (N : Nat) (i : ((List Int) × (List Int) × (List Int))) (v : ((List Int) × Int)) (r : ((List Int) × Int) -> Option (List Int)) (K : Ex -> List A -> Option (List Int)) : Option (List Int) :=
 z3n N i.1 i.2.1 i.2.2 v.1 v.2 (fun w t => (r (w, t))) (fun a3 => (K (.exit 2) (mkS [(3, .v (.sl (.int .u32))), (0, .box (.arr 8 (.int .u32))), (3, .box (.arr 8 (.int .u32))), (0, .row (.int .u32))] 207 (i.1, i.2.1, i.2.2, a3, ()))))

def z6u (N : Nat) : Hd (List Int) := fun st K => (unS [(3, .v (.sl (.int .u32))), (0, .box (.arr 8 (.int .u32))), (3, .box (.arr 8 (.int .u32))), (0, .row (.int .u32)), (2, .v (.int .i64))] 204 (restr [12, 9, 4, 3, 8] 0 st)).bind fun x => iter (fun v r => z6y N ((fun x => (x.1, x.2.1, x.2.2.1)) x) v r K) N ((fun x => (x.2.2.2.1, x.2.2.2.2.1)) x)

def zdy (N : Nat) : Tab (List Int) := []

theorem zco {N : Nat} {c : Ctx} (hb : Base Go.Proofs.Tryd.prog (z1a N) c) : z13 Go.Proofs.Tryd.prog c (zg zl [0, 1, 0, 1, 1, 1]) (z6u N) :=
  z3e (s := [(3, .v (.sl (.int .u32))), (0, .box (.arr 8 (.int .u32))), (3, .box (.arr 8 (.int .u32))), (0, .row (.int .u32)), (2, .v (.int .i64))]) (m := 204) (z6y N) [12, 9, 4, 3, 8] N (fun x => (x.1, x.2.1, x.2.2.1)) (fun x => (x.2.2.2.1, x.2.2.2.2.1)) (fun i v => (i.1, i.2.1, i.2.2, v.1, v.2, ())) (fun _ => rfl) (zj hb N (zdy N) z1m zl TabOk.nil [0, 0, 1, 0, 1, 1, 1] _ rfl) (fun i v r K => by kernel_rfl)

def z3m (N : Nat) (k : (List Int)) (h : (List Int)) (x8 : (List Int)) (w : (List Int)) (v_ : (List Int)) (t : Int) (rec : (List Int) -> Int -> Option (List Int)) (k0 : (List Int) -> Option (List Int)) : Option (List Int) :=
 cond (decide (t < (64 : Int)))
 (cond (decide (4 < (List.length v_)))
 (cond (decide (4 < (List.length v_)))
 (cond (decide (4 < (List.length v_)))
 (cond (decide (4 < (List.length v_)))
 (cond (decide (5 < (List.length v_)))
 (cond (decide (4 < (List.length v_)))
 (cond (decide (6 < (List.length v_)))
 (cond (decide (7 < (List.length v_)))
 (cond (Go.Lift.inR t (List.length k))
 (cond (Go.Lift.inR t (List.length w))
 (cond (decide ((Int.toNat t) < (List.length w)))
 (cond (decide (0 < (List.length v_)))
 (cond (decide (0 < (List.length v_)))
 (cond (decide (0 < (List.length v_)))
 (cond (decide (0 < (List.length v_)))
 (cond (decide (1 < (List.length v_)))
 (cond (decide (0 < (List.length v_)))
 (cond (decide (2 < (List.length v_)))
 (cond (decide (1 < (List.length v_)))
 (cond (decide (2 < (List.length v_)))
 (cond (decide (0 < (List.length v_)))
 (cond (decide (1 < (List.length v_)))
 (cond (decide (2 < (List.length v_)))
 (cond (decide (3 < (List.length v_)))
 (cond (decide (4 < (List.length v_)))
 (cond (decide (5 < (List.length v_)))
 (cond (decide (6 < (List.length v_)))
 (rec ([(Go.IntKind.wrap Go.IntKind.u32 ((Go.IntKind.wrap Go.IntKind.u32 ((Go.IntKind.wrap Go.IntKind.u32 ((Go.IntKind.wrap Go.IntKind.u32 ((Go.IntKind.wrap Go.IntKind.u32 ((Go.IntKind.wrap Go.IntKind.u32 ((List.getD v_ 7 (0 : Int)) + (Go.Lift.bitsOp Go.BinOp.xor Go.IntKind.u32 (Go.Lift.bitsOp Go.BinOp.xor Go.IntKind.u32 (Go.Lift.bitsOp Go.BinOp.or Go.IntKind.u32 (Go.Lift.shrI Go.IntKind.u32 (List.getD v_ 4 (0 : Int)) (Go.IntKind.wrap Go.IntKind.u64 (6 : Int))) (Go.Lift.shlI Go.IntKind.u32 (List.getD v_ 4 (0 : Int)) (Go.IntKind.wrap Go.IntKind.u64 (Go.IntKind.wrap Go.IntKind.i64 ((32 : Int) - (6 : Int)))))) (Go.Lift.bitsOp Go.BinOp.or Go.IntKind.u32 (Go.Lift.shrI Go.IntKind.u32 (List.getD v_ 4 (0 : Int)) (Go.IntKind.wrap Go.IntKind.u64 (11 : Int))) (Go.Lift.shlI Go.IntKind.u32 (List.getD v_ 4 (0 : Int)) (Go.IntKind.wrap Go.IntKind.u64 (Go.IntKind.wrap Go.IntKind.i64 ((32 : Int) - (11 : Int))))))) (Go.Lift.bitsOp Go.BinOp.or Go.IntKind.u32 (Go.Lift.shrI Go.IntKind.u32 (List.getD v_ 4 (0 : Int)) (Go.IntKind.wrap Go.IntKind.u64 (25 : Int))) (Go.Lift.shlI Go.IntKind.u32 (List.getD v_ 4 (0 : Int)) (Go.IntKind.wrap Go.IntKind.u64 (Go.IntKind.wrap Go.IntKind.i64 ((32 : Int) - (25 : Int))))))))) + (Go.Lift.bitsOp Go.BinOp.xor Go.IntKind.u32 (Go.Lift.bitsOp Go.BinOp.and Go.IntKind.u32 (List.getD v_ 4 (0 : Int)) (List.getD v_ 5 (0 : Int))) (Go.Lift.bitsOp Go.BinOp.and Go.IntKind.u32 (Go.Lift.bitsOp Go.BinOp.xor Go.IntKind.u32 (if ((Go.IntKind.signed Go.IntKind.u32) = true) then (-(1 : Int)) else (Go.IntKind.max Go.IntKind.u32)) (List.getD v_ 4 (0 : Int))) (List.getD v_ 6 (0 : Int)))))) + (List.getD k (Int.toNat t) (0 : Int)))) + (List.getD w (Int.toNat t) (0 : Int)))) + (Go.Lift.bitsOp Go.BinOp.xor Go.IntKind.u32 (Go.Lift.bitsOp Go.BinOp.xor Go.IntKind.u32 (Go.Lift.bitsOp Go.BinOp.or Go.IntKind.u32 (Go.Lift.shrI Go.IntKind.u32 (List.getD v_ 0 (0 : Int)) (Go.IntKind.wrap Go.IntKind.u64 (2 : Int))) (Go.Lift.shlI Go.IntKind.u32 (List.getD v_ 0 (0 : Int)) (Go.IntKind.wrap Go.IntKind.u64 (Go.IntKind.wrap Go.IntKind.i64 ((32 : Int) - (2 : Int)))))) (Go.Lift.bitsOp Go.BinOp.or Go.IntKind.u32 (Go.Lift.shrI Go.IntKind.u32 (List.getD v_ 0 (0 : Int)) (Go.IntKind.wrap Go.IntKind.u64 (13 : Int))) (Go.Lift.shlI Go.IntKind.u32 (List.getD v_ 0 (0 : Int)) (Go.IntKind.wrap Go.IntKind.u64 (Go.IntKind.wrap Go.IntKind.i64 ((32 : Int) - (13 : Int))))))) (Go.Lift.bitsOp Go.BinOp.or Go.IntKind.u32 (Go.Lift.shrI Go.IntKind.u32 (List.getD v_ 0 (0 : Int)) (Go.IntKind.wrap Go.IntKind.u64 (22 : Int))) (Go.Lift.shlI Go.IntKind.u32 (List.getD v_ 0 (0 : Int)) (Go.IntKind.wrap Go.IntKind.u64 (Go.IntKind.wrap Go.IntKind.i64 ((32 : Int) - (22 : Int))))))))) + (Go.Lift.bitsOp Go.BinOp.xor Go.IntKind.u32 (Go.Lift.bitsOp Go.BinOp.xor Go.IntKind.u32 (Go.Lift.bitsOp Go.BinOp.and Go.IntKind.u32 (List.getD v_ 0 (0 : Int)) (List.getD v_ 1 (0 : Int))) (Go.Lift.bitsOp Go.BinOp.and Go.IntKind.u32 (List.getD v_ 0 (0 : Int)) (List.getD v_ 2 (0 : Int)))) (Go.Lift.bitsOp Go.BinOp.and Go.IntKind.u32 (List.getD v_ 1 (0 : Int)) (List.getD v_ 2 (0 : Int)))))), (List.getD v_ 0 (0 : Int)), (List.getD v_ 1 (0 : Int)), (List.getD v_ 2 (0 : Int)), (Go.IntKind.wrap Go.IntKind.u32 ((List.getD v_ 3 (0 : Int)) + (Go.IntKind.wrap Go.IntKind.u32 ((Go.IntKind.wrap Go.IntKind.u32 ((Go.IntKind.wrap Go.IntKind.u32 ((Go.IntKind.wrap Go.IntKind.u32 ((List.getD v_ 7 (0 : Int)) + (Go.Lift.bitsOp Go.BinOp.xor Go.IntKind.u32 (Go.Lift.bitsOp Go.BinOp.xor Go.IntKind.u32 (Go.Lift.bitsOp Go.BinOp.or Go.IntKind.u32 (Go.Lift.shrI Go.IntKind.u32 (List.getD v_ 4 (0 : Int)) (Go.IntKind.wrap Go.IntKind.u64 (6 : Int))) (Go.Lift.shlI Go.IntKind.u32 (List.getD v_ 4 (0 : Int)) (Go.IntKind.wrap Go.IntKind.u64 (Go.IntKind.wrap Go.IntKind.i64 ((32 : Int) - (6 : Int)))))) (Go.Lift.bitsOp Go.BinOp.or Go.IntKind.u32 (Go.Lift.shrI Go.IntKind.u32 (List.getD v_ 4 (0 : Int)) (Go.IntKind.wrap Go.IntKind.u64 (11 : Int))) (Go.Lift.shlI Go.IntKind.u32 (List.getD v_ 4 (0 : Int)) (Go.IntKind.wrap Go.IntKind.u64 (Go.IntKind.wrap Go.IntKind.i64 ((32 : Int) - (11 : Int))))))) (Go.Lift.bitsOp Go.BinOp.or Go.IntKind.u32 (Go.Lift.shrI Go.IntKind.u32 (List.getD v_ 4 (0 : Int)) (Go.IntKind.wrap Go.IntKind.u64 (25 : Int))) (Go.Lift.shlI Go.IntKind.u32 (List.getD v_ 4 (0 : Int)) (Go.IntKind.wrap Go.IntKind.u64 (Go.IntKind.wrap Go.IntKind.i64 ((32 : Int) - (25 : Int))))))))) + (Go.Lift.bitsOp Go.BinOp.xor Go.IntKind.u32 (Go.Lift.bitsOp Go.BinOp.and Go.IntKind.u32 (List.getD v_ 4 (0 : Int)) (List.getD v_ 5 (0 : Int))) (Go.Lift.bitsOp Go.BinOp.and Go.IntKind.u32 (Go.Lift.bitsOp Go.BinOp.xor Go.IntKind.u32 (if ((Go.IntKind.signed Go.IntKind.u32) = true) then (-(1 : Int)) else (Go.IntKind.max Go.IntKind.u32)) (List.getD v_ 4 (0 : Int))) (List.getD v_ 6 (0 : Int)))))) + (List.getD k (Int.toNat t) (0 : Int)))) + (List.getD w (Int.toNat t) (0 : Int)))))), (List.getD v_ 4 (0 : Int)), (List.getD v_ 5 (0 : Int)), (List.getD v_ 6 (0 : Int))] : List Int) (Go.IntKind.wrap Go.IntKind.i64 (t + (1 : Int))))
 (none))
 (none))
 (none))
 (none))
 (none))
 (none))
 (none))
 (none))
 (none))
 (none))
 (none))
 (none))
 (none))
 (none))
 (none))
 (none))
 (none))
 (none))
 (none))
 (none))
 (none))
 (none))
 (none))
 (none))
 (none))
 (none))
 (none))
 (k0 v_)

def z3p (N : Nat) (k : (List Int)) (h : (List Int)) (x8 : (List Int)) (w : (List Int)) (v_ : (List Int)) (t : Int) (k0 : (List Int) -> Option (List Int)) : Option (List Int) :=
 iter (fun (v : ((List Int) × Int)) r => z3m N k h x8 w v.1 v.2 (fun v_ t => (r (v_, t))) k0) N (v_, t)

def z6x (N : Nat) (i : ((List Int) × (List Int) × (List Int) × (List Int))) (v : ((List Int) × Int)) (r : ((List Int) × Int) -> Option (List Int)) (K : Ex -> List A -> Option (List Int)) : Option (List Int) :=
 z3m N i.1 i.2.1 i.2.2.1 i.2.2.2 v.1 v.2 (fun v_ t => (r (v_, t))) (fun a2 => (K (.exit 4) (mkS [(4, .box (.arr 8 (.int .u32))), (3, .box (.arr 8 (.int .u32))), (8, .box (.arr 8 (.int .u32)))] 199 (i.2.1, i.2.2.1, a2, ()))))

def z6t (N : Nat) : Hd (List Int) := fun st K => (unS [(3, .v (.sl (.int .u32))), (0, .box (.arr 8 (.int .u32))), (3, .box (.arr 8 (.int .u32))), (0, .row (.int .u32)), (7, .box (.arr 8 (.int .u32))), (0, .v (.int .i64))] 198 (restr [18, 17, 3, 9, 4, 8] 0 st)).bind fun x => iter (fun v r => z6x N ((fun x => (x.1, x.2.1, x.2.2.1, x.2.2.2.1)) x) v r K) N ((fun x => (x.2.2.2.2.1, x.2.2.2.2.2.1)) x)

def zdx (N : Nat) : Tab (List Int) := []

theorem zcn {N : Nat} {c : Ctx} (hb : Base Go.Proofs.Tryd.prog (z1a N) c) : z13 Go.Proofs.Tryd.prog c (zg zl [0, 1, 0, 1, 1, 1, 1, 1]) (z6t N) :=
  z3e (s := [(3, .v (.sl (.int .u32))), (0, .box (.arr 8 (.int .u32))), (3, .box (.arr 8 (.int .u32))), (0, .row (.int .u32)), (7, .box (.arr 8 (.int .u32))), (0, .v (.int .i64))]) (m := 198) (z6x N) [18, 17, 3, 9, 4, 8] N (fun x => (x.1, x.2.1, x.2.2.1, x.2.2.2.1)) (fun x => (x.2.2.2.2.1, x.2.2.2.2.2.1)) (fun i v => (i.1, i.2.1, i.2.2.1, i.2.2.2, v.1, v.2, ())) (fun _ => rfl) (zj hb N (zdx N) z1m zl TabOk.nil [0, 0, 1, 0, 1, 1, 1, 1, 1] _ rfl) (fun i v r K => by kernel_rfl)

def z6q (N : Nat) (h : (List Int)) (x8 : (List Int)) (v_ : (List Int)) (i : Int) (rec : (List Int) -> Int -> Option (List Int)) (k0 : (List Int) -> Option (List Int)) : Option (List Int) :=
 cond (decide (i < (8 : Int)))
 (cond (Go.Lift.inR i 8)
 (cond (decide ((Int.toNat i) < (List.length v_)))
 (cond (Go.Lift.inR i 8)
 (cond (decide ((Int.toNat i) < (List.length h)))
 (cond (Go.Lift.inR i 8)
 (cond (decide ((Int.toNat i) < (List.length v_)))
 (rec (List.set v_ (Int.toNat i) (Go.IntKind.wrap Go.IntKind.u32 ((List.getD v_ (Int.toNat i) (0 : Int)) + (List.getD h (Int.toNat i) (0 : Int))))) (Go.IntKind.wrap Go.IntKind.i64 (i + (1 : Int))))
 (none))
 (none))
 (none))
 (none))
 (none))
 (none))
 (k0 v_)

def z6r (N : Nat) (h : (List Int)) (x8 : (List Int)) (v_ : (List Int)) (i : Int) (k0 : (List Int) -> Option (List Int)) : Option (List Int) :=
 iter (fun (v : ((List Int) × Int)) r => z6q N h x8 v.1 v.2 (fun v_ i => (r (v_, i))) k0) N (v_, i)

def z6w (N : Nat) (i : ((List Int) × (List Int))) (v : ((List Int) × Int)) (r : ((List Int) × Int) -> Option (List Int)) (K : Ex -> List A -> Option (List Int)) : Option (List Int) :=
 z6q N i.1 i.2 v.1 v.2 (fun v_ i => (r (v_, i))) (fun a1 => (K (.exit 6) (mkS [(8, .box (.arr 8 (.int .u32))), (8, .box (.arr 8 (.int .u32)))] 199 (i.2, a1, ()))))

def z6s (N : Nat) : Hd (List Int) := fun st K => (unS [(4, .box (.arr 8 (.int .u32))), (3, .box (.arr 8 (.int .u32))), (8, .box (.arr 8 (.int .u32))), (6, .v (.int .i64))] 192 (restr [24, 17, 4, 8] 0 st)).bind fun x => iter (fun v r => z6w N ((fun x => (x.1, x.2.1)) x) v r K) N ((fun x => (x.2.2.1, x.2.2.2.1)) x)

def zdw (N : Nat) : Tab (List Int) := []

theorem zcm {N : Nat} {c : Ctx} (hb : Base Go.Proofs.Tryd.prog (z1a N) c) : z13 Go.Proofs.Tryd.prog c (zg zl [0, 1, 0, 1, 1, 1, 1, 1, 1]) (z6s N) :=
  z3e (s := [(4, .box (.arr 8 (.int .u32))), (3, .box (.arr 8 (.int .u32))), (8, .box (.arr 8 (.int .u32))), (6, .v (.int .i64))]) (m := 192) (z6w N) [24, 17, 4, 8] N (fun x => (x.1, x.2.1)) (fun x => (x.2.2.1, x.2.2.2.1)) (fun i v => (i.1, i.2, v.1, v.2, ())) (fun _ => rfl) (zj hb N (zdw N) z1m zl TabOk.nil [0, 0, 1, 0, 1, 1, 1, 1, 1, 1] _ rfl) (fun i v r K => by kernel_rfl)

def z2j (N : Nat) (h : (List Int)) (s : (List UInt8)) (at_ : Int) (k : (List Int)) : Option (List Int) :=
 z3r N s at_ k h ([(0 : Int), (0 : Int), (0 : Int), (0 : Int), (0 : Int), (0 : Int), (0 : Int), (0 : Int)] : List Int) ([] : List Int) (0 : Int)
 (fun w => z3q N k h ([(0 : Int), (0 : Int), (0 : Int), (0 : Int), (0 : Int), (0 : Int), (0 : Int), (0 : Int)] : List Int) w (16 : Int)
 (fun w1 => z3p N k h ([(0 : Int), (0 : Int), (0 : Int), (0 : Int), (0 : Int), (0 : Int), (0 : Int), (0 : Int)] : List Int) w1 h (0 : Int)
 (fun v_ => z6r N h ([(0 : Int), (0 : Int), (0 : Int), (0 : Int), (0 : Int), (0 : Int), (0 : Int), (0 : Int)] : List Int) v_ (0 : Int)
 (fun v_1 => some v_1))))

def z7x (N : Nat) : Tab (List Int) := [([0, 1, 0, 1, 1], z6v N), ([0, 1, 0, 1, 1, 1], z6u N), ([0, 1, 0, 1, 1, 1, 1, 1], z6t N), ([0, 1, 0, 1, 1, 1, 1, 1, 1], z6s N)]

theorem zbj (N : Nat) (x : z2i [(0, .v (.arr 8 (.int .u32))), (0, .v .str), (0, .v (.int .i64)), (0, .v (.sl (.int .u32)))]) : zak (z1a N) N (z7x N) z1m Go.Proofs.Tryd.f18 (mkS [(0, .v (.arr 8 (.int .u32))), (0, .v .str), (0, .v (.int .i64)), (0, .v (.sl (.int .u32)))] 0 x) (z56 (.v (.arr 8 (.int .u32))) 4) = z2j N x.1 x.2.1 x.2.2.1 x.2.2.2.1 := by kernel_rfl

def z5q (N : Nat) : List A -> Res := z1y [(0, .v (.arr 8 (.int .u32))), (0, .v .str), (0, .v (.int .i64)), (0, .v (.sl (.int .u32)))] (fun x => z2j N x.1 x.2.1 x.2.2.1 x.2.2.2.1) (zdc (.v (.arr 8 (.int .u32))) 4)

theorem ze0 (N : Nat) : Contract Go.Proofs.Tryd.prog glob 18 (z5q N) :=
  Contract.of (E := z1a N) (H := z7x N) (L := z1m) (N := N) (body := zl) (K := (z56 (.v (.arr 8 (.int .u32))) 4)) (zcq N) Go.Proofs.Tryd.func18 (by kernel_rfl) (by decide) (fun _ hb => (TabOk.cons (zcp hb) (TabOk.cons (zco hb) (TabOk.cons (zcn hb) (TabOk.cons (zcm hb) TabOk.nil))))) (fun x y h => by rw [zbj]; exact h) (z1k (s := (.v (.arr 8 (.int .u32)))) (m := 4))

def zbs : Code := (Go.Proofs.Tryd.f6.body).getD .skip

def z81 : List (List Nat × List Nat) := [([0], [1, 2, 4]), ([0, 0, 1], [7, 2, 4, 1]), ([1, 0, 1], [2, 1, 4]), ([0, 0, 1, 0, 1], [4]), ([1, 0, 1, 0, 1], [4]), ([0, 1, 1], [4]), ([1, 1, 1], [4])]

def z4j (N : Nat) : Env := z3v tys glob [(18, z5q N), (19, z3i N)] [] [] [] false [] []

theorem zd3 (N : Nat) : EnvOk Go.Proofs.Tryd.prog (z4j N) := zu mixed z1x (FnsOk.cons (ze0 N) (FnsOk.cons (z8y N) (FnsOk.nil))) (ItsOk.nil)

def z1d (N : Nat) (h : (List Int)) (block : (List UInt8)) : Option (List Int) :=
 cond ((((List.length block) : Nat) : Int) != (64 : Int))
 (some h)
 ((z17 N).bind fun y =>
 (z2j N h block (0 : Int) y).bind fun y1 =>
 some y1)

def z80 (N : Nat) : Tab (List Int) := []

theorem zbr (N : Nat) (x : z2i [(0, .v (.arr 8 (.int .u32))), (0, .v .str)]) : zak (z4j N) N (z80 N) z81 Go.Proofs.Tryd.f6 (mkS [(0, .v (.arr 8 (.int .u32))), (0, .v .str)] 0 x) (z56 (.v (.arr 8 (.int .u32))) 2) = z1d N x.1 x.2.1 := by kernel_rfl

def z62 (N : Nat) : List A -> Res := z1y [(0, .v (.arr 8 (.int .u32))), (0, .v .str)] (fun x => z1d N x.1 x.2.1) (zdc (.v (.arr 8 (.int .u32))) 2)

theorem ze9 (N : Nat) : Contract Go.Proofs.Tryd.prog glob 6 (z62 N) :=
  Contract.of (E := z4j N) (H := z80 N) (L := z81) (N := N) (body := zbs) (K := (z56 (.v (.arr 8 (.int .u32))) 2)) (zd3 N) Go.Proofs.Tryd.func6 (by kernel_rfl) (by decide) (fun _ hb => TabOk.nil) (fun x y h => by rw [zbr]; exact h) (z1k (s := (.v (.arr 8 (.int .u32)))) (m := 2))

def z32 : Code := (Go.Proofs.Tryd.f8.body).getD .skip

def z4i : List (List Nat × List Nat) := [([0], [1]), ([0, 1], [3, 1]), ([0, 0, 1, 1], [4, 3, 1]), ([0, 1, 0, 1, 1], [4, 3, 1]), ([0, 0, 0, 0, 1, 0, 1, 1], [6, 3, 4, 1]), ([1, 0, 0, 0, 1, 0, 1, 1], [3, 4, 1]), ([1, 1, 0, 0, 0, 1, 0, 1, 1], [3]), ([0, 0, 1, 0, 0, 1, 0, 1, 1], [4, 3, 1]), ([0, 1, 0, 0, 1, 0, 1, 1], [4, 3, 1]), ([1, 1, 0, 0, 1, 0, 1, 1], [4, 3, 1]), ([1, 0, 1, 1], [3]), ([0, 1, 1, 1], [2]), ([1, 1, 1, 1], [2])]

def z2v (N : Nat) : Env := z3v tys glob [] [(3, (.int .u8))] [] [] false [] []

theorem zd2 (N : Nat) : EnvOk Go.Proofs.Tryd.prog (z2v N) := zu mixed z1x (FnsOk.nil) (ItsOk.nil)

def z78 (N : Nat) (h : (List Int)) (b : (List Int)) (i : Int) (rec : (List Int) -> Int -> Option (List UInt8)) (k0 : (List Int) -> Option (List UInt8)) : Option (List UInt8) :=
 cond (decide (i < (8 : Int)))
 (cond (Go.Lift.inR i 8)
 (cond (decide ((Int.toNat i) < (List.length h)))
 (cond (Go.Lift.inR i 8)
 (cond (decide ((Int.toNat i) < (List.length h)))
 (cond (Go.Lift.inR i 8)
 (cond (decide ((Int.toNat i) < (List.length h)))
 (cond (Go.Lift.inR i 8)
 (cond (decide ((Int.toNat i) < (List.length h)))
 (cond (decide ((((List.length b) + 4) * 1) <= 70368744177664))
 (rec (b ++ ([(Go.IntKind.wrap Go.IntKind.u8 (Go.Lift.shrI Go.IntKind.u32 (List.getD h (Int.toNat i) (0 : Int)) (24 : Int))), (Go.IntKind.wrap Go.IntKind.u8 (Go.Lift.shrI Go.IntKind.u32 (List.getD h (Int.toNat i) (0 : Int)) (16 : Int))), (Go.IntKind.wrap Go.IntKind.u8 (Go.Lift.shrI Go.IntKind.u32 (List.getD h (Int.toNat i) (0 : Int)) (8 : Int))), (Go.IntKind.wrap Go.IntKind.u8 (List.getD h (Int.toNat i) (0 : Int)))] : List Int)) (Go.IntKind.wrap Go.IntKind.i64 (i + (1 : Int))))
 (none))
 (none))
 (none))
 (none))
 (none))
 (none))
 (none))
 (none))
 (none))
 (k0 b)

def ze7 (N : Nat) (h : (List Int)) (b : (List Int)) (i : Int) (k0 : (List Int) -> Option (List UInt8)) : Option (List UInt8) :=
 iter (fun (v : ((List Int) × Int)) r => z78 N h v.1 v.2 (fun b i => (r (b, i))) k0) N (b, i)

def z7a (N : Nat) (i : (List Int)) (v : ((List Int) × Int)) (r : ((List Int) × Int) -> Option (List UInt8)) (K : Ex -> List A -> Option (List UInt8)) : Option (List UInt8) :=
 z78 N i v.1 v.2 (fun b i => (r (b, i))) (fun a0 => (K (.exit 0) (mkS [(3, .row (.int .u8))] 29 (a0, ()))))

def z79 (N : Nat) : Hd (List UInt8) := fun st K => (unS [(1, .box (.arr 8 (.int .u32))), (1, .row (.int .u8)), (0, .v (.int .i64))] 28 (restr [4, 3, 1] 0 st)).bind fun x => iter (fun v r => z7a N ((fun x => x.1) x) v r K) N ((fun x => (x.2.1, x.2.2.1)) x)

def ze6 (N : Nat) : Tab (List UInt8) := []

theorem zd1 {N : Nat} {c : Ctx} (hb : Base Go.Proofs.Tryd.prog (z2v N) c) : z13 Go.Proofs.Tryd.prog c (zg z32 [0, 1, 0, 1, 1]) (z79 N) :=
  z3e (s := [(1, .box (.arr 8 (.int .u32))), (1, .row (.int .u8)), (0, .v (.int .i64))]) (m := 28) (z7a N) [4, 3, 1] N (fun x => x.1) (fun x => (x.2.1, x.2.2.1)) (fun i v => (i, v.1, v.2, ())) (fun _ => rfl) (zj hb N (ze6 N) z4i z32 TabOk.nil [0, 0, 1, 0, 1, 1] _ rfl) (fun i v r K => by kernel_rfl)

def z1q (N : Nat) (h : (List Int)) : Option (List UInt8) :=
 ze7 N h ([] : List Int) (0 : Int)
 (fun b => some (Go.Lift.toStr b))

def z7z (N : Nat) : Tab (List UInt8) := [([0, 1, 0, 1, 1], z79 N)]

theorem zbq (N : Nat) (x : z2i [(0, .v (.arr 8 (.int .u32)))]) : zak (z2v N) N (z7z N) z4i Go.Proofs.Tryd.f8 (mkS [(0, .v (.arr 8 (.int .u32)))] 0 x) (z56 (.v .str) 1) = z1q N x.1 := by kernel_rfl

def z61 (N : Nat) : List A -> Res := z1y [(0, .v (.arr 8 (.int .u32)))] (fun x => z1q N x.1) (zdc (.v .str) 1)

theorem ze8 (N : Nat) : Contract Go.Proofs.Tryd.prog glob 8 (z61 N) :=
  Contract.of (E := z2v N) (H := z7z N) (L := z4i) (N := N) (body := z32) (K := (z56 (.v .str) 1)) (zd2 N) Go.Proofs.Tryd.func8 (by kernel_rfl) (by decide) (fun _ hb => (TabOk.cons (zd1 hb) TabOk.nil)) (fun x y h => by rw [zbq]; exact h) (z1k (s := (.v .str)) (m := 1))

def zag : Code := (Go.Proofs.Tryd.f10.body).getD .skip

def z7c : List (List Nat × List Nat) := [([0], [0]), ([0, 1], [0]), ([1, 1], [0])]

def z3s (N : Nat) : Env := z3v tys glob [] [] [] [] false [] []

theorem zbt (N : Nat) : EnvOk Go.Proofs.Tryd.prog (z3s N) := zu mixed z1x (FnsOk.nil) (ItsOk.nil)

def z8s (N : Nat) : Option (List Int) :=
 some ([(1779033703 : Int), (3144134277 : Int), (1013904242 : Int), (2773480762 : Int), (1359893119 : Int), (2600822924 : Int), (528734635 : Int), (1541459225 : Int)] : List Int)

def z7b (N : Nat) : Tab (List Int) := []

theorem zaf (N : Nat) (x : z2i []) : zak (z3s N) N (z7b N) z7c Go.Proofs.Tryd.f10 (mkS [] 0 x) (z56 (.v (.arr 8 (.int .u32))) 0) = z8s N := by kernel_rfl

def z5h (N : Nat) : List A -> Res := z1y [] (fun x => z8s N) (zdc (.v (.arr 8 (.int .u32))) 0)

theorem zd4 (N : Nat) : Contract Go.Proofs.Tryd.prog glob 10 (z5h N) :=
  Contract.of (E := z3s N) (H := z7b N) (L := z7c) (N := N) (body := zag) (K := (z56 (.v (.arr 8 (.int .u32))) 0)) (zbt N) Go.Proofs.Tryd.func10 (by kernel_rfl) (by decide) (fun _ hb => TabOk.nil) (fun x y h => by rw [zaf]; exact h) (z1k (s := (.v (.arr 8 (.int .u32)))) (m := 0))

def z8e : Code := (Go.Proofs.Tryd.f3.body).getD .skip

def z4q : List (List Nat × List Nat) := [([0], [1, 2]), ([0, 0, 1], [7, 2, 1]), ([1, 0, 1], [2, 1]), ([0, 0, 1, 0, 1], [4]), ([1, 0, 1, 0, 1], [4]), ([0, 1, 1], [4]), ([1, 1, 1], [4])]

def z2n (N : Nat) : Env := z3v tys glob [(10, z5h N), (8, z61 N), (6, z62 N), (4, z5i N), (7, z5c N), (5, zax N), (9, z9e N)] [] [] [] false [] []

theorem z90 (N : Nat) : EnvOk Go.Proofs.Tryd.prog (z2n N) := zu mixed z1x (FnsOk.cons (zd4 N) (FnsOk.cons (ze8 N) (FnsOk.cons (ze9 N) (FnsOk.cons (zd5 N) (FnsOk.cons (z99 N) (FnsOk.cons (zi3 N) (FnsOk.cons (zgf N) (FnsOk.nil)))))))) (ItsOk.nil)

def z1b (N : Nat) (h : (List Int)) (block : (List UInt8)) : Option Bool :=
 cond (decide ((200 : Int) < (((List.length block) : Nat) : Int)))
 ((z1r N).bind fun y =>
 some y)
 ((z2e N h block).bind fun y1 =>
 (z1d N h block).bind fun y2 =>
 cond (Go.Lift.eqD (Go.Lift.T.arr 8 (Go.Lift.T.int Go.IntKind.u32)) y1 y2)
 ((z2r N h).bind fun y3 =>
 (z1q N h).bind fun y4 =>
 cond (y3 == y4)
 ((z1r N).bind fun y5 =>
 some y5)
 (some false))
 (some false))

def z4p (N : Nat) : Tab Bool := []

theorem z8d (N : Nat) (x : z2i [(0, .v (.arr 8 (.int .u32))), (0, .v .str)]) : zak (z2n N) N (z4p N) z4q Go.Proofs.Tryd.f3 (mkS [(0, .v (.arr 8 (.int .u32))), (0, .v .str)] 0 x) (z56 (.v .bool) 2) = z1b N x.1 x.2.1 := by kernel_rfl

def z8z (N : Nat) : List A -> Res := z1y [(0, .v (.arr 8 (.int .u32))), (0, .v .str)] (fun x => z1b N x.1 x.2.1) (zdc (.v .bool) 2)

theorem z9i (N : Nat) : Contract Go.Proofs.Tryd.prog glob 3 (z8z N) :=
  Contract.of (E := z2n N) (H := z4p N) (L := z4q) (N := N) (body := z8e) (K := (z56 (.v .bool) 2)) (z90 N) Go.Proofs.Tryd.func3 (by kernel_rfl) (by decide) (fun _ hb => TabOk.nil) (fun x y h => by rw [z8d]; exact h) (z1k (s := (.v .bool)) (m := 2))

end
end Go.Proofs.YtoamomodbkobfaaDoorLg

set_option linter.all false
namespace Go.Proofs.YtoamomodbkobfaaDoorPx
noncomputable section
open Go Go.Lift

theorem z9q {σ β : Type} {step : σ -> (σ -> Option β) -> Option β} (I : σ -> Prop) (m : σ -> Nat) (R : σ -> Option β)
    (h : ∀ v r, I v -> (∀ v', I v' -> m v' < m v -> r v' = R v') -> step v r = R v) : ∀ (n : Nat) (v : σ), I v -> m v < n -> iter step n v = R v
  | 0, v, _, hm => by omega
  | n + 1, v, hv, hm => h v (iter step n) hv fun v' hv' hlt => z9q I m R h n v' hv' (by omega)

theorem zw3 (x : Int) : IntKind.wrap .i64 x = (x + 9223372036854775808) % 18446744073709551616 - 9223372036854775808 := by
  simp only [IntKind.wrap, IntKind.bits, IntKind.signed, Bool.true_and, decide_eq_true_eq, Nat.add_one_sub_one, Int.reducePow, ge_iff_le]
  split <;> omega

def I64 (x : Int) : Prop := -9223372036854775808 <= x /\ x <= 9223372036854775807

instance (x : Int) : Decidable (I64 x) := by unfold I64; infer_instance

theorem z67 {x : Int} (h : I64 x) : IntKind.wrap .i64 x = x := by
  rw [zw3]; unfold I64 at h; omega

theorem zp {α : Type} {b : Bool} (h : b = true) (x y : α) : cond b x y = x := by rw [h]; rfl
theorem zaa {α : Type} {b : Bool} (h : b = false) (x y : α) : cond b x y = y := by rw [h]; rfl

theorem z2q {n len : Nat} (h : n < len) : inR (n : Int) len = true := by simp only [inR, decide_eq_true_eq]; omega
theorem zpq {i : Int} {len : Nat} (h : 0 <= i) (h' : i < len) : inR i len = true := by simp only [inR, decide_eq_true_eq]; omega
def zjw : T -> Bool
  | .int _ => true
  | .bool => true
  | .str => true
  | .unit => true
  | .pair a b => zjw a && zjw b
  | .arr _ t => zjw t
  | _ => false

theorem zll : ∀ (t : T) (x y : t.den), zjw t = true -> (eqD t x y = true ↔ x = y)
  | .int _, x, y, _ => by simp [eqD]
  | .bool, x, y, _ => by simp [eqD]
  | .str, x, y, _ => by simp [eqD]
  | .unit, x, y, _ => by simp [eqD]
  | .pair a b, x, y, h => by
    simp only [zjw, Bool.and_eq_true] at h
    have h1 := zll a x.1 y.1 h.1
    have h2 := zll b x.2 y.2 h.2
    simp only [eqD]
    cases hq : eqD a x.1 y.1 with
    | false =>
      rw [hq] at h1
      simp only [cond_false, Bool.false_eq_true, false_iff]
      intro e; exact absurd (h1.2 (by rw [e])) (by simp)
    | true =>
      rw [cond_true, h2]
      constructor
      . intro e; exact Prod.ext (h1.1 hq) e
      . intro e; rw [e]
  | .arr n t, xs, ys, h => by
    have h : zjw t = true := h
    simp only [eqD]
    induction xs generalizing ys with
    | nil => cases ys <;> simp [zpt]
    | cons x xs ih =>
      cases ys with
      | nil => simp [zpt]
      | cons y ys =>
        have h1 := zll t x y h
        simp only [zpt]
        cases hq : eqD t x y with
        | false =>
          rw [hq] at h1
          simp only [cond_false, Bool.false_eq_true, false_iff]
          intro e
          exact absurd (h1.2 (List.cons.inj e).1) (by simp)
        | true =>
          rw [cond_true]
          have h2 : zpt (eqD t) xs ys = true ↔ xs = ys := ih ys
          constructor
          . intro e; rw [h1.1 hq, h2.1 e]
          . intro e; exact h2.2 (List.cons.inj e).2
  | .opq, x, y, h => by simp [zjw] at h
  | .sl _, x, y, h => by simp [zjw] at h
  | .ptr _, x, y, h => by simp [zjw] at h

theorem zu2 {t : T} (h : zjw t = true) (x : t.den) : eqD t x x = true := (zll t x x h).2 rfl

end
end Go.Proofs.YtoamomodbkobfaaDoorPx

set_option linter.all false
namespace Go.Proofs.YtoamomodbkobfaaDoorPx
noncomputable section
open Go Go.Lift

theorem zal (x : Int) : IntKind.wrap .u8 x = x % 256 := by
  simp only [IntKind.wrap, IntKind.bits, IntKind.signed, Bool.false_and, Bool.false_eq_true, if_false]
  rfl

theorem z8i {i : Nat} (h : i < 9223372036854775807) : IntKind.wrap .i64 ((i : Int) + 1) = ((i + 1 : Nat) : Int) := by
  rw [z67 (by unfold I64; omega)]; omega

theorem zlt (a b : List Int) : toStr (a ++ b) = toStr a ++ toStr b := by simp [toStr]
theorem zst {α : Type} (l : List α) (d : α) (i : Nat) (h : i < l.length) : l.drop i = l.getD i d :: l.drop (i + 1) := by
  rw [List.getD_eq_getElem?_getD, List.getElem?_eq_getElem h, Option.getD_some, List.drop_eq_getElem_cons h]

theorem z2h {p : Prop} [Decidable p] (h : p) : decide p = true := decide_eq_true h
theorem zol {p : Prop} [Decidable p] (h : ¬ p) : decide p = false := decide_eq_false h

theorem zvu {α : Type} (l : List α) (n k : Nat) : cut l n (n + k) = (l.drop n).take k := by
  unfold cut
  rw [List.drop_take]
  congr 1; omega

end
end Go.Proofs.YtoamomodbkobfaaDoorPx

set_option linter.all false
namespace Go.Proofs.YtoamomodbkobfaaDoorLg
noncomputable section
open Go Go.Lift Go.Proofs.YtoamomodbkobfaaDoorPx

abbrev w32 (x : Int) : Int := IntKind.wrap .u32 x
theorem zoy (x : Int) : IntKind.wrap .u32 x = x % 4294967296 := rfl

theorem zrv (a b : Int) : bitsOp .or .u32 a b = bitsOp .or .u32 b a := by
  unfold bitsOp; dsimp only; rw [BitVec.or_comm]

def rrB (x n : Int) : Int := bitsOp .or .u32 (shrI .u32 x (IntKind.wrap .u64 n)) (shlI .u32 x (IntKind.wrap .u64 (IntKind.wrap .i64 ((32 : Int) - n))))

theorem zjn {x n : Int} (h1 : bitsOp .and .u64 (IntKind.wrap .u64 (IntKind.wrap .i64 ((0 : Int) - n))) (31 : Int) = IntKind.wrap .u64 (IntKind.wrap .i64 ((32 : Int) - n)))
    (h2 : IntKind.wrap .u64 ((32 : Int) - bitsOp .and .u64 (IntKind.wrap .u64 (IntKind.wrap .i64 ((0 : Int) - n))) (31 : Int)) = IntKind.wrap .u64 n) :
    bitsOp .or .u32 (shlI .u32 x (bitsOp .and .u64 (IntKind.wrap .u64 (IntKind.wrap .i64 ((0 : Int) - n))) (31 : Int))) (shrI .u32 x (IntKind.wrap .u64 ((32 : Int) - bitsOp .and .u64 (IntKind.wrap .u64 (IntKind.wrap .i64 ((0 : Int) - n))) (31 : Int)))) = rrB x n := by
  rw [h2, h1, zrv]; rfl

theorem rr6 (x : Int) : bitsOp .or .u32 (shlI .u32 x (bitsOp .and .u64 (IntKind.wrap .u64 (IntKind.wrap .i64 ((0 : Int) - (6 : Int)))) (31 : Int))) (shrI .u32 x (IntKind.wrap .u64 ((32 : Int) - bitsOp .and .u64 (IntKind.wrap .u64 (IntKind.wrap .i64 ((0 : Int) - (6 : Int)))) (31 : Int)))) = rrB x 6 := zjn (x := x) (n := 6) (by kernel_rfl) (by kernel_rfl)
theorem rr11 (x : Int) : bitsOp .or .u32 (shlI .u32 x (bitsOp .and .u64 (IntKind.wrap .u64 (IntKind.wrap .i64 ((0 : Int) - (11 : Int)))) (31 : Int))) (shrI .u32 x (IntKind.wrap .u64 ((32 : Int) - bitsOp .and .u64 (IntKind.wrap .u64 (IntKind.wrap .i64 ((0 : Int) - (11 : Int)))) (31 : Int)))) = rrB x 11 := zjn (x := x) (n := 11) (by kernel_rfl) (by kernel_rfl)
theorem rr25 (x : Int) : bitsOp .or .u32 (shlI .u32 x (bitsOp .and .u64 (IntKind.wrap .u64 (IntKind.wrap .i64 ((0 : Int) - (25 : Int)))) (31 : Int))) (shrI .u32 x (IntKind.wrap .u64 ((32 : Int) - bitsOp .and .u64 (IntKind.wrap .u64 (IntKind.wrap .i64 ((0 : Int) - (25 : Int)))) (31 : Int)))) = rrB x 25 := zjn (x := x) (n := 25) (by kernel_rfl) (by kernel_rfl)
theorem rr2 (x : Int) : bitsOp .or .u32 (shlI .u32 x (bitsOp .and .u64 (IntKind.wrap .u64 (IntKind.wrap .i64 ((0 : Int) - (2 : Int)))) (31 : Int))) (shrI .u32 x (IntKind.wrap .u64 ((32 : Int) - bitsOp .and .u64 (IntKind.wrap .u64 (IntKind.wrap .i64 ((0 : Int) - (2 : Int)))) (31 : Int)))) = rrB x 2 := zjn (x := x) (n := 2) (by kernel_rfl) (by kernel_rfl)
theorem rr13 (x : Int) : bitsOp .or .u32 (shlI .u32 x (bitsOp .and .u64 (IntKind.wrap .u64 (IntKind.wrap .i64 ((0 : Int) - (13 : Int)))) (31 : Int))) (shrI .u32 x (IntKind.wrap .u64 ((32 : Int) - bitsOp .and .u64 (IntKind.wrap .u64 (IntKind.wrap .i64 ((0 : Int) - (13 : Int)))) (31 : Int)))) = rrB x 13 := zjn (x := x) (n := 13) (by kernel_rfl) (by kernel_rfl)
theorem rr22 (x : Int) : bitsOp .or .u32 (shlI .u32 x (bitsOp .and .u64 (IntKind.wrap .u64 (IntKind.wrap .i64 ((0 : Int) - (22 : Int)))) (31 : Int))) (shrI .u32 x (IntKind.wrap .u64 ((32 : Int) - bitsOp .and .u64 (IntKind.wrap .u64 (IntKind.wrap .i64 ((0 : Int) - (22 : Int)))) (31 : Int)))) = rrB x 22 := zjn (x := x) (n := 22) (by kernel_rfl) (by kernel_rfl)
theorem rr7 (x : Int) : bitsOp .or .u32 (shlI .u32 x (bitsOp .and .u64 (IntKind.wrap .u64 (IntKind.wrap .i64 ((0 : Int) - (7 : Int)))) (31 : Int))) (shrI .u32 x (IntKind.wrap .u64 ((32 : Int) - bitsOp .and .u64 (IntKind.wrap .u64 (IntKind.wrap .i64 ((0 : Int) - (7 : Int)))) (31 : Int)))) = rrB x 7 := zjn (x := x) (n := 7) (by kernel_rfl) (by kernel_rfl)
theorem rr18 (x : Int) : bitsOp .or .u32 (shlI .u32 x (bitsOp .and .u64 (IntKind.wrap .u64 (IntKind.wrap .i64 ((0 : Int) - (18 : Int)))) (31 : Int))) (shrI .u32 x (IntKind.wrap .u64 ((32 : Int) - bitsOp .and .u64 (IntKind.wrap .u64 (IntKind.wrap .i64 ((0 : Int) - (18 : Int)))) (31 : Int)))) = rrB x 18 := zjn (x := x) (n := 18) (by kernel_rfl) (by kernel_rfl)
theorem rr17 (x : Int) : bitsOp .or .u32 (shlI .u32 x (bitsOp .and .u64 (IntKind.wrap .u64 (IntKind.wrap .i64 ((0 : Int) - (17 : Int)))) (31 : Int))) (shrI .u32 x (IntKind.wrap .u64 ((32 : Int) - bitsOp .and .u64 (IntKind.wrap .u64 (IntKind.wrap .i64 ((0 : Int) - (17 : Int)))) (31 : Int)))) = rrB x 17 := zjn (x := x) (n := 17) (by kernel_rfl) (by kernel_rfl)
theorem rr19 (x : Int) : bitsOp .or .u32 (shlI .u32 x (bitsOp .and .u64 (IntKind.wrap .u64 (IntKind.wrap .i64 ((0 : Int) - (19 : Int)))) (31 : Int))) (shrI .u32 x (IntKind.wrap .u64 ((32 : Int) - bitsOp .and .u64 (IntKind.wrap .u64 (IntKind.wrap .i64 ((0 : Int) - (19 : Int)))) (31 : Int)))) = rrB x 19 := zjn (x := x) (n := 19) (by kernel_rfl) (by kernel_rfl)

def S1B (e : Int) : Int := bitsOp .xor .u32 (bitsOp .xor .u32 (rrB e 6) (rrB e 11)) (rrB e 25)
def S0B (a : Int) : Int := bitsOp .xor .u32 (bitsOp .xor .u32 (rrB a 2) (rrB a 13)) (rrB a 22)
def chB (e f g : Int) : Int := bitsOp .xor .u32 (bitsOp .and .u32 e f) (bitsOp .and .u32 (bitsOp .xor .u32 (if (IntKind.signed .u32) = true then (-(1 : Int)) else IntKind.max .u32) e) g)
def majB (a b c : Int) : Int := bitsOp .xor .u32 (bitsOp .xor .u32 (bitsOp .and .u32 a b) (bitsOp .and .u32 a c)) (bitsOp .and .u32 b c)
def t1B (v : List Int) (K W : Int) : Int := w32 (w32 (w32 (w32 (v.getD 7 0 + S1B (v.getD 4 0)) + chB (v.getD 4 0) (v.getD 5 0) (v.getD 6 0)) + K) + W)
def zpe (v : List Int) (K W : Int) : List Int :=
 [w32 (w32 (t1B v K W + S0B (v.getD 0 0)) + majB (v.getD 0 0) (v.getD 1 0) (v.getD 2 0)), v.getD 0 0, v.getD 1 0, v.getD 2 0, w32 (v.getD 3 0 + t1B v K W), v.getD 4 0, v.getD 5 0, v.getD 6 0]
def s1B (y : Int) : Int := bitsOp .xor .u32 (bitsOp .xor .u32 (rrB y 17) (rrB y 19)) (shrI .u32 y 10)
def s0B (x : Int) : Int := bitsOp .xor .u32 (bitsOp .xor .u32 (rrB x 7) (rrB x 18)) (shrI .u32 x 3)
def zta (w : List Int) (t : Nat) : Int := w32 (w32 (w32 (s1B (w.getD (t - 2) 0) + w.getD (t - 7) 0) + s0B (w.getD (t - 15) 0)) + w.getD (t - 16) 0)

theorem sum1 (a b c K W : Int) : w32 (w32 (w32 (a + b) + c) + w32 (K + W)) = w32 (w32 (w32 (w32 (a + b) + c) + K) + W) := by
  simp only [w32, zoy]; omega
theorem sum2 (t a b : Int) : w32 (t + w32 (a + b)) = w32 (w32 (t + a) + b) := by simp only [w32, zoy]; omega

theorem zti (N : Nat) {v : List Int} (K W : Int) (hv : v.length = 8) : zav N v (IntKind.wrap .u32 (K + W)) = some (zpe v K W) := by
  simp only [zav]
  rw [zp (z2h (by omega)), zp (z2h (by omega)), zp (z2h (by omega)), zp (z2h (by omega)), zp (z2h (by omega)), zp (z2h (by omega)), zp (z2h (by omega)), zp (z2h (by omega))]
  simp only [rr6, rr11, rr25, rr2, rr13, rr22]
  have e1 := sum1 (v.getD 7 0) (S1B (v.getD 4 0)) (chB (v.getD 4 0) (v.getD 5 0) (v.getD 6 0)) K W
  have e2 := sum2 (t1B v K W) (S0B (v.getD 0 0)) (majB (v.getD 0 0) (v.getD 1 0) (v.getD 2 0))
  show some [w32 (w32 (w32 (w32 (v.getD 7 0 + S1B (v.getD 4 0)) + chB (v.getD 4 0) (v.getD 5 0) (v.getD 6 0)) + w32 (K + W)) + w32 (S0B (v.getD 0 0) + majB (v.getD 0 0) (v.getD 1 0) (v.getD 2 0))), v.getD 0 0, v.getD 1 0, v.getD 2 0, w32 (v.getD 3 0 + w32 (w32 (w32 (v.getD 7 0 + S1B (v.getD 4 0)) + chB (v.getD 4 0) (v.getD 5 0) (v.getD 6 0)) + w32 (K + W))), v.getD 4 0, v.getD 5 0, v.getD 6 0] = _
  rw [e1]
  show some [w32 (t1B v K W + w32 (S0B (v.getD 0 0) + majB (v.getD 0 0) (v.getD 1 0) (v.getD 2 0))), v.getD 0 0, v.getD 1 0, v.getD 2 0, w32 (v.getD 3 0 + t1B v K W), v.getD 4 0, v.getD 5 0, v.getD 6 0] = _
  rw [e2]; rfl

theorem zev (v : List Int) (K W : Int) : (zpe v K W).length = 8 := rfl

def zih (K w : List Int) : Nat -> Nat -> List Int -> List Int
  | 0, _, v => v
  | j + 1, t, v => zih K w j (t + 1) (zpe v (K.getD t 0) (w.getD t 0))

theorem zn9 : glob0.length = 64 := by kernel_rfl

theorem zrj (N : Nat) {h x4 w v : List Int} {k0 : List Int -> Option (List Int)} (hv : v.length = 8) (hw : w.length = 64) (hN : 64 < N) : zdl N h x4 w v 0 k0 = k0 (zih glob0 w 64 0 v) := by
  simp only [zdl]
  rw [z9q (I := fun (v : List Int × Int) => ∃ t : Nat, v.2 = (t : Int) /\ t <= 64 /\ v.1.length = 8) (m := fun v => 64 - v.2.toNat) (R := fun v => k0 (zih glob0 w (64 - v.2.toNat) v.2.toNat v.1)) ?_ N (v, 0) ⟨0, rfl, by omega, hv⟩ (by simpa using hN)]
  . rfl
  rintro ⟨v, z⟩ r ⟨t, e, ht, hl⟩ hr
  dsimp only at e hl hr ⊢
  subst e
  rw [Int.toNat_natCast] at hr ⊢
  simp only [zdk]
  by_cases hlt : t < 64
  . rw [zp (z2h (by omega)), zp (z2q hlt), zp (z2q hlt), Int.toNat_natCast, zp (z2h (by omega)), zti N _ _ hl, Option.bind_some, z8i (by omega), hr _ ⟨t + 1, rfl, by omega, zev _ _ _⟩ (by dsimp only; omega)]
    dsimp only
    rw [Int.toNat_natCast, show 64 - t = (64 - (t + 1)) + 1 by omega]; rfl
  . rw [zaa (zol (by omega)), show 64 - t = 0 by omega]; rfl

theorem zmu (N : Nat) {k h x8 w v : List Int} {k0 : List Int -> Option (List Int)} (hv : v.length = 8) (hw : w.length = 64) (hk : k.length = 64) (hN : 64 < N) : z3p N k h x8 w v 0 k0 = k0 (zih k w 64 0 v) := by
  simp only [z3p]
  rw [z9q (I := fun (v : List Int × Int) => ∃ t : Nat, v.2 = (t : Int) /\ t <= 64 /\ v.1.length = 8) (m := fun v => 64 - v.2.toNat) (R := fun v => k0 (zih k w (64 - v.2.toNat) v.2.toNat v.1)) ?_ N (v, 0) ⟨0, rfl, by omega, hv⟩ (by simpa using hN)]
  . rfl
  rintro ⟨v, z⟩ r ⟨t, e, ht, hl⟩ hr
  dsimp only at e hl hr ⊢
  subst e
  rw [Int.toNat_natCast] at hr ⊢
  simp only [z3m]
  by_cases hlt : t < 64
  . have c0 : decide (0 < v.length) = true := z2h (by omega)
    have c1 : decide (1 < v.length) = true := z2h (by omega)
    have c2 : decide (2 < v.length) = true := z2h (by omega)
    have c3 : decide (3 < v.length) = true := z2h (by omega)
    have c4 : decide (4 < v.length) = true := z2h (by omega)
    have c5 : decide (5 < v.length) = true := z2h (by omega)
    have c6 : decide (6 < v.length) = true := z2h (by omega)
    have c7 : decide (7 < v.length) = true := z2h (by omega)
    have c8 : inR (t : Int) k.length = true := z2q (by omega)
    have c9 : inR (t : Int) w.length = true := z2q (by omega)
    have c10 : decide (t < w.length) = true := z2h (by omega)
    have e2 := hr (zpe v (k.getD t 0) (w.getD t 0), ((t + 1 : Nat) : Int)) ⟨t + 1, rfl, by omega, zev _ _ _⟩ (by dsimp only; omega)
    simp only [c0, c1, c2, c3, c4, c5, c6, c7, c8, c9, Int.toNat_natCast, c10, cond_true]
    rw [zp (z2h (by omega)), z8i (by omega)]
    refine Eq.trans e2 ?_
    dsimp only
    rw [Int.toNat_natCast, show 64 - t = (64 - (t + 1)) + 1 by omega]; rfl
  . rw [zaa (zol (by omega)), show 64 - t = 0 by omega]; rfl

theorem zwx (N : Nat) (h x4 x8 v : List Int) (k0 : List Int -> Option (List Int)) : z6r N h x8 v 0 k0 = zhy N h x4 v 0 k0 := rfl

def ztb : Nat -> List Int -> List Int
  | 0, w => w
  | j + 1, w => ztb j (w ++ [zta w w.length])
theorem zj5 : ∀ (j : Nat) (w : List Int), (ztb j w).length = w.length + j
  | 0, _ => rfl
  | j + 1, w => by simp only [ztb, zj5 j, List.length_append, List.length_cons, List.length_nil]; omega

theorem ix (t k : Nat) (h : k <= t) (ht : t <= 64) : IntKind.wrap .i64 ((t : Int) - (k : Int)) = ((t - k : Nat) : Int) := by rw [z67 (by unfold I64; omega)]; omega

theorem zqb (N : Nat) {k h x8 w : List Int} {k0 : List Int -> Option (List Int)} (hw : w.length = 16) (hN : 64 < N) : z3q N k h x8 w 16 k0 = k0 (ztb 48 w) := by
  simp only [z3q]
  rw [z9q (I := fun (v : List Int × Int) => ∃ t : Nat, v.2 = (t : Int) /\ 16 <= t /\ t <= 64 /\ v.1.length = t) (m := fun v => 64 - v.2.toNat) (R := fun v => k0 (ztb (64 - v.2.toNat) v.1)) ?_ N (w, 16) ⟨16, rfl, by omega, by omega, hw⟩ (by dsimp only; omega)]
  . rfl
  rintro ⟨w, z⟩ r ⟨t, e, ht0, ht, hl⟩ hr
  dsimp only at e hl hr ⊢
  subst e
  rw [Int.toNat_natCast] at hr ⊢
  simp only [z3n]
  by_cases hlt : t < 64
  . have i2 : IntKind.wrap .i64 ((t : Int) - 2) = ((t - 2 : Nat) : Int) := ix t 2 (by omega) ht
    have i7 : IntKind.wrap .i64 ((t : Int) - 7) = ((t - 7 : Nat) : Int) := ix t 7 (by omega) ht
    have i15 : IntKind.wrap .i64 ((t : Int) - 15) = ((t - 15 : Nat) : Int) := ix t 15 (by omega) ht
    have i16 : IntKind.wrap .i64 ((t : Int) - 16) = ((t - 16 : Nat) : Int) := ix t 16 (by omega) ht
    have e2 := hr (w ++ [zta w w.length], ((t + 1 : Nat) : Int)) ⟨t + 1, rfl, by omega, by omega, by simp [hl]⟩ (by dsimp only; omega)
    rw [i2, i7, i15, i16, Int.toNat_natCast, Int.toNat_natCast, Int.toNat_natCast, Int.toNat_natCast]
    rw [zp (z2h (by omega)), zp (z2q (by omega)), zp (z2h (by omega)), zp (z2q (by omega)), zp (z2h (by omega)), zp (z2q (by omega)), zp (z2h (by omega)), zp (z2q (by omega)), zp (z2h (by omega)), zp (z2h (by omega)), z8i (by omega)]
    rw [hl] at e2
    refine Eq.trans e2 ?_
    dsimp only
    rw [Int.toNat_natCast, show 64 - t = (64 - (t + 1)) + 1 by omega]
    simp only [ztb, hl]
  . rw [zaa (zol (by omega)), show 64 - t = 0 by omega]; rfl

theorem zli {α : Type} (a b : List α) (d : α) {i : Nat} (h : i < a.length) : (a ++ b).getD i d = a.getD i d := by
  rw [List.getD_eq_getElem?_getD, List.getElem?_append_left h, <- List.getD_eq_getElem?_getD]
theorem zrg {α : Type} (a b : List α) (x y : α) : (a ++ y :: b).set a.length x = a ++ x :: b := by
  rw [List.set_append_right _ _ (by omega), Nat.sub_self]; rfl

theorem zvq (N : Nat) {x2 S Z : List Int} {k0 : List Int -> Option (List Int)} (hS : S.length = 16) (hZ : Z.length = 48) (hN : 64 < N) : z6a N x2 (S ++ Z) 16 k0 = k0 (ztb 48 S) := by
  simp only [z6a]
  rw [z9q (I := fun (v : List Int × Int) => ∃ (t : Nat) (A B : List Int), v = (A ++ B, (t : Int)) /\ 16 <= t /\ t <= 64 /\ A.length = t /\ B.length = 64 - t) (m := fun v => 64 - v.2.toNat) (R := fun v => k0 (ztb (64 - v.2.toNat) (v.1.take v.2.toNat))) ?_ N (S ++ Z, 16) ⟨16, S, Z, rfl, by omega, by omega, hS, hZ⟩ (by dsimp only; omega)]
  . dsimp only
    rw [show (16 : Int).toNat = 16 from rfl, List.take_append_of_le_length (by omega), List.take_of_length_le (by omega)]
  rintro v r ⟨t, A, B, rfl, ht0, ht, hA, hB⟩ hr
  dsimp only at hr ⊢
  rw [Int.toNat_natCast] at hr ⊢
  have hAt : (A ++ B).take t = A := by rw [List.take_append_of_le_length (by omega), List.take_of_length_le (by omega)]
  rw [hAt]
  simp only [z68]
  by_cases hlt : t < 64
  . have i2 : IntKind.wrap .i64 ((t : Int) - 2) = ((t - 2 : Nat) : Int) := ix t 2 (by omega) ht
    have i7 : IntKind.wrap .i64 ((t : Int) - 7) = ((t - 7 : Nat) : Int) := ix t 7 (by omega) ht
    have i15 : IntKind.wrap .i64 ((t : Int) - 15) = ((t - 15 : Nat) : Int) := ix t 15 (by omega) ht
    have i16 : IntKind.wrap .i64 ((t : Int) - 16) = ((t - 16 : Nat) : Int) := ix t 16 (by omega) ht
    have hl : (A ++ B).length = 64 := by rw [List.length_append]; omega
    obtain ⟨y, B', rfl⟩ : ∃ y B', B = y :: B' := by
      cases B with
      | nil => simp at hB; omega
      | cons y B' => exact ⟨y, B', rfl⟩
    have e2 := hr (A ++ zta A t :: B', ((t + 1 : Nat) : Int)) ⟨t + 1, A ++ [zta A t], B', by rw [List.append_assoc]; rfl, by omega, by omega, by simp [hA], by simp at hB; omega⟩ (by dsimp only; omega)
    rw [i2, i7, i15, i16, Int.toNat_natCast, Int.toNat_natCast, Int.toNat_natCast, Int.toNat_natCast, Int.toNat_natCast]
    rw [zp (z2h (by omega)), zp (z2q (by omega)), zp (z2h (by omega)), zp (z2q (by omega)), zp (z2h (by omega)), zp (z2q (by omega)), zp (z2h (by omega)), zp (z2q (by omega)), zp (z2h (by omega)), zp (z2q (by omega)), zp (z2h (by omega)), z8i (by omega)]
    rw [zli A _ 0 (by omega : t - 2 < A.length), zli A _ 0 (by omega : t - 7 < A.length), zli A _ 0 (by omega : t - 15 < A.length), zli A _ 0 (by omega : t - 16 < A.length)]
    simp only [rr17, rr19, rr7, rr18]
    have hset := zrg A B' (zta A t) y
    rw [hA] at hset
    show r ((A ++ y :: B').set t (zta A t), ((t + 1 : Nat) : Int)) = _
    rw [hset]
    refine Eq.trans e2 ?_
    dsimp only
    rw [Int.toNat_natCast, show 64 - t = (64 - (t + 1)) + 1 by omega]
    have htk : (A ++ zta A t :: B').take (t + 1) = A ++ [zta A t] := by
      rw [show A ++ zta A t :: B' = (A ++ [zta A t]) ++ B' by rw [List.append_assoc]; rfl, List.take_append_of_le_length (by simp [hA]), List.take_of_length_le (by simp [hA])]
    rw [htk]
    simp only [ztb, hA]
  . have hB0 : B = [] := List.length_eq_zero_iff.1 (by omega)
    subst hB0
    rw [zaa (zol (by omega)), show 64 - t = 0 by omega, List.append_nil]; rfl

end
end Go.Proofs.YtoamomodbkobfaaDoorLg

set_option linter.all false
namespace Go.Proofs.YtoamomodbkobfaaDoorLg
noncomputable section
open Go Go.Lift Go.Proofs.YtoamomodbkobfaaDoorPx

theorem zpx {α : Type} (l : List α) (d : α) {n : Nat} (h : l.length = n) : l = (List.range n).map fun i => l.getD i d := by
  apply List.ext_getElem?
  intro i
  rw [List.getElem?_map]
  by_cases hi : i < n
  . rw [List.getElem?_eq_getElem (by omega), List.getElem?_range hi, Option.map_some, List.getD_eq_getElem?_getD, List.getElem?_eq_getElem (by omega)]; rfl
  . rw [List.getElem?_eq_none (by omega), List.getElem?_eq_none (by rw [List.length_range]; omega)]; rfl

set_option maxRecDepth 100000 in
theorem ztg (k : Nat) (g : Nat -> Int) (f : Nat -> UInt8) : (z2e (k + 100) ((List.range 8).map g) ((List.range 64).map f)).map List.length = some 8 := by kernel_rfl
set_option maxRecDepth 100000 in
theorem zte (k : Nat) (g : Nat -> Int) : (z2r (k + 100) ((List.range 8).map g)).isSome = true := by kernel_rfl

def st (N : Nat) (h : List Int) (b : List UInt8) : List Int := (z2e N h b).getD []
theorem st_eq (k : Nat) {h : List Int} {b : List UInt8} (hh : h.length = 8) (hb : b.length = 64) : z2e (k + 100) h b = some (st (k + 100) h b) /\ (st (k + 100) h b).length = 8 := by
  have := ztg k (fun i => h.getD i 0) (fun i => b.getD i 0)
  rw [<- zpx h 0 hh, <- zpx b 0 hb] at this
  unfold st
  cases e : z2e (k + 100) h b with
  | none => rw [e] at this; cases this
  | some y => rw [e] at this; exact ⟨rfl, Option.some.inj this⟩

abbrev first : List Int := [1779033703, 3144134277, 1013904242, 2773480762, 1359893119, 2600822924, 528734635, 1541459225]
def zwb (N : Nat) (h : List Int) : List UInt8 := (z2r N h).getD []
theorem zv7 (k : Nat) {h : List Int} (hh : h.length = 8) : z2r (k + 100) h = some (zwb (k + 100) h) := by
  have := zte k (fun i => h.getD i 0)
  rw [<- zpx h 0 hh] at this
  unfold zwb
  cases e : z2r (k + 100) h with
  | none => rw [e] at this; cases this
  | some y => rfl

end
end Go.Proofs.YtoamomodbkobfaaDoorLg

set_option linter.all false
namespace Go.Proofs.YtoamomodbkobfaaDoorLg
noncomputable section
open Go Go.Lift Go.Proofs.YtoamomodbkobfaaDoorPx

def zw4 (f : Nat -> UInt8) (t : Nat) : Nat := (((f (4 * t)).toNat * 256 + (f (4 * t + 1)).toNat) * 256 + (f (4 * t + 2)).toNat) * 256 + (f (4 * t + 3)).toNat
def zkv (f : Nat -> UInt8) (t : Nat) : Int := (zw4 f t : Int)

theorem zwc (b : UInt8) : shlI .u32 (IntKind.wrap .u32 ((b.toNat : Nat) : Int)) 24 = ((b.toNat * 16777216 : Nat) : Int) := by
  have := b.toNat_lt
  show (((b.toNat : Nat) : Int) % 4294967296 * 16777216) % 4294967296 = _
  omega
theorem zwd (b : UInt8) : shlI .u32 (IntKind.wrap .u32 ((b.toNat : Nat) : Int)) 16 = ((b.toNat * 65536 : Nat) : Int) := by
  have := b.toNat_lt
  show (((b.toNat : Nat) : Int) % 4294967296 * 65536) % 4294967296 = _
  omega
theorem shl8 (b : UInt8) : shlI .u32 (IntKind.wrap .u32 ((b.toNat : Nat) : Int)) 8 = ((b.toNat * 256 : Nat) : Int) := by
  have := b.toNat_lt
  show (((b.toNat : Nat) : Int) % 4294967296 * 256) % 4294967296 = _
  omega
theorem wr8 (b : UInt8) : IntKind.wrap .u32 ((b.toNat : Nat) : Int) = ((b.toNat : Nat) : Int) := by
  have := b.toNat_lt
  show ((b.toNat : Nat) : Int) % 4294967296 = _
  omega

theorem zvh {a b : Nat} (c : Nat) (hb : b < 2 ^ c) (h : a * 2 ^ c + b < 4294967296) : bitsOp .or .u32 ((a * 2 ^ c : Nat) : Int) ((b : Nat) : Int) = ((a * 2 ^ c + b : Nat) : Int) := by
  unfold bitsOp
  show IntKind.wrap .u32 (((BitVec.ofInt 32 ((a * 2 ^ c : Nat) : Int) ||| BitVec.ofInt 32 ((b : Nat) : Int)).toNat : Nat) : Int) = _
  rw [BitVec.ofInt_natCast, BitVec.ofInt_natCast, BitVec.toNat_or, BitVec.toNat_ofNat, BitVec.toNat_ofNat, Nat.mod_eq_of_lt (by omega), Nat.mod_eq_of_lt (by omega)]
  have := Nat.shiftLeft_add_eq_or_of_lt hb a
  rw [Nat.shiftLeft_eq] at this
  rw [<- this, zoy, Int.emod_eq_of_lt (by omega) (by omega)]

theorem zuu (b0 b1 b2 b3 : UInt8) : bitsOp .or .u32 (bitsOp .or .u32 (bitsOp .or .u32 (shlI .u32 (IntKind.wrap .u32 ((b0.toNat : Nat) : Int)) 24) (shlI .u32 (IntKind.wrap .u32 ((b1.toNat : Nat) : Int)) 16)) (shlI .u32 (IntKind.wrap .u32 ((b2.toNat : Nat) : Int)) 8)) (IntKind.wrap .u32 ((b3.toNat : Nat) : Int)) = (((((b0.toNat * 256 + b1.toNat) * 256 + b2.toNat) * 256 + b3.toNat) : Nat) : Int) := by
  have h0 := b0.toNat_lt
  have h1 := b1.toNat_lt
  have h2 := b2.toNat_lt
  have h3 := b3.toNat_lt
  rw [zwc, zwd, shl8, wr8]
  have e1 := zvh (a := b0.toNat) (b := b1.toNat * 65536) 24 (by simp only [Nat.reducePow]; omega) (by simp only [Nat.reducePow]; omega)
  have e2 := zvh (a := b0.toNat * 256 + b1.toNat) (b := b2.toNat * 256) 16 (by simp only [Nat.reducePow]; omega) (by simp only [Nat.reducePow]; omega)
  have e3 := zvh (a := (b0.toNat * 256 + b1.toNat) * 256 + b2.toNat) (b := b3.toNat) 8 (by simp only [Nat.reducePow]; omega) (by simp only [Nat.reducePow]; omega)
  simp only [Nat.reducePow] at e1 e2 e3
  rw [e1, show b0.toNat * 16777216 + b1.toNat * 65536 = (b0.toNat * 256 + b1.toNat) * 65536 by omega, e2, show (b0.toNat * 256 + b1.toNat) * 65536 + b2.toNat * 256 = ((b0.toNat * 256 + b1.toNat) * 256 + b2.toNat) * 256 by omega, e3]

theorem ztc (b0 b1 b2 b3 : UInt8) : IntKind.wrap .u32 (IntKind.wrap .u32 (IntKind.wrap .u32 (shlI .u32 (IntKind.wrap .u32 ((b0.toNat : Nat) : Int)) 24 + shlI .u32 (IntKind.wrap .u32 ((b1.toNat : Nat) : Int)) 16) + shlI .u32 (IntKind.wrap .u32 ((b2.toNat : Nat) : Int)) 8) + IntKind.wrap .u32 ((b3.toNat : Nat) : Int)) = (((((b0.toNat * 256 + b1.toNat) * 256 + b2.toNat) * 256 + b3.toNat) : Nat) : Int) := by
  have h0 := b0.toNat_lt
  have h1 := b1.toNat_lt
  have h2 := b2.toNat_lt
  have h3 := b3.toNat_lt
  rw [zwc, zwd, shl8, wr8]
  simp only [zoy]
  omega

theorem zkc (f : Nat -> UInt8) (t : Nat) : (List.range (t + 1)).map (zkv f) = (List.range t).map (zkv f) ++ [zkv f t] := by
  rw [List.range_succ, List.map_append]; rfl

theorem zvf (N : Nat) {s : List UInt8} {a : Nat} {k h x8 : List Int} {k0 : List Int -> Option (List Int)} (ha : a + 64 <= s.length) (hs : s.length <= 100000) (hN : 16 < N) :
    z3r N s (a : Int) k h x8 [] 0 k0 = k0 ((List.range 16).map (zkv fun j => s.getD (a + j) 0)) := by
  simp only [z3r]
  rw [z9q (I := fun (v : List Int × Int) => ∃ t : Nat, v = ((List.range t).map (zkv fun j => s.getD (a + j) 0), (t : Int)) /\ t <= 16) (m := fun v => 16 - v.2.toNat) (R := fun _ => k0 ((List.range 16).map (zkv fun j => s.getD (a + j) 0))) ?_ N ([], 0) ⟨0, rfl, by omega⟩ (by simpa using hN)]
  rintro v r ⟨t, rfl, ht⟩ hr
  dsimp only at hr ⊢
  rw [Int.toNat_natCast] at hr
  simp only [z3o]
  by_cases hlt : t < 16
  . have i0 : IntKind.wrap .i64 ((a : Int) + IntKind.wrap .i64 ((4 : Int) * (t : Int))) = ((a + 4 * t : Nat) : Int) := by
      rw [z67 (x := (4 : Int) * _) (by unfold I64; omega), z67 (by unfold I64; omega)]; omega
    have i1 : IntKind.wrap .i64 (((a + 4 * t : Nat) : Int) + 1) = ((a + (4 * t + 1) : Nat) : Int) := by rw [z67 (by unfold I64; omega)]; omega
    have i2 : IntKind.wrap .i64 (((a + 4 * t : Nat) : Int) + 2) = ((a + (4 * t + 2) : Nat) : Int) := by rw [z67 (by unfold I64; omega)]; omega
    have i3 : IntKind.wrap .i64 (((a + 4 * t : Nat) : Int) + 3) = ((a + (4 * t + 3) : Nat) : Int) := by rw [z67 (by unfold I64; omega)]; omega
    rw [i0, i1, i2, i3, Int.toNat_natCast, Int.toNat_natCast, Int.toNat_natCast, Int.toNat_natCast]
    rw [zp (z2h (by omega)), zp (z2q (by omega)), zp (z2q (by omega)), zp (z2q (by omega)), zp (z2q (by omega)), zp (z2h (by rw [List.length_map, List.length_range]; omega)), ztc, z8i (by omega)]
    exact hr _ ⟨t + 1, by rw [zkc]; rfl, by omega⟩ (by dsimp only; omega)
  . rw [zaa (zol (by omega)), show t = 16 by omega]

theorem zvc (N : Nat) {b : List UInt8} {x2 Z : List Int} {k0 : List Int -> Option (List Int)} (hb : b.length = 64) (hZ : Z.length = 64) (hN : 16 < N) :
    z6b N b x2 Z 0 k0 = k0 ((List.range 16).map (zkv fun j => b.getD j 0) ++ Z.drop 16) := by
  simp only [z6b]
  rw [z9q (I := fun (v : List Int × Int) => ∃ t : Nat, v = ((List.range t).map (zkv fun j => b.getD j 0) ++ Z.drop t, (t : Int)) /\ t <= 16) (m := fun v => 16 - v.2.toNat) (R := fun _ => k0 ((List.range 16).map (zkv fun j => b.getD j 0) ++ Z.drop 16)) ?_ N (Z, 0) ⟨0, rfl, by omega⟩ (by simpa using hN)]
  rintro v r ⟨t, rfl, ht⟩ hr
  dsimp only at hr ⊢
  rw [Int.toNat_natCast] at hr
  simp only [z69]
  by_cases hlt : t < 16
  . have i0 : IntKind.wrap .i64 ((4 : Int) * (t : Int)) = ((4 * t : Nat) : Int) := by rw [z67 (by unfold I64; omega)]; omega
    have i1 : IntKind.wrap .i64 (((4 * t : Nat) : Int) + 4) = ((4 * t + 4 : Nat) : Int) := by rw [z67 (by unfold I64; omega)]; omega
    have hc : ((b.drop (4 * t)).take 4).length = 4 := by rw [List.length_take, List.length_drop]; omega
    have hg : ∀ j, j < 4 -> ((b.drop (4 * t)).take 4).getD j 0 = b.getD (4 * t + j) 0 := by
      intro j hj
      rw [List.getD_eq_getElem?_getD, List.getElem?_take_of_lt hj, List.getElem?_drop, <- List.getD_eq_getElem?_getD]
    have hla : ((List.range t).map (zkv fun j => b.getD j 0)).length = t := by rw [List.length_map, List.length_range]
    rw [i0, i1, Int.toNat_natCast, Int.toNat_natCast, Int.toNat_natCast, zvu]
    rw [zp (z2h (by omega)), zp (z2h (by omega)), zp (z2h (by omega)), zp (zpq (by omega) (by omega)), zp (zpq (by omega) (by omega)), zp (zpq (by omega) (by omega)), zp (zpq (by omega) (by omega)), zp (z2q (by omega)), zp (z2h (by rw [List.length_append, hla, List.length_drop]; omega)), hg 0 (by omega), hg 1 (by omega), hg 2 (by omega), hg 3 (by omega), zuu, z8i (by omega)]
    have hd := zst Z 0 t (by omega)
    have hset := zrg ((List.range t).map (zkv fun j => b.getD j 0)) (Z.drop (t + 1)) (zkv (fun j => b.getD j 0) t) (Z.getD t 0)
    rw [hla, <- hd] at hset
    have hset2 : List.set ((List.range t).map (zkv fun j => b.getD j 0) ++ Z.drop t) t (((((((b.getD (4 * t + 0) 0).toNat * 256 + (b.getD (4 * t + 1) 0).toNat) * 256 + (b.getD (4 * t + 2) 0).toNat) * 256 + (b.getD (4 * t + 3) 0).toNat) : Nat) : Int)) = (List.range (t + 1)).map (zkv fun j => b.getD j 0) ++ Z.drop (t + 1) := by
      rw [zkc, List.append_assoc]; exact hset
    rw [hset2]
    exact hr _ ⟨t + 1, rfl, by omega⟩ (by dsimp only; omega)
  . rw [zaa (zol (by omega)), show t = 16 by omega]

theorem zv8 (N : Nat) {h : List Int} {s : List UInt8} {a : Nat} (hh : h.length = 8) (ha : a + 64 <= s.length) (hs : s.length <= 100000) (hN : 64 < N) :
    z2j N h s (a : Int) glob0 = z2e N h ((s.drop a).take 64) := by
  have hb : ((s.drop a).take 64).length = 64 := by rw [List.length_take, List.length_drop]; omega
  have hg : ∀ j, j < 64 -> ((s.drop a).take 64).getD j 0 = s.getD (a + j) 0 := by
    intro j hj
    rw [List.getD_eq_getElem?_getD, List.getElem?_take_of_lt hj, List.getElem?_drop, <- List.getD_eq_getElem?_getD]
  have hW : (List.range 16).map (zkv fun j => s.getD (a + j) 0) = (List.range 16).map (zkv fun j => ((s.drop a).take 64).getD j 0) := by
    apply List.map_congr_left
    intro t ht
    rw [List.mem_range] at ht
    simp only [zkv, zw4]
    rw [hg (4 * t) (by omega), hg (4 * t + 1) (by omega), hg (4 * t + 2) (by omega), hg (4 * t + 3) (by omega)]
  have hl16 : ((List.range 16).map (zkv fun j => ((s.drop a).take 64).getD j 0)).length = 16 := by rw [List.length_map, List.length_range]
  have hl64 : (ztb 48 ((List.range 16).map (zkv fun j => ((s.drop a).take 64).getD j 0))).length = 64 := by rw [zj5, hl16]
  simp only [z2j, z2e, z7s]
  rw [zvf N ha hs (by omega), zqb N (by rw [List.length_map, List.length_range]) hN, hW, zmu N hh hl64 zn9 hN]
  rw [zaa (by rw [hb]; rfl), zvc N hb (by rfl) (by omega), zvq N hl16 (by rfl) hN, Option.bind_some, zrj N hh hl64 hN]
  exact zwx N h _ _ _ _

def be4 (x : Int) : List UInt8 := toStr [IntKind.wrap .u8 (shrI .u64 (IntKind.wrap .u64 x) 24), IntKind.wrap .u8 (shrI .u64 (IntKind.wrap .u64 x) 16), IntKind.wrap .u8 (shrI .u64 (IntKind.wrap .u64 x) 8), IntKind.wrap .u8 (shrI .u64 (IntKind.wrap .u64 x) 0)]
def r4 (x : Int) : List Int := [IntKind.wrap .u8 (shrI .u32 x 24), IntKind.wrap .u8 (shrI .u32 x 16), IntKind.wrap .u8 (shrI .u32 x 8), IntKind.wrap .u8 x]

theorem zx0 (x : Int) : be4 x = toStr (r4 x) := by
  have a24 : shrI .u64 (IntKind.wrap .u64 x) 24 = (x % 18446744073709551616) / 16777216 := by
    show (x % 18446744073709551616).fdiv 16777216 = _; rw [Int.fdiv_eq_ediv_of_nonneg _ (by omega)]
  have a16 : shrI .u64 (IntKind.wrap .u64 x) 16 = (x % 18446744073709551616) / 65536 := by
    show (x % 18446744073709551616).fdiv 65536 = _; rw [Int.fdiv_eq_ediv_of_nonneg _ (by omega)]
  have a8 : shrI .u64 (IntKind.wrap .u64 x) 8 = (x % 18446744073709551616) / 256 := by
    show (x % 18446744073709551616).fdiv 256 = _; rw [Int.fdiv_eq_ediv_of_nonneg _ (by omega)]
  have a0 : shrI .u64 (IntKind.wrap .u64 x) 0 = (x % 18446744073709551616) / 1 := by
    show (x % 18446744073709551616).fdiv 1 = _; rw [Int.fdiv_eq_ediv_of_nonneg _ (by omega)]
  have b24 : shrI .u32 x 24 = x / 16777216 := by show x.fdiv 16777216 = _; rw [Int.fdiv_eq_ediv_of_nonneg _ (by omega)]
  have b16 : shrI .u32 x 16 = x / 65536 := by show x.fdiv 65536 = _; rw [Int.fdiv_eq_ediv_of_nonneg _ (by omega)]
  have b8 : shrI .u32 x 8 = x / 256 := by show x.fdiv 256 = _; rw [Int.fdiv_eq_ediv_of_nonneg _ (by omega)]
  unfold be4 r4
  rw [a24, a16, a8, a0, b24, b16, b8, zal, zal, zal, zal, zal, zal, zal, zal]
  rw [show x % 18446744073709551616 / 16777216 % 256 = x / 16777216 % 256 by omega, show x % 18446744073709551616 / 65536 % 256 = x / 65536 % 256 by omega, show x % 18446744073709551616 / 256 % 256 = x / 256 % 256 by omega, show x % 18446744073709551616 / 1 % 256 = x % 256 by omega]

set_option maxRecDepth 100000 in
theorem tellA (k : Nat) (g : Nat -> Int) : z2r (k + 100) ((List.range 8).map g) = some (((((((([] ++ be4 (g 0)) ++ be4 (g 1)) ++ be4 (g 2)) ++ be4 (g 3)) ++ be4 (g 4)) ++ be4 (g 5)) ++ be4 (g 6)) ++ be4 (g 7)) := by kernel_rfl
set_option maxRecDepth 100000 in
theorem tellB (k : Nat) (g : Nat -> Int) : z1q (k + 100) ((List.range 8).map g) = some (toStr (((((((([] ++ r4 (g 0)) ++ r4 (g 1)) ++ r4 (g 2)) ++ r4 (g 3)) ++ r4 (g 4)) ++ r4 (g 5)) ++ r4 (g 6)) ++ r4 (g 7))) := by kernel_rfl

theorem zq9 (k : Nat) {h : List Int} (hh : h.length = 8) : z1q (k + 100) h = z2r (k + 100) h := by
  rw [zpx h 0 hh, tellA, tellB]
  simp only [zlt, zx0]; rfl


end
end Go.Proofs.YtoamomodbkobfaaDoorLg

set_option linter.all false
set_option maxRecDepth 100000
namespace Go.Proofs.YtoamomodbkobfaaDoorLg
noncomputable section
open Go Go.Lift Go.Proofs.YtoamomodbkobfaaDoorPx

set_option maxHeartbeats 40000000 in
theorem zwl : [(2 : Int), (3 : Int), (5 : Int), (7 : Int), (11 : Int), (13 : Int), (17 : Int), (19 : Int)].map (z6 1000) = [some (1116352408 : Int), some (1899447441 : Int), some (3049323471 : Int), some (3921009573 : Int), some (961987163 : Int), some (1508970993 : Int), some (2453635748 : Int), some (2870763221 : Int)] := by kernel_rfl

set_option maxHeartbeats 40000000 in
theorem zwk : [(23 : Int), (29 : Int), (31 : Int), (37 : Int), (41 : Int), (43 : Int), (47 : Int), (53 : Int)].map (z6 1000) = [some (3624381080 : Int), some (310598401 : Int), some (607225278 : Int), some (1426881987 : Int), some (1925078388 : Int), some (2162078206 : Int), some (2614888103 : Int), some (3248222580 : Int)] := by kernel_rfl

set_option maxHeartbeats 40000000 in
theorem zwj : [(59 : Int), (61 : Int), (67 : Int), (71 : Int), (73 : Int), (79 : Int), (83 : Int), (89 : Int)].map (z6 1000) = [some (3835390401 : Int), some (4022224774 : Int), some (264347078 : Int), some (604807628 : Int), some (770255983 : Int), some (1249150122 : Int), some (1555081692 : Int), some (1996064986 : Int)] := by kernel_rfl

set_option maxHeartbeats 40000000 in
theorem zwi : [(97 : Int), (101 : Int), (103 : Int), (107 : Int), (109 : Int), (113 : Int), (127 : Int), (131 : Int)].map (z6 1000) = [some (2554220882 : Int), some (2821834349 : Int), some (2952996808 : Int), some (3210313671 : Int), some (3336571891 : Int), some (3584528711 : Int), some (113926993 : Int), some (338241895 : Int)] := by kernel_rfl

set_option maxHeartbeats 40000000 in
theorem zwh : [(137 : Int), (139 : Int), (149 : Int), (151 : Int), (157 : Int), (163 : Int), (167 : Int), (173 : Int)].map (z6 1000) = [some (666307205 : Int), some (773529912 : Int), some (1294757372 : Int), some (1396182291 : Int), some (1695183700 : Int), some (1986661051 : Int), some (2177026350 : Int), some (2456956037 : Int)] := by kernel_rfl

set_option maxHeartbeats 40000000 in
theorem zwg : [(179 : Int), (181 : Int), (191 : Int), (193 : Int), (197 : Int), (199 : Int), (211 : Int), (223 : Int)].map (z6 1000) = [some (2730485921 : Int), some (2820302411 : Int), some (3259730800 : Int), some (3345764771 : Int), some (3516065817 : Int), some (3600352804 : Int), some (4094571909 : Int), some (275423344 : Int)] := by kernel_rfl

set_option maxHeartbeats 40000000 in
theorem zwf : [(227 : Int), (229 : Int), (233 : Int), (239 : Int), (241 : Int), (251 : Int), (257 : Int), (263 : Int)].map (z6 1000) = [some (430227734 : Int), some (506948616 : Int), some (659060556 : Int), some (883997877 : Int), some (958139571 : Int), some (1322822218 : Int), some (1537002063 : Int), some (1747873779 : Int)] := by kernel_rfl

set_option maxHeartbeats 40000000 in
theorem zwe : [(269 : Int), (271 : Int), (277 : Int), (281 : Int), (283 : Int), (293 : Int), (307 : Int), (311 : Int)].map (z6 1000) = [some (1955562222 : Int), some (2024104815 : Int), some (2227730452 : Int), some (2361852424 : Int), some (2428436474 : Int), some (2756734187 : Int), some (3204031479 : Int), some (3329325298 : Int)] := by kernel_rfl

end
end Go.Proofs.YtoamomodbkobfaaDoorLg

set_option linter.all false
set_option maxRecDepth 100000
namespace Go.Proofs.YtoamomodbkobfaaDoorLg
noncomputable section
open Go Go.Lift Go.Proofs.YtoamomodbkobfaaDoorPx

def ptab : List (Nat × Int) := [(2, 1116352408), (3, 1899447441), (5, 3049323471), (7, 3921009573), (11, 961987163), (13, 1508970993), (17, 2453635748), (19, 2870763221), (23, 3624381080), (29, 310598401), (31, 607225278), (37, 1426881987), (41, 1925078388), (43, 2162078206), (47, 2614888103), (53, 3248222580), (59, 3835390401), (61, 4022224774), (67, 264347078), (71, 604807628), (73, 770255983), (79, 1249150122), (83, 1555081692), (89, 1996064986), (97, 2554220882), (101, 2821834349), (103, 2952996808), (107, 3210313671), (109, 3336571891), (113, 3584528711), (127, 113926993), (131, 338241895), (137, 666307205), (139, 773529912), (149, 1294757372), (151, 1396182291), (157, 1695183700), (163, 1986661051), (167, 2177026350), (173, 2456956037), (179, 2730485921), (181, 2820302411), (191, 3259730800), (193, 3345764771), (197, 3516065817), (199, 3600352804), (211, 4094571909), (223, 275423344), (227, 430227734), (229, 506948616), (233, 659060556), (239, 883997877), (241, 958139571), (251, 1322822218), (257, 1537002063), (263, 1747873779), (269, 1955562222), (271, 2024104815), (277, 2227730452), (281, 2361852424), (283, 2428436474), (293, 2756734187), (307, 3204031479), (311, 3329325298)]
def upto (p : Nat) : List Int := (ptab.filter (fun x => decide (x.1 < p))).map (·.2)
def isP (p : Nat) : Bool := decide (∀ e, e < p -> 2 <= e -> p % e ≠ 0)
def okP (p : Nat) : Bool := decide ((upto p).length < 64) && (if isP p then (match ptab.find? (fun x => x.1 == p) with | some x => upto (p + 1) == upto p ++ [x.2] | none => false) else upto (p + 1) == upto p)

theorem zvj : (List.range 310).all (fun i => okP (i + 2)) = true := by kernel_rfl
theorem zoz : upto 312 = ptab.map (·.2) := by kernel_rfl
theorem upto_none : upto 2 = [] := by kernel_rfl

theorem zf1 {f : Int -> Option Int} : ∀ {ps : List Nat} {cs : List Int}, ps.map (fun p => f ((p : Nat) : Int)) = cs.map some -> ∀ x ∈ ps.zip cs, f ((x.1 : Nat) : Int) = some x.2
  | [], _, _, x, hx => by simp at hx
  | p :: ps, [], _, x, hx => by simp at hx
  | p :: ps, c :: cs, h, x, hx => by
    simp only [List.map_cons, List.cons.injEq] at h
    simp only [List.zip_cons_cons, List.mem_cons] at hx
    rcases hx with rfl | hx
    . exact h.1
    . exact zf1 h.2 x hx

section
attribute [local irreducible] z6
theorem rts0 : ∀ x ∈ [(2 : Nat), (3 : Nat), (5 : Nat), (7 : Nat), (11 : Nat), (13 : Nat), (17 : Nat), (19 : Nat)].zip [(1116352408 : Int), (1899447441 : Int), (3049323471 : Int), (3921009573 : Int), (961987163 : Int), (1508970993 : Int), (2453635748 : Int), (2870763221 : Int)], z6 1000 ((x.1 : Nat) : Int) = some x.2 := zf1 (f := z6 1000) zwl
theorem rts1 : ∀ x ∈ [(23 : Nat), (29 : Nat), (31 : Nat), (37 : Nat), (41 : Nat), (43 : Nat), (47 : Nat), (53 : Nat)].zip [(3624381080 : Int), (310598401 : Int), (607225278 : Int), (1426881987 : Int), (1925078388 : Int), (2162078206 : Int), (2614888103 : Int), (3248222580 : Int)], z6 1000 ((x.1 : Nat) : Int) = some x.2 := zf1 (f := z6 1000) zwk
theorem rts2 : ∀ x ∈ [(59 : Nat), (61 : Nat), (67 : Nat), (71 : Nat), (73 : Nat), (79 : Nat), (83 : Nat), (89 : Nat)].zip [(3835390401 : Int), (4022224774 : Int), (264347078 : Int), (604807628 : Int), (770255983 : Int), (1249150122 : Int), (1555081692 : Int), (1996064986 : Int)], z6 1000 ((x.1 : Nat) : Int) = some x.2 := zf1 (f := z6 1000) zwj
theorem rts3 : ∀ x ∈ [(97 : Nat), (101 : Nat), (103 : Nat), (107 : Nat), (109 : Nat), (113 : Nat), (127 : Nat), (131 : Nat)].zip [(2554220882 : Int), (2821834349 : Int), (2952996808 : Int), (3210313671 : Int), (3336571891 : Int), (3584528711 : Int), (113926993 : Int), (338241895 : Int)], z6 1000 ((x.1 : Nat) : Int) = some x.2 := zf1 (f := z6 1000) zwi
theorem rts4 : ∀ x ∈ [(137 : Nat), (139 : Nat), (149 : Nat), (151 : Nat), (157 : Nat), (163 : Nat), (167 : Nat), (173 : Nat)].zip [(666307205 : Int), (773529912 : Int), (1294757372 : Int), (1396182291 : Int), (1695183700 : Int), (1986661051 : Int), (2177026350 : Int), (2456956037 : Int)], z6 1000 ((x.1 : Nat) : Int) = some x.2 := zf1 (f := z6 1000) zwh
theorem rts5 : ∀ x ∈ [(179 : Nat), (181 : Nat), (191 : Nat), (193 : Nat), (197 : Nat), (199 : Nat), (211 : Nat), (223 : Nat)].zip [(2730485921 : Int), (2820302411 : Int), (3259730800 : Int), (3345764771 : Int), (3516065817 : Int), (3600352804 : Int), (4094571909 : Int), (275423344 : Int)], z6 1000 ((x.1 : Nat) : Int) = some x.2 := zf1 (f := z6 1000) zwg
theorem rts6 : ∀ x ∈ [(227 : Nat), (229 : Nat), (233 : Nat), (239 : Nat), (241 : Nat), (251 : Nat), (257 : Nat), (263 : Nat)].zip [(430227734 : Int), (506948616 : Int), (659060556 : Int), (883997877 : Int), (958139571 : Int), (1322822218 : Int), (1537002063 : Int), (1747873779 : Int)], z6 1000 ((x.1 : Nat) : Int) = some x.2 := zf1 (f := z6 1000) zwf
theorem rts7 : ∀ x ∈ [(269 : Nat), (271 : Nat), (277 : Nat), (281 : Nat), (283 : Nat), (293 : Nat), (307 : Nat), (311 : Nat)].zip [(1955562222 : Int), (2024104815 : Int), (2227730452 : Int), (2361852424 : Int), (2428436474 : Int), (2756734187 : Int), (3204031479 : Int), (3329325298 : Int)], z6 1000 ((x.1 : Nat) : Int) = some x.2 := zf1 (f := z6 1000) zwe
end

theorem zqe : ptab = [(2 : Nat), (3 : Nat), (5 : Nat), (7 : Nat), (11 : Nat), (13 : Nat), (17 : Nat), (19 : Nat)].zip [(1116352408 : Int), (1899447441 : Int), (3049323471 : Int), (3921009573 : Int), (961987163 : Int), (1508970993 : Int), (2453635748 : Int), (2870763221 : Int)] ++ [(23 : Nat), (29 : Nat), (31 : Nat), (37 : Nat), (41 : Nat), (43 : Nat), (47 : Nat), (53 : Nat)].zip [(3624381080 : Int), (310598401 : Int), (607225278 : Int), (1426881987 : Int), (1925078388 : Int), (2162078206 : Int), (2614888103 : Int), (3248222580 : Int)] ++ [(59 : Nat), (61 : Nat), (67 : Nat), (71 : Nat), (73 : Nat), (79 : Nat), (83 : Nat), (89 : Nat)].zip [(3835390401 : Int), (4022224774 : Int), (264347078 : Int), (604807628 : Int), (770255983 : Int), (1249150122 : Int), (1555081692 : Int), (1996064986 : Int)] ++ [(97 : Nat), (101 : Nat), (103 : Nat), (107 : Nat), (109 : Nat), (113 : Nat), (127 : Nat), (131 : Nat)].zip [(2554220882 : Int), (2821834349 : Int), (2952996808 : Int), (3210313671 : Int), (3336571891 : Int), (3584528711 : Int), (113926993 : Int), (338241895 : Int)] ++ [(137 : Nat), (139 : Nat), (149 : Nat), (151 : Nat), (157 : Nat), (163 : Nat), (167 : Nat), (173 : Nat)].zip [(666307205 : Int), (773529912 : Int), (1294757372 : Int), (1396182291 : Int), (1695183700 : Int), (1986661051 : Int), (2177026350 : Int), (2456956037 : Int)] ++ [(179 : Nat), (181 : Nat), (191 : Nat), (193 : Nat), (197 : Nat), (199 : Nat), (211 : Nat), (223 : Nat)].zip [(2730485921 : Int), (2820302411 : Int), (3259730800 : Int), (3345764771 : Int), (3516065817 : Int), (3600352804 : Int), (4094571909 : Int), (275423344 : Int)] ++ [(227 : Nat), (229 : Nat), (233 : Nat), (239 : Nat), (241 : Nat), (251 : Nat), (257 : Nat), (263 : Nat)].zip [(430227734 : Int), (506948616 : Int), (659060556 : Int), (883997877 : Int), (958139571 : Int), (1322822218 : Int), (1537002063 : Int), (1747873779 : Int)] ++ [(269 : Nat), (271 : Nat), (277 : Nat), (281 : Nat), (283 : Nat), (293 : Nat), (307 : Nat), (311 : Nat)].zip [(1955562222 : Int), (2024104815 : Int), (2227730452 : Int), (2361852424 : Int), (2428436474 : Int), (2756734187 : Int), (3204031479 : Int), (3329325298 : Int)] := by kernel_rfl

theorem zve {x : Nat × Int} (hx : x ∈ ptab) : z6 1000 ((x.1 : Nat) : Int) = some x.2 := by
  rw [zqe] at hx
  simp only [List.mem_append] at hx
  rcases hx with (((((((h | h) | h) | h) | h) | h) | h) | h)
  . exact rts0 x h
  . exact rts1 x h
  . exact rts2 x h
  . exact rts3 x h
  . exact rts4 x h
  . exact rts5 x h
  . exact rts6 x h
  . exact rts7 x h

theorem p4_eq {N : Nat} {out : List Int} {k0 : Bool -> Option (List Int)} {p : Nat} (hp : p < 400) (h2 : 2 <= p) (hN : 400 < N) : z25 N out (p : Int) true 2 k0 = k0 (isP p) := by
  unfold z25
  have key := z9q (σ := Bool × Int) (step := fun v r => z1n N out (p : Int) v.1 v.2 (fun prime d => (r (prime, d))) k0)
    (fun v => ∃ d : Nat, v.2 = (d : Int) /\ 2 <= d /\ d <= p) (fun v => p - v.2.toNat)
    (fun v => k0 (v.1 && decide (∀ e, e < p -> v.2.toNat <= e -> p % e ≠ 0))) ?_ N (true, 2) ⟨2, rfl, by omega, h2⟩ (by simp only; omega)
  . rw [key]; rfl
  . rintro ⟨b, d0⟩ r ⟨d, e, h1, h3⟩ hr
    simp only at e
    subst e
    simp only [z1n, Int.toNat_natCast]
    by_cases hd : d < p
    . rw [zp (decide_eq_true (by omega)), z67 (by unfold I64; omega)]
      have e1 : ∀ b' : Bool, r (b', ((d : Nat) : Int) + 1) = k0 (b' && decide (∀ e, e < p -> d + 1 <= e -> p % e ≠ 0)) := by
        intro b'
        have := hr (b', ((d + 1 : Nat) : Int)) ⟨d + 1, rfl, by omega, by omega⟩ (by simp only [Int.toNat_natCast]; omega)
        simp only [Int.toNat_natCast] at this
        rw [<- this]; rfl
      cases b with
      | false => simp only [z1p, cond_false, e1, Bool.false_and]
      | true =>
        simp only [z1p, cond_true]
        rw [zaa (by rw [beq_eq_false_iff_ne]; omega), e1]
        congr 1
        rw [<- Int.ofNat_tmod, Bool.true_and, Bool.eq_iff_iff]
        simp only [Bool.and_eq_true, bne_iff_ne, ne_eq, decide_eq_true_eq]
        constructor
        . rintro ⟨g1, g2⟩ e he1 he2
          by_cases h : e = d
          . subst h; intro hh; exact g1 (by rw [hh]; rfl)
          . exact g2 e he1 (by omega)
        . intro g
          refine ⟨fun h => g d hd (by omega) (by omega), fun e he1 he2 => g e he1 (by omega)⟩
    . rw [zaa (decide_eq_false (by omega))]
      congr 1
      rw [show decide (∀ e, e < p -> d <= e -> p % e ≠ 0) = true from decide_eq_true (by intro e h4 h5; omega), Bool.and_true]

theorem zqx : z17 1000 = some (ptab.map (·.2)) := by
  unfold z17 z40
  have key := z9q (σ := List Int × Int) (step := fun v r => z1o 1000 v.1 v.2 (fun out p => (r (out, p))) (fun out => some out))
    (fun v => ∃ p : Nat, v.2 = (p : Int) /\ 2 <= p /\ p <= 312 /\ v.1 = upto p) (fun v => 400 - v.2.toNat)
    (fun _ => some (ptab.map (·.2))) ?_ 1000 ([], 2) ⟨2, rfl, by omega, by omega, upto_none.symm⟩ (by simp only; omega)
  . exact key
  . rintro ⟨out, p0⟩ r ⟨p, e, h1, h2, h3⟩ hr
    simp only at e h3
    subst e h3
    simp only [z1o, z27]
    by_cases hp : p = 312
    . subst hp
      rw [zaa (by rw [zoz]; kernel_rfl), zoz]
    . have ok := List.all_eq_true.1 zvj (p - 2) (List.mem_range.2 (by omega))
      simp only [show p - 2 + 2 = p by omega, okP, Bool.and_eq_true, decide_eq_true_eq] at ok
      rw [zp (decide_eq_true (by omega)), zp (decide_eq_true (by omega))]
      simp only [z26]
      rw [p4_eq (by omega) h1 (by omega)]
      have nx := fun out' h => hr (out', ((p + 1 : Nat) : Int)) ⟨p + 1, rfl, by omega, by omega, h⟩ (by simp only [Int.toNat_natCast]; omega)
      have ew : IntKind.wrap .i64 ((p : Int) + 1) = ((p + 1 : Nat) : Int) := by
        rw [z67 (by unfold I64; omega)]; rfl
      cases hq : isP p with
      | false =>
        rw [hq] at ok
        simp only [Bool.false_eq_true, if_false, beq_iff_eq] at ok
        rw [cond_false, ew]
        exact nx _ ok.2.symm
      | true =>
        rw [hq] at ok
        simp only [if_true] at ok
        obtain ⟨hl, ok⟩ := ok
        split at ok
        . next x hx =>
          have hm := List.mem_of_find?_eq_some hx
          have he := List.find?_some hx
          simp only [beq_iff_eq] at he ok
          have hr' := zve hm
          rw [he] at hr'
          rw [cond_true, hr', Option.bind_some, zp (decide_eq_true (by omega)), ew]
          exact nx _ ok.symm
        . exact absurd ok (by simp)

theorem zoo : z17 1000 = some glob0 := by rw [zqx]; kernel_rfl
theorem zr8 : z1r 1000 = some true := by kernel_rfl

end
end Go.Proofs.YtoamomodbkobfaaDoorLg

set_option linter.all false
set_option maxRecDepth 100000
namespace Go.Proofs.YtoamomodbkobfaaDoorLg
noncomputable section
open Go Go.Lift Go.Proofs.YtoamomodbkobfaaDoorPx

theorem zmi (h : List Int) (block : List UInt8) (hh : h.length = 8) (hu : ∀ x ∈ h, 0 <= x /\ x < 4294967296) : z1b 1000 h block = some true := by
  have hw : z1r 1000 = some true := zr8
  simp only [z1b, hw, Option.bind_some]
  by_cases h1 : 200 < block.length
  . rw [zp (z2h (by omega))]
  rw [zaa (zol (by omega))]
  have hT := zq9 900 hh
  have hT2 := zv7 900 hh
  have key : ∀ y, z2e 1000 h block = some y -> z1d 1000 h block = some y -> (z2e 1000 h block).bind (fun y1 =>
    (z1d 1000 h block).bind fun y2 =>
    cond (eqD (T.arr 8 (T.int Go.IntKind.u32)) y1 y2)
    ((z2r 1000 h).bind fun y3 =>
      (z1q 1000 h).bind fun y4 =>
      cond (y3 == y4)
      (some true)
      (some false))
    (some false)) = some true := by
    intro y e1 e2
    rw [e1, e2, Option.bind_some, Option.bind_some, zu2 (t := T.arr 8 (T.int Go.IntKind.u32)) rfl, cond_true, show z1q 1000 h = z2r 1000 h from hT, show z2r 1000 h = _ from hT2, Option.bind_some, Option.bind_some, zp (by simp)]
  by_cases h2 : block.length = 64
  . obtain ⟨s1, s2⟩ := st_eq 900 hh h2
    refine key _ s1 ?_
    simp only [z1d]
    rw [zaa (by rw [h2]; rfl), zoo, Option.bind_some]
    have := zv8 1000 (a := 0) hh (by omega) (by omega) (by omega) (s := block)
    rw [show ((0 : Nat) : Int) = 0 from rfl] at this
    rw [this, List.drop_zero, show block.take 64 = block from List.take_of_length_le (by omega)]
    rw [show z2e 1000 h block = _ from s1]
    rfl
  . have e1 : z2e 1000 h block = some h := by
      rw [z2e, zp (by rw [bne_iff_ne]; omega)]
    have e2 : z1d 1000 h block = some h := by
      rw [z1d, zp (by rw [bne_iff_ne]; omega)]
    exact key h e1 e2

end
end Go.Proofs.YtoamomodbkobfaaDoorLg
