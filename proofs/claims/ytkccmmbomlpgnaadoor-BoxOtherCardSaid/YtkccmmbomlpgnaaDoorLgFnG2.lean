/- The functions of the seat, as plain functions, and what their calls do. Printed by a program of mine; checked here. -/
import Derived.Test.YtkccmmbomlpgnaaDoorLgFnG1
import Derived.WalkKit
import Derived.Tactics
import Derived.Tactics2
import Derived.Defers
import Derived.Lib.Hide
import Derived.Below
set_option linter.all false
set_option maxRecDepth 100000
namespace Go.Proofs.YtkccmmbomlpgnaaDoorLg
open Go Go.Lift

noncomputable def porterref03_step_s2 (N : Nat) (k : (List Int)) (h : (List Int)) (x8 : (List Int)) (w : (List Int)) (t : Int) (rec : (List Int) → Int → Option (List Int)) (k0 : (List Int) → Option (List Int)) : Option (List Int) :=
  cond (decide (t < (64 : Int)))
  (cond (Go.Lift.inR (Go.IntKind.wrap Go.IntKind.i64 (t - (15 : Int))) (List.length w))
    (cond (decide ((Int.toNat (Go.IntKind.wrap Go.IntKind.i64 (t - (15 : Int)))) < (List.length w)))
      (cond (Go.Lift.inR (Go.IntKind.wrap Go.IntKind.i64 (t - (2 : Int))) (List.length w))
        (cond (decide ((Int.toNat (Go.IntKind.wrap Go.IntKind.i64 (t - (2 : Int)))) < (List.length w)))
          (cond (Go.Lift.inR (Go.IntKind.wrap Go.IntKind.i64 (t - (7 : Int))) (List.length w))
            (cond (decide ((Int.toNat (Go.IntKind.wrap Go.IntKind.i64 (t - (7 : Int)))) < (List.length w)))
              (cond (Go.Lift.inR (Go.IntKind.wrap Go.IntKind.i64 (t - (16 : Int))) (List.length w))
                (cond (decide ((Int.toNat (Go.IntKind.wrap Go.IntKind.i64 (t - (16 : Int)))) < (List.length w)))
                  (cond (decide ((((List.length w) + 1) * 4) ≤ 70368744177664))
                    (rec (w ++ ([(Go.IntKind.wrap Go.IntKind.u32 ((Go.IntKind.wrap Go.IntKind.u32 ((Go.IntKind.wrap Go.IntKind.u32 ((Go.Lift.bitsOp Go.BinOp.xor Go.IntKind.u32 (Go.Lift.bitsOp Go.BinOp.xor Go.IntKind.u32 (Go.Lift.bitsOp Go.BinOp.or Go.IntKind.u32 (Go.Lift.shrI Go.IntKind.u32 (List.getD w (Int.toNat (Go.IntKind.wrap Go.IntKind.i64 (t - (2 : Int)))) (0 : Int)) (Go.IntKind.wrap Go.IntKind.u64 (17 : Int))) (Go.Lift.shlI Go.IntKind.u32 (List.getD w (Int.toNat (Go.IntKind.wrap Go.IntKind.i64 (t - (2 : Int)))) (0 : Int)) (Go.IntKind.wrap Go.IntKind.u64 (Go.IntKind.wrap Go.IntKind.i64 ((32 : Int) - (17 : Int)))))) (Go.Lift.bitsOp Go.BinOp.or Go.IntKind.u32 (Go.Lift.shrI Go.IntKind.u32 (List.getD w (Int.toNat (Go.IntKind.wrap Go.IntKind.i64 (t - (2 : Int)))) (0 : Int)) (Go.IntKind.wrap Go.IntKind.u64 (19 : Int))) (Go.Lift.shlI Go.IntKind.u32 (List.getD w (Int.toNat (Go.IntKind.wrap Go.IntKind.i64 (t - (2 : Int)))) (0 : Int)) (Go.IntKind.wrap Go.IntKind.u64 (Go.IntKind.wrap Go.IntKind.i64 ((32 : Int) - (19 : Int))))))) (Go.Lift.shrI Go.IntKind.u32 (List.getD w (Int.toNat (Go.IntKind.wrap Go.IntKind.i64 (t - (2 : Int)))) (0 : Int)) (10 : Int))) + (List.getD w (Int.toNat (Go.IntKind.wrap Go.IntKind.i64 (t - (7 : Int)))) (0 : Int)))) + (Go.Lift.bitsOp Go.BinOp.xor Go.IntKind.u32 (Go.Lift.bitsOp Go.BinOp.xor Go.IntKind.u32 (Go.Lift.bitsOp Go.BinOp.or Go.IntKind.u32 (Go.Lift.shrI Go.IntKind.u32 (List.getD w (Int.toNat (Go.IntKind.wrap Go.IntKind.i64 (t - (15 : Int)))) (0 : Int)) (Go.IntKind.wrap Go.IntKind.u64 (7 : Int))) (Go.Lift.shlI Go.IntKind.u32 (List.getD w (Int.toNat (Go.IntKind.wrap Go.IntKind.i64 (t - (15 : Int)))) (0 : Int)) (Go.IntKind.wrap Go.IntKind.u64 (Go.IntKind.wrap Go.IntKind.i64 ((32 : Int) - (7 : Int)))))) (Go.Lift.bitsOp Go.BinOp.or Go.IntKind.u32 (Go.Lift.shrI Go.IntKind.u32 (List.getD w (Int.toNat (Go.IntKind.wrap Go.IntKind.i64 (t - (15 : Int)))) (0 : Int)) (Go.IntKind.wrap Go.IntKind.u64 (18 : Int))) (Go.Lift.shlI Go.IntKind.u32 (List.getD w (Int.toNat (Go.IntKind.wrap Go.IntKind.i64 (t - (15 : Int)))) (0 : Int)) (Go.IntKind.wrap Go.IntKind.u64 (Go.IntKind.wrap Go.IntKind.i64 ((32 : Int) - (18 : Int))))))) (Go.Lift.shrI Go.IntKind.u32 (List.getD w (Int.toNat (Go.IntKind.wrap Go.IntKind.i64 (t - (15 : Int)))) (0 : Int)) (3 : Int))))) + (List.getD w (Int.toNat (Go.IntKind.wrap Go.IntKind.i64 (t - (16 : Int)))) (0 : Int))))] : List Int)) (Go.IntKind.wrap Go.IntKind.i64 (t + (1 : Int))))
                    (none))
                  (none))
                (none))
              (none))
            (none))
          (none))
        (none))
      (none))
    (none))
  (k0 w)

noncomputable def porterref03_step_p2 (N : Nat) (k : (List Int)) (h : (List Int)) (x8 : (List Int)) (w : (List Int)) (t : Int) (k0 : (List Int) → Option (List Int)) : Option (List Int) :=
  iter (fun (v : ((List Int) × Int)) r => porterref03_step_s2 N k h x8 v.1 v.2 (fun w t => (r (w, t))) k0) N (w, t)

noncomputable def porterref03_step_g2 (N : Nat) (i : ((List Int) × (List Int) × (List Int))) (v : ((List Int) × Int)) (r : ((List Int) × Int) → Option (List Int)) (K : Ex → List A → Option (List Int)) : Option (List Int) :=
  porterref03_step_s2 N i.1 i.2.1 i.2.2 v.1 v.2 (fun w t => (r (w, t))) (fun a3 => (K (.exit 2) (mkS [(3, .v (.sl (.int .u32))), (0, .box (.arr 8 (.int .u32))), (3, .box (.arr 8 (.int .u32))), (0, .row (.int .u32))] 207 (i.1, i.2.1, i.2.2, a3, ()))))

noncomputable def porterref03_step_h2 (N : Nat) : Hd (List Int) := fun st K => (unS [(3, .v (.sl (.int .u32))), (0, .box (.arr 8 (.int .u32))), (3, .box (.arr 8 (.int .u32))), (0, .row (.int .u32)), (2, .v (.int .i64))] 204 (restr [12, 9, 4, 3, 8] 0 st)).bind fun x => iter (fun v r => porterref03_step_g2 N ((fun x => (x.1, x.2.1, x.2.2.1)) x) v r K) N ((fun x => (x.2.2.2.1, x.2.2.2.2.1)) x)

noncomputable def porterref03_step_t2 (N : Nat) : Tab (List Int) := []

theorem porterref03_step_ok2 {N : Nat} {c : Ctx} (hb : Base Go.Proofs.Tryd.prog (porterref03_step_E N) c) : CodeOk Go.Proofs.Tryd.prog c (nodeAt porterref03_step_body [0, 1, 0, 1, 1, 1]) (porterref03_step_h2 N) :=
  loop_ok (s := [(3, .v (.sl (.int .u32))), (0, .box (.arr 8 (.int .u32))), (3, .box (.arr 8 (.int .u32))), (0, .row (.int .u32)), (2, .v (.int .i64))]) (m := 204) (porterref03_step_g2 N) [12, 9, 4, 3, 8] N (fun x => (x.1, x.2.1, x.2.2.1)) (fun x => (x.2.2.2.1, x.2.2.2.2.1)) (fun i v => (i.1, i.2.1, i.2.2, v.1, v.2, ())) (fun _ => rfl) (evN_sound hb N (porterref03_step_t2 N) porterref03_step_L porterref03_step_body TabOk.nil [0, 0, 1, 0, 1, 1, 1] _ rfl) (fun i v r K => by kernel_rfl)

noncomputable def porterref03_step_s3 (N : Nat) (k : (List Int)) (h : (List Int)) (x8 : (List Int)) (w : (List Int)) (v : (List Int)) (t : Int) (rec : (List Int) → Int → Option (List Int)) (k0 : (List Int) → Option (List Int)) : Option (List Int) :=
  cond (decide (t < (64 : Int)))
  (cond (decide (4 < (List.length v)))
    (cond (decide (4 < (List.length v)))
      (cond (decide (4 < (List.length v)))
        (cond (decide (4 < (List.length v)))
          (cond (decide (5 < (List.length v)))
            (cond (decide (4 < (List.length v)))
              (cond (decide (6 < (List.length v)))
                (cond (decide (7 < (List.length v)))
                  (cond (Go.Lift.inR t (List.length k))
                    (cond (Go.Lift.inR t (List.length w))
                      (cond (decide ((Int.toNat t) < (List.length w)))
                        (cond (decide (0 < (List.length v)))
                          (cond (decide (0 < (List.length v)))
                            (cond (decide (0 < (List.length v)))
                              (cond (decide (0 < (List.length v)))
                                (cond (decide (1 < (List.length v)))
                                  (cond (decide (0 < (List.length v)))
                                    (cond (decide (2 < (List.length v)))
                                      (cond (decide (1 < (List.length v)))
                                        (cond (decide (2 < (List.length v)))
                                          (cond (decide (0 < (List.length v)))
                                            (cond (decide (1 < (List.length v)))
                                              (cond (decide (2 < (List.length v)))
                                                (cond (decide (3 < (List.length v)))
                                                  (cond (decide (4 < (List.length v)))
                                                    (cond (decide (5 < (List.length v)))
                                                      (cond (decide (6 < (List.length v)))
                                                        (rec ([(Go.IntKind.wrap Go.IntKind.u32 ((Go.IntKind.wrap Go.IntKind.u32 ((Go.IntKind.wrap Go.IntKind.u32 ((Go.IntKind.wrap Go.IntKind.u32 ((Go.IntKind.wrap Go.IntKind.u32 ((Go.IntKind.wrap Go.IntKind.u32 ((List.getD v 7 (0 : Int)) + (Go.Lift.bitsOp Go.BinOp.xor Go.IntKind.u32 (Go.Lift.bitsOp Go.BinOp.xor Go.IntKind.u32 (Go.Lift.bitsOp Go.BinOp.or Go.IntKind.u32 (Go.Lift.shrI Go.IntKind.u32 (List.getD v 4 (0 : Int)) (Go.IntKind.wrap Go.IntKind.u64 (6 : Int))) (Go.Lift.shlI Go.IntKind.u32 (List.getD v 4 (0 : Int)) (Go.IntKind.wrap Go.IntKind.u64 (Go.IntKind.wrap Go.IntKind.i64 ((32 : Int) - (6 : Int)))))) (Go.Lift.bitsOp Go.BinOp.or Go.IntKind.u32 (Go.Lift.shrI Go.IntKind.u32 (List.getD v 4 (0 : Int)) (Go.IntKind.wrap Go.IntKind.u64 (11 : Int))) (Go.Lift.shlI Go.IntKind.u32 (List.getD v 4 (0 : Int)) (Go.IntKind.wrap Go.IntKind.u64 (Go.IntKind.wrap Go.IntKind.i64 ((32 : Int) - (11 : Int))))))) (Go.Lift.bitsOp Go.BinOp.or Go.IntKind.u32 (Go.Lift.shrI Go.IntKind.u32 (List.getD v 4 (0 : Int)) (Go.IntKind.wrap Go.IntKind.u64 (25 : Int))) (Go.Lift.shlI Go.IntKind.u32 (List.getD v 4 (0 : Int)) (Go.IntKind.wrap Go.IntKind.u64 (Go.IntKind.wrap Go.IntKind.i64 ((32 : Int) - (25 : Int))))))))) + (Go.Lift.bitsOp Go.BinOp.xor Go.IntKind.u32 (Go.Lift.bitsOp Go.BinOp.and Go.IntKind.u32 (List.getD v 4 (0 : Int)) (List.getD v 5 (0 : Int))) (Go.Lift.bitsOp Go.BinOp.and Go.IntKind.u32 (Go.Lift.bitsOp Go.BinOp.xor Go.IntKind.u32 (if ((Go.IntKind.signed Go.IntKind.u32) = true) then (-(1 : Int)) else (Go.IntKind.max Go.IntKind.u32)) (List.getD v 4 (0 : Int))) (List.getD v 6 (0 : Int)))))) + (List.getD k (Int.toNat t) (0 : Int)))) + (List.getD w (Int.toNat t) (0 : Int)))) + (Go.Lift.bitsOp Go.BinOp.xor Go.IntKind.u32 (Go.Lift.bitsOp Go.BinOp.xor Go.IntKind.u32 (Go.Lift.bitsOp Go.BinOp.or Go.IntKind.u32 (Go.Lift.shrI Go.IntKind.u32 (List.getD v 0 (0 : Int)) (Go.IntKind.wrap Go.IntKind.u64 (2 : Int))) (Go.Lift.shlI Go.IntKind.u32 (List.getD v 0 (0 : Int)) (Go.IntKind.wrap Go.IntKind.u64 (Go.IntKind.wrap Go.IntKind.i64 ((32 : Int) - (2 : Int)))))) (Go.Lift.bitsOp Go.BinOp.or Go.IntKind.u32 (Go.Lift.shrI Go.IntKind.u32 (List.getD v 0 (0 : Int)) (Go.IntKind.wrap Go.IntKind.u64 (13 : Int))) (Go.Lift.shlI Go.IntKind.u32 (List.getD v 0 (0 : Int)) (Go.IntKind.wrap Go.IntKind.u64 (Go.IntKind.wrap Go.IntKind.i64 ((32 : Int) - (13 : Int))))))) (Go.Lift.bitsOp Go.BinOp.or Go.IntKind.u32 (Go.Lift.shrI Go.IntKind.u32 (List.getD v 0 (0 : Int)) (Go.IntKind.wrap Go.IntKind.u64 (22 : Int))) (Go.Lift.shlI Go.IntKind.u32 (List.getD v 0 (0 : Int)) (Go.IntKind.wrap Go.IntKind.u64 (Go.IntKind.wrap Go.IntKind.i64 ((32 : Int) - (22 : Int))))))))) + (Go.Lift.bitsOp Go.BinOp.xor Go.IntKind.u32 (Go.Lift.bitsOp Go.BinOp.xor Go.IntKind.u32 (Go.Lift.bitsOp Go.BinOp.and Go.IntKind.u32 (List.getD v 0 (0 : Int)) (List.getD v 1 (0 : Int))) (Go.Lift.bitsOp Go.BinOp.and Go.IntKind.u32 (List.getD v 0 (0 : Int)) (List.getD v 2 (0 : Int)))) (Go.Lift.bitsOp Go.BinOp.and Go.IntKind.u32 (List.getD v 1 (0 : Int)) (List.getD v 2 (0 : Int)))))), (List.getD v 0 (0 : Int)), (List.getD v 1 (0 : Int)), (List.getD v 2 (0 : Int)), (Go.IntKind.wrap Go.IntKind.u32 ((List.getD v 3 (0 : Int)) + (Go.IntKind.wrap Go.IntKind.u32 ((Go.IntKind.wrap Go.IntKind.u32 ((Go.IntKind.wrap Go.IntKind.u32 ((Go.IntKind.wrap Go.IntKind.u32 ((List.getD v 7 (0 : Int)) + (Go.Lift.bitsOp Go.BinOp.xor Go.IntKind.u32 (Go.Lift.bitsOp Go.BinOp.xor Go.IntKind.u32 (Go.Lift.bitsOp Go.BinOp.or Go.IntKind.u32 (Go.Lift.shrI Go.IntKind.u32 (List.getD v 4 (0 : Int)) (Go.IntKind.wrap Go.IntKind.u64 (6 : Int))) (Go.Lift.shlI Go.IntKind.u32 (List.getD v 4 (0 : Int)) (Go.IntKind.wrap Go.IntKind.u64 (Go.IntKind.wrap Go.IntKind.i64 ((32 : Int) - (6 : Int)))))) (Go.Lift.bitsOp Go.BinOp.or Go.IntKind.u32 (Go.Lift.shrI Go.IntKind.u32 (List.getD v 4 (0 : Int)) (Go.IntKind.wrap Go.IntKind.u64 (11 : Int))) (Go.Lift.shlI Go.IntKind.u32 (List.getD v 4 (0 : Int)) (Go.IntKind.wrap Go.IntKind.u64 (Go.IntKind.wrap Go.IntKind.i64 ((32 : Int) - (11 : Int))))))) (Go.Lift.bitsOp Go.BinOp.or Go.IntKind.u32 (Go.Lift.shrI Go.IntKind.u32 (List.getD v 4 (0 : Int)) (Go.IntKind.wrap Go.IntKind.u64 (25 : Int))) (Go.Lift.shlI Go.IntKind.u32 (List.getD v 4 (0 : Int)) (Go.IntKind.wrap Go.IntKind.u64 (Go.IntKind.wrap Go.IntKind.i64 ((32 : Int) - (25 : Int))))))))) + (Go.Lift.bitsOp Go.BinOp.xor Go.IntKind.u32 (Go.Lift.bitsOp Go.BinOp.and Go.IntKind.u32 (List.getD v 4 (0 : Int)) (List.getD v 5 (0 : Int))) (Go.Lift.bitsOp Go.BinOp.and Go.IntKind.u32 (Go.Lift.bitsOp Go.BinOp.xor Go.IntKind.u32 (if ((Go.IntKind.signed Go.IntKind.u32) = true) then (-(1 : Int)) else (Go.IntKind.max Go.IntKind.u32)) (List.getD v 4 (0 : Int))) (List.getD v 6 (0 : Int)))))) + (List.getD k (Int.toNat t) (0 : Int)))) + (List.getD w (Int.toNat t) (0 : Int)))))), (List.getD v 4 (0 : Int)), (List.getD v 5 (0 : Int)), (List.getD v 6 (0 : Int))] : List Int) (Go.IntKind.wrap Go.IntKind.i64 (t + (1 : Int))))
                                                        (none))
                                                      (none))
                                                    (none))
                                                  (none))
                                                (none))
                                              (none))
                                            (none))
                                          (none))
                                        (none))
                                      (none))
                                    (none))
                                  (none))
                                (none))
                              (none))
                            (none))
                          (none))
                        (none))
                      (none))
                    (none))
                  (none))
                (none))
              (none))
            (none))
          (none))
        (none))
      (none))
    (none))
  (k0 v)

noncomputable def porterref03_step_p3 (N : Nat) (k : (List Int)) (h : (List Int)) (x8 : (List Int)) (w : (List Int)) (v : (List Int)) (t : Int) (k0 : (List Int) → Option (List Int)) : Option (List Int) :=
  iter (fun (v : ((List Int) × Int)) r => porterref03_step_s3 N k h x8 w v.1 v.2 (fun v t => (r (v, t))) k0) N (v, t)

noncomputable def porterref03_step_g3 (N : Nat) (i : ((List Int) × (List Int) × (List Int) × (List Int))) (v : ((List Int) × Int)) (r : ((List Int) × Int) → Option (List Int)) (K : Ex → List A → Option (List Int)) : Option (List Int) :=
  porterref03_step_s3 N i.1 i.2.1 i.2.2.1 i.2.2.2 v.1 v.2 (fun v t => (r (v, t))) (fun a2 => (K (.exit 4) (mkS [(4, .box (.arr 8 (.int .u32))), (3, .box (.arr 8 (.int .u32))), (8, .box (.arr 8 (.int .u32)))] 199 (i.2.1, i.2.2.1, a2, ()))))

noncomputable def porterref03_step_h3 (N : Nat) : Hd (List Int) := fun st K => (unS [(3, .v (.sl (.int .u32))), (0, .box (.arr 8 (.int .u32))), (3, .box (.arr 8 (.int .u32))), (0, .row (.int .u32)), (7, .box (.arr 8 (.int .u32))), (0, .v (.int .i64))] 198 (restr [18, 17, 3, 9, 4, 8] 0 st)).bind fun x => iter (fun v r => porterref03_step_g3 N ((fun x => (x.1, x.2.1, x.2.2.1, x.2.2.2.1)) x) v r K) N ((fun x => (x.2.2.2.2.1, x.2.2.2.2.2.1)) x)

noncomputable def porterref03_step_t3 (N : Nat) : Tab (List Int) := []

theorem porterref03_step_ok3 {N : Nat} {c : Ctx} (hb : Base Go.Proofs.Tryd.prog (porterref03_step_E N) c) : CodeOk Go.Proofs.Tryd.prog c (nodeAt porterref03_step_body [0, 1, 0, 1, 1, 1, 1, 1]) (porterref03_step_h3 N) :=
  loop_ok (s := [(3, .v (.sl (.int .u32))), (0, .box (.arr 8 (.int .u32))), (3, .box (.arr 8 (.int .u32))), (0, .row (.int .u32)), (7, .box (.arr 8 (.int .u32))), (0, .v (.int .i64))]) (m := 198) (porterref03_step_g3 N) [18, 17, 3, 9, 4, 8] N (fun x => (x.1, x.2.1, x.2.2.1, x.2.2.2.1)) (fun x => (x.2.2.2.2.1, x.2.2.2.2.2.1)) (fun i v => (i.1, i.2.1, i.2.2.1, i.2.2.2, v.1, v.2, ())) (fun _ => rfl) (evN_sound hb N (porterref03_step_t3 N) porterref03_step_L porterref03_step_body TabOk.nil [0, 0, 1, 0, 1, 1, 1, 1, 1] _ rfl) (fun i v r K => by kernel_rfl)

noncomputable def porterref03_step_s4 (N : Nat) (h : (List Int)) (x8 : (List Int)) (v : (List Int)) (i : Int) (rec : (List Int) → Int → Option (List Int)) (k0 : (List Int) → Option (List Int)) : Option (List Int) :=
  cond (decide (i < (8 : Int)))
  (cond (Go.Lift.inR i 8)
    (cond (decide ((Int.toNat i) < (List.length v)))
      (cond (Go.Lift.inR i 8)
        (cond (decide ((Int.toNat i) < (List.length h)))
          (cond (Go.Lift.inR i 8)
            (cond (decide ((Int.toNat i) < (List.length v)))
              (rec (List.set v (Int.toNat i) (Go.IntKind.wrap Go.IntKind.u32 ((List.getD v (Int.toNat i) (0 : Int)) + (List.getD h (Int.toNat i) (0 : Int))))) (Go.IntKind.wrap Go.IntKind.i64 (i + (1 : Int))))
              (none))
            (none))
          (none))
        (none))
      (none))
    (none))
  (k0 v)

noncomputable def porterref03_step_p4 (N : Nat) (h : (List Int)) (x8 : (List Int)) (v : (List Int)) (i : Int) (k0 : (List Int) → Option (List Int)) : Option (List Int) :=
  iter (fun (v : ((List Int) × Int)) r => porterref03_step_s4 N h x8 v.1 v.2 (fun v i => (r (v, i))) k0) N (v, i)

noncomputable def porterref03_step_g4 (N : Nat) (i : ((List Int) × (List Int))) (v : ((List Int) × Int)) (r : ((List Int) × Int) → Option (List Int)) (K : Ex → List A → Option (List Int)) : Option (List Int) :=
  porterref03_step_s4 N i.1 i.2 v.1 v.2 (fun v i => (r (v, i))) (fun a1 => (K (.exit 6) (mkS [(8, .box (.arr 8 (.int .u32))), (8, .box (.arr 8 (.int .u32)))] 199 (i.2, a1, ()))))

noncomputable def porterref03_step_h4 (N : Nat) : Hd (List Int) := fun st K => (unS [(4, .box (.arr 8 (.int .u32))), (3, .box (.arr 8 (.int .u32))), (8, .box (.arr 8 (.int .u32))), (6, .v (.int .i64))] 192 (restr [24, 17, 4, 8] 0 st)).bind fun x => iter (fun v r => porterref03_step_g4 N ((fun x => (x.1, x.2.1)) x) v r K) N ((fun x => (x.2.2.1, x.2.2.2.1)) x)

noncomputable def porterref03_step_t4 (N : Nat) : Tab (List Int) := []

theorem porterref03_step_ok4 {N : Nat} {c : Ctx} (hb : Base Go.Proofs.Tryd.prog (porterref03_step_E N) c) : CodeOk Go.Proofs.Tryd.prog c (nodeAt porterref03_step_body [0, 1, 0, 1, 1, 1, 1, 1, 1]) (porterref03_step_h4 N) :=
  loop_ok (s := [(4, .box (.arr 8 (.int .u32))), (3, .box (.arr 8 (.int .u32))), (8, .box (.arr 8 (.int .u32))), (6, .v (.int .i64))]) (m := 192) (porterref03_step_g4 N) [24, 17, 4, 8] N (fun x => (x.1, x.2.1)) (fun x => (x.2.2.1, x.2.2.2.1)) (fun i v => (i.1, i.2, v.1, v.2, ())) (fun _ => rfl) (evN_sound hb N (porterref03_step_t4 N) porterref03_step_L porterref03_step_body TabOk.nil [0, 0, 1, 0, 1, 1, 1, 1, 1, 1] _ rfl) (fun i v r K => by kernel_rfl)

noncomputable def porterref03_step (N : Nat) (h : (List Int)) (s : (List UInt8)) (at_ : Int) (k : (List Int)) : Option (List Int) :=
  porterref03_step_p1 N s at_ k h ([(0 : Int), (0 : Int), (0 : Int), (0 : Int), (0 : Int), (0 : Int), (0 : Int), (0 : Int)] : List Int) ([] : List Int) (0 : Int)
  (fun w => porterref03_step_p2 N k h ([(0 : Int), (0 : Int), (0 : Int), (0 : Int), (0 : Int), (0 : Int), (0 : Int), (0 : Int)] : List Int) w (16 : Int)
    (fun w1 => porterref03_step_p3 N k h ([(0 : Int), (0 : Int), (0 : Int), (0 : Int), (0 : Int), (0 : Int), (0 : Int), (0 : Int)] : List Int) w1 h (0 : Int)
      (fun v => porterref03_step_p4 N h ([(0 : Int), (0 : Int), (0 : Int), (0 : Int), (0 : Int), (0 : Int), (0 : Int), (0 : Int)] : List Int) v (0 : Int)
        (fun v1 => some v1))))

noncomputable def porterref03_step_t (N : Nat) : Tab (List Int) := [([0, 1, 0, 1, 1], porterref03_step_h1 N), ([0, 1, 0, 1, 1, 1], porterref03_step_h2 N), ([0, 1, 0, 1, 1, 1, 1, 1], porterref03_step_h3 N), ([0, 1, 0, 1, 1, 1, 1, 1, 1], porterref03_step_h4 N)]

theorem porterref03_step_link (N : Nat) (x : denS [(0, .v (.arr 8 (.int .u32))), (0, .v .str), (0, .v (.int .i64)), (0, .v (.sl (.int .u32)))]) : evFX (porterref03_step_E N) N (porterref03_step_t N) porterref03_step_L Go.Proofs.Tryd.f78 (mkS [(0, .v (.arr 8 (.int .u32))), (0, .v .str), (0, .v (.int .i64)), (0, .v (.sl (.int .u32)))] 0 x) (kRes (.v (.arr 8 (.int .u32))) 4) = porterref03_step N x.1 x.2.1 x.2.2.1 x.2.2.2.1 := by kernel_rfl

noncomputable def porterref03_step_res (N : Nat) : List A → Res := resOf [(0, .v (.arr 8 (.int .u32))), (0, .v .str), (0, .v (.int .i64)), (0, .v (.sl (.int .u32)))] (fun x => porterref03_step N x.1 x.2.1 x.2.2.1 x.2.2.2.1) (oRes (.v (.arr 8 (.int .u32))) 4)

theorem porterref03_step_ct (N : Nat) : Contract Go.Proofs.Tryd.prog glob 78 (porterref03_step_res N) :=
  Contract.of (E := porterref03_step_E N) (H := porterref03_step_t N) (L := porterref03_step_L) (N := N) (body := porterref03_step_body) (K := (kRes (.v (.arr 8 (.int .u32))) 4)) (porterref03_step_Eok N) Go.Proofs.Tryd.func78 (by kernel_rfl) (by decide) (fun _ hb => (TabOk.cons (porterref03_step_ok1 hb) (TabOk.cons (porterref03_step_ok2 hb) (TabOk.cons (porterref03_step_ok3 hb) (TabOk.cons (porterref03_step_ok4 hb) TabOk.nil))))) (fun x y h => by rw [porterref03_step_link]; exact h) (kRes_ok (s := (.v (.arr 8 (.int .u32)))) (m := 4))

abbrev porterref03_Tell_R : Type := (List UInt8)

noncomputable def porterref03_Tell_body : Code := (Go.Proofs.Tryd.f79.body).getD .skip

noncomputable def porterref03_Tell_L : List (List Nat × List Nat) := [([0], [1]), ([0, 1], [3, 1]), ([0, 0, 1, 1], [4, 3, 1]), ([0, 1, 0, 1, 1], [4, 3, 1]), ([0, 0, 0, 0, 1, 0, 1, 1], [6, 3, 4, 1]), ([1, 0, 0, 0, 1, 0, 1, 1], [3, 4, 1]), ([1, 1, 0, 0, 0, 1, 0, 1, 1], [3]), ([0, 0, 1, 0, 0, 1, 0, 1, 1], [4, 3, 1]), ([0, 1, 0, 0, 1, 0, 1, 1], [4, 3, 1]), ([1, 1, 0, 0, 1, 0, 1, 1], [4, 3, 1]), ([1, 0, 1, 1], [3]), ([0, 1, 1, 1], [2]), ([1, 1, 1, 1], [2])]

noncomputable def porterref03_Tell_E (N : Nat) : Env := mkEnv tys glob [] [(3, (.int .u8))] [] [] false [] [(98, stream_blocks1_itr N), (106, hmac_framed1_itr N)]

theorem porterref03_Tell_Eok (N : Nat) : EnvOk Go.Proofs.Tryd.prog (porterref03_Tell_E N) := mkEnv_ok mixed tys_ok (FnsOk.nil) (ItsOk.cons (stream_blocks1_it N) (ItsOk.cons (hmac_framed1_it N) (ItsOk.nil)))

noncomputable def porterref03_Tell_s1 (N : Nat) (h : (List Int)) (b : (List Int)) (i : Int) (rec : (List Int) → Int → Option (List UInt8)) (k0 : (List Int) → Option (List UInt8)) : Option (List UInt8) :=
  cond (decide (i < (8 : Int)))
  (cond (Go.Lift.inR i 8)
    (cond (decide ((Int.toNat i) < (List.length h)))
      (cond (Go.Lift.inR i 8)
        (cond (decide ((Int.toNat i) < (List.length h)))
          (cond (Go.Lift.inR i 8)
            (cond (decide ((Int.toNat i) < (List.length h)))
              (cond (Go.Lift.inR i 8)
                (cond (decide ((Int.toNat i) < (List.length h)))
                  (cond (decide ((((List.length b) + 4) * 1) ≤ 70368744177664))
                    (rec (b ++ ([(Go.IntKind.wrap Go.IntKind.u8 (Go.Lift.shrI Go.IntKind.u32 (List.getD h (Int.toNat i) (0 : Int)) (24 : Int))), (Go.IntKind.wrap Go.IntKind.u8 (Go.Lift.shrI Go.IntKind.u32 (List.getD h (Int.toNat i) (0 : Int)) (16 : Int))), (Go.IntKind.wrap Go.IntKind.u8 (Go.Lift.shrI Go.IntKind.u32 (List.getD h (Int.toNat i) (0 : Int)) (8 : Int))), (Go.IntKind.wrap Go.IntKind.u8 (List.getD h (Int.toNat i) (0 : Int)))] : List Int)) (Go.IntKind.wrap Go.IntKind.i64 (i + (1 : Int))))
                    (none))
                  (none))
                (none))
              (none))
            (none))
          (none))
        (none))
      (none))
    (none))
  (k0 b)

noncomputable def porterref03_Tell_p1 (N : Nat) (h : (List Int)) (b : (List Int)) (i : Int) (k0 : (List Int) → Option (List UInt8)) : Option (List UInt8) :=
  iter (fun (v : ((List Int) × Int)) r => porterref03_Tell_s1 N h v.1 v.2 (fun b i => (r (b, i))) k0) N (b, i)

noncomputable def porterref03_Tell_g1 (N : Nat) (i : (List Int)) (v : ((List Int) × Int)) (r : ((List Int) × Int) → Option (List UInt8)) (K : Ex → List A → Option (List UInt8)) : Option (List UInt8) :=
  porterref03_Tell_s1 N i v.1 v.2 (fun b i => (r (b, i))) (fun a0 => (K (.exit 0) (mkS [(3, .row (.int .u8))] 29 (a0, ()))))

noncomputable def porterref03_Tell_h1 (N : Nat) : Hd (List UInt8) := fun st K => (unS [(1, .box (.arr 8 (.int .u32))), (1, .row (.int .u8)), (0, .v (.int .i64))] 28 (restr [4, 3, 1] 0 st)).bind fun x => iter (fun v r => porterref03_Tell_g1 N ((fun x => x.1) x) v r K) N ((fun x => (x.2.1, x.2.2.1)) x)

noncomputable def porterref03_Tell_t1 (N : Nat) : Tab (List UInt8) := []

theorem porterref03_Tell_ok1 {N : Nat} {c : Ctx} (hb : Base Go.Proofs.Tryd.prog (porterref03_Tell_E N) c) : CodeOk Go.Proofs.Tryd.prog c (nodeAt porterref03_Tell_body [0, 1, 0, 1, 1]) (porterref03_Tell_h1 N) :=
  loop_ok (s := [(1, .box (.arr 8 (.int .u32))), (1, .row (.int .u8)), (0, .v (.int .i64))]) (m := 28) (porterref03_Tell_g1 N) [4, 3, 1] N (fun x => x.1) (fun x => (x.2.1, x.2.2.1)) (fun i v => (i, v.1, v.2, ())) (fun _ => rfl) (evN_sound hb N (porterref03_Tell_t1 N) porterref03_Tell_L porterref03_Tell_body TabOk.nil [0, 0, 1, 0, 1, 1] _ rfl) (fun i v r K => by kernel_rfl)

noncomputable def porterref03_Tell (N : Nat) (h : (List Int)) : Option (List UInt8) :=
  porterref03_Tell_p1 N h ([] : List Int) (0 : Int)
  (fun b => some (Go.Lift.toStr b))

noncomputable def porterref03_Tell_t (N : Nat) : Tab (List UInt8) := [([0, 1, 0, 1, 1], porterref03_Tell_h1 N)]

theorem porterref03_Tell_link (N : Nat) (x : denS [(0, .v (.arr 8 (.int .u32)))]) : evFX (porterref03_Tell_E N) N (porterref03_Tell_t N) porterref03_Tell_L Go.Proofs.Tryd.f79 (mkS [(0, .v (.arr 8 (.int .u32)))] 0 x) (kRes (.v .str) 1) = porterref03_Tell N x.1 := by kernel_rfl

noncomputable def porterref03_Tell_res (N : Nat) : List A → Res := resOf [(0, .v (.arr 8 (.int .u32)))] (fun x => porterref03_Tell N x.1) (oRes (.v .str) 1)

theorem porterref03_Tell_ct (N : Nat) : Contract Go.Proofs.Tryd.prog glob 79 (porterref03_Tell_res N) :=
  Contract.of (E := porterref03_Tell_E N) (H := porterref03_Tell_t N) (L := porterref03_Tell_L) (N := N) (body := porterref03_Tell_body) (K := (kRes (.v .str) 1)) (porterref03_Tell_Eok N) Go.Proofs.Tryd.func79 (by kernel_rfl) (by decide) (fun _ hb => (TabOk.cons (porterref03_Tell_ok1 hb) TabOk.nil)) (fun x y h => by rw [porterref03_Tell_link]; exact h) (kRes_ok (s := (.v .str)) (m := 1))

abbrev porterref03_Sum_R : Type := (List UInt8)

noncomputable def porterref03_Sum_body : Code := (Go.Proofs.Tryd.f59.body).getD .skip

noncomputable def porterref03_Sum_L : List (List Nat × List Nat) := [([0], [0]), ([0, 1], [3]), ([0, 1, 1], [3, 4]), ([0, 1, 1, 1], [3, 5, 4]), ([0, 0, 1, 1, 1, 1], [6, 3, 5, 4]), ([0, 1, 0, 1, 1, 1, 1], [6, 3, 5, 4]), ([0, 0, 0, 0, 1, 0, 1, 1, 1, 1], [14, 5, 3, 6, 4]), ([1, 0, 0, 0, 1, 0, 1, 1, 1, 1], [5, 3, 6, 4]), ([1, 1, 0, 0, 0, 1, 0, 1, 1, 1, 1], [5]), ([0, 0, 1, 0, 0, 1, 0, 1, 1, 1, 1], [6, 3, 5, 4]), ([0, 1, 0, 0, 1, 0, 1, 1, 1, 1], [6, 3, 5, 4]), ([1, 1, 0, 0, 1, 0, 1, 1, 1, 1], [6, 3, 5, 4]), ([1, 0, 1, 1, 1, 1], [5]), ([0, 1, 1, 1, 1, 1], [2]), ([1, 1, 1, 1, 1, 1], [2])]

noncomputable def porterref03_Sum_E (N : Nat) : Env := mkEnv tys glob [(79, porterref03_Tell_res N), (78, porterref03_step_res N), (77, porterref03_First_res N), (76, porterref03_table_res N), (75, porterref03_Pad_res N)] [(4, (.int .u32))] [] [] false [] [(98, stream_blocks1_itr N), (106, hmac_framed1_itr N)]

theorem porterref03_Sum_Eok (N : Nat) : EnvOk Go.Proofs.Tryd.prog (porterref03_Sum_E N) := mkEnv_ok mixed tys_ok (FnsOk.cons (porterref03_Tell_ct N) (FnsOk.cons (porterref03_step_ct N) (FnsOk.cons (porterref03_First_ct N) (FnsOk.cons (porterref03_table_ct N) (FnsOk.cons (porterref03_Pad_ct N) (FnsOk.nil)))))) (ItsOk.cons (stream_blocks1_it N) (ItsOk.cons (hmac_framed1_it N) (ItsOk.nil)))

noncomputable def porterref03_Sum_s1 (N : Nat) (p : (List UInt8)) (k : (List Int)) (h : (List Int)) (at_ : Int) (rec : (List Int) → Int → Option (List UInt8)) (k0 : (List Int) → Option (List UInt8)) : Option (List UInt8) :=
  cond (decide (at_ < (((List.length p) : Nat) : Int)))
  ((porterref03_step N h p at_ k).bind fun y =>
    rec y (Go.IntKind.wrap Go.IntKind.i64 (at_ + (64 : Int))))
  (k0 h)

noncomputable def porterref03_Sum_p1 (N : Nat) (p : (List UInt8)) (k : (List Int)) (h : (List Int)) (at_ : Int) (k0 : (List Int) → Option (List UInt8)) : Option (List UInt8) :=
  iter (fun (v : ((List Int) × Int)) r => porterref03_Sum_s1 N p k v.1 v.2 (fun h at_ => (r (h, at_))) k0) N (h, at_)

noncomputable def porterref03_Sum_g1 (N : Nat) (i : ((List UInt8) × (List Int))) (v : ((List Int) × Int)) (r : ((List Int) × Int) → Option (List UInt8)) (K : Ex → List A → Option (List UInt8)) : Option (List UInt8) :=
  porterref03_Sum_s1 N i.1 i.2 v.1 v.2 (fun h at_ => (r (h, at_))) (fun a0 => (K (.exit 0) (mkS [(5, .box (.arr 8 (.int .u32)))] 18 (a0, ()))))

noncomputable def porterref03_Sum_h1 (N : Nat) : Hd (List UInt8) := fun st K => (unS [(3, .v .str), (0, .v (.sl (.int .u32))), (0, .box (.arr 8 (.int .u32))), (0, .v (.int .i64))] 17 (restr [6, 3, 5, 4] 0 st)).bind fun x => iter (fun v r => porterref03_Sum_g1 N ((fun x => (x.1, x.2.1)) x) v r K) N ((fun x => (x.2.2.1, x.2.2.2.1)) x)

noncomputable def porterref03_Sum_t1 (N : Nat) : Tab (List UInt8) := []

theorem porterref03_Sum_ok1 {N : Nat} {c : Ctx} (hb : Base Go.Proofs.Tryd.prog (porterref03_Sum_E N) c) : CodeOk Go.Proofs.Tryd.prog c (nodeAt porterref03_Sum_body [0, 1, 0, 1, 1, 1, 1]) (porterref03_Sum_h1 N) :=
  loop_ok (s := [(3, .v .str), (0, .v (.sl (.int .u32))), (0, .box (.arr 8 (.int .u32))), (0, .v (.int .i64))]) (m := 17) (porterref03_Sum_g1 N) [6, 3, 5, 4] N (fun x => (x.1, x.2.1)) (fun x => (x.2.2.1, x.2.2.2.1)) (fun i v => (i.1, i.2, v.1, v.2, ())) (fun _ => rfl) (evN_sound hb N (porterref03_Sum_t1 N) porterref03_Sum_L porterref03_Sum_body TabOk.nil [0, 0, 1, 0, 1, 1, 1, 1] _ rfl) (fun i v r K => by kernel_rfl)

noncomputable def porterref03_Sum (N : Nat) (s : (List UInt8)) : Option (List UInt8) :=
  (porterref03_Pad N s).bind fun y =>
  porterref03_Sum_p1 N y (List.set (List.set (List.set (List.set (List.set (List.set (List.set (List.set (List.set (List.set (List.set (List.set (List.set (List.set (List.set (List.set (List.set (List.set (List.set (List.set (List.set (List.set (List.set (List.set (List.set (List.set (List.set (List.set (List.set (List.set (List.set (List.set (List.set (List.set (List.set (List.set (List.set (List.set (List.set (List.set (List.set (List.set (List.set (List.set (List.set (List.set (List.set (List.set (List.set (List.set (List.set (List.set (List.set (List.set (List.set (List.set (List.set (List.set (List.set (List.set (List.set (List.set (List.set (List.set (List.replicate 64 (0 : Int)) 0 (1116352408 : Int)) 1 (1899447441 : Int)) 2 (3049323471 : Int)) 3 (3921009573 : Int)) 4 (961987163 : Int)) 5 (1508970993 : Int)) 6 (2453635748 : Int)) 7 (2870763221 : Int)) 8 (3624381080 : Int)) 9 (310598401 : Int)) 10 (607225278 : Int)) 11 (1426881987 : Int)) 12 (1925078388 : Int)) 13 (2162078206 : Int)) 14 (2614888103 : Int)) 15 (3248222580 : Int)) 16 (3835390401 : Int)) 17 (4022224774 : Int)) 18 (264347078 : Int)) 19 (604807628 : Int)) 20 (770255983 : Int)) 21 (1249150122 : Int)) 22 (1555081692 : Int)) 23 (1996064986 : Int)) 24 (2554220882 : Int)) 25 (2821834349 : Int)) 26 (2952996808 : Int)) 27 (3210313671 : Int)) 28 (3336571891 : Int)) 29 (3584528711 : Int)) 30 (113926993 : Int)) 31 (338241895 : Int)) 32 (666307205 : Int)) 33 (773529912 : Int)) 34 (1294757372 : Int)) 35 (1396182291 : Int)) 36 (1695183700 : Int)) 37 (1986661051 : Int)) 38 (2177026350 : Int)) 39 (2456956037 : Int)) 40 (2730485921 : Int)) 41 (2820302411 : Int)) 42 (3259730800 : Int)) 43 (3345764771 : Int)) 44 (3516065817 : Int)) 45 (3600352804 : Int)) 46 (4094571909 : Int)) 47 (275423344 : Int)) 48 (430227734 : Int)) 49 (506948616 : Int)) 50 (659060556 : Int)) 51 (883997877 : Int)) 52 (958139571 : Int)) 53 (1322822218 : Int)) 54 (1537002063 : Int)) 55 (1747873779 : Int)) 56 (1955562222 : Int)) 57 (2024104815 : Int)) 58 (2227730452 : Int)) 59 (2361852424 : Int)) 60 (2428436474 : Int)) 61 (2756734187 : Int)) 62 (3204031479 : Int)) 63 (3329325298 : Int)) ([(1779033703 : Int), (3144134277 : Int), (1013904242 : Int), (2773480762 : Int), (1359893119 : Int), (2600822924 : Int), (528734635 : Int), (1541459225 : Int)] : List Int) (0 : Int)
  (fun h => (porterref03_Tell N h).bind fun y1 =>
    some y1)

noncomputable def porterref03_Sum_t (N : Nat) : Tab (List UInt8) := [([0, 1, 0, 1, 1, 1, 1], porterref03_Sum_h1 N)]

theorem porterref03_Sum_link (N : Nat) (x : denS [(0, .v .str)]) : evFX (porterref03_Sum_E N) N (porterref03_Sum_t N) porterref03_Sum_L Go.Proofs.Tryd.f59 (mkS [(0, .v .str)] 0 x) (kRes (.v .str) 1) = porterref03_Sum N x.1 := by kernel_rfl

noncomputable def porterref03_Sum_res (N : Nat) : List A → Res := resOf [(0, .v .str)] (fun x => porterref03_Sum N x.1) (oRes (.v .str) 1)

theorem porterref03_Sum_ct (N : Nat) : Contract Go.Proofs.Tryd.prog glob 59 (porterref03_Sum_res N) :=
  Contract.of (E := porterref03_Sum_E N) (H := porterref03_Sum_t N) (L := porterref03_Sum_L) (N := N) (body := porterref03_Sum_body) (K := (kRes (.v .str) 1)) (porterref03_Sum_Eok N) Go.Proofs.Tryd.func59 (by kernel_rfl) (by decide) (fun _ hb => (TabOk.cons (porterref03_Sum_ok1 hb) TabOk.nil)) (fun x y h => by rw [porterref03_Sum_link]; exact h) (kRes_ok (s := (.v .str)) (m := 1))

abbrev porterref02_Pad_R : Type := (List UInt8)

noncomputable def porterref02_Pad_body : Code := (Go.Proofs.Tryd.f96.body).getD .skip

noncomputable def porterref02_Pad_L : List (List Nat × List Nat) := [([0], [1, 0]), ([0, 0, 1], [7, 0, 1]), ([1, 0, 1], [0, 1]), ([0, 1, 0, 1], [0, 1]), ([0, 0, 1, 1], [11, 0, 1]), ([1, 0, 1, 1], [1, 0]), ([0, 0, 1, 0, 1, 1], [4]), ([1, 0, 1, 0, 1, 1], [4]), ([0, 1, 1, 1], [0, 5]), ([0, 1, 1, 1, 1], [4]), ([1, 1, 1, 1, 1], [4])]

noncomputable def porterref02_Pad_E (N : Nat) : Env := mkEnv tys glob [] [] [] [] false [] [(98, stream_blocks1_itr N), (106, hmac_framed1_itr N)]

theorem porterref02_Pad_Eok (N : Nat) : EnvOk Go.Proofs.Tryd.prog (porterref02_Pad_E N) := mkEnv_ok mixed tys_ok (FnsOk.nil) (ItsOk.cons (stream_blocks1_it N) (ItsOk.cons (hmac_framed1_it N) (ItsOk.nil)))

noncomputable def porterref02_Pad_p1 (N : Nat) (s : (List UInt8)) (n : Int) (k0 : Int → Option (List UInt8)) : Option (List UInt8) :=
  cond (decide ((65536 : Int) < n))
  (k0 (65536 : Int))
  (k0 n)

noncomputable def porterref02_Pad_g1 (N : Nat) (x : denS [(0, .v .str), (0, .v (.int .i64))]) (K : Ex → List A → Option (List UInt8)) : Option (List UInt8) :=
  porterref02_Pad_p1 N x.1 x.2.1 (fun a1 => (K .normal (mkS [(0, .v .str), (0, .v (.int .i64))] 20 (x.1, a1, ()))))

noncomputable def porterref02_Pad_h1 (N : Nat) : Hd (List UInt8) := fun st K => (unS [(0, .v .str), (0, .v (.int .i64))] 20 (restr [1, 0] 0 st)).bind fun x => porterref02_Pad_g1 N x K

noncomputable def porterref02_Pad_t1 (N : Nat) : Tab (List UInt8) := []

theorem porterref02_Pad_ok1 {N : Nat} {c : Ctx} (hb : Base Go.Proofs.Tryd.prog (porterref02_Pad_E N) c) : CodeOk Go.Proofs.Tryd.prog c (nodeAt porterref02_Pad_body [0, 1]) (porterref02_Pad_h1 N) :=
  piece_ok (s := [(0, .v .str), (0, .v (.int .i64))]) (m := 20) (g := porterref02_Pad_g1 N) [1, 0] (evN_sound hb N (porterref02_Pad_t1 N) porterref02_Pad_L porterref02_Pad_body TabOk.nil [0, 1] _ rfl) (fun x K => by kernel_rfl)

noncomputable def porterref02_Pad (N : Nat) (s : (List UInt8)) (n : Int) : Option (List UInt8) :=
  porterref02_Pad_p1 N s n
  (fun n1 => cond (decide (n1 ≤ (((List.length s) : Nat) : Int)))
    (some s)
    (cond (decide (((0 : Int) ≤ (Go.IntKind.wrap Go.IntKind.i64 (n1 - (((List.length s) : Nat) : Int)))) ∧ (((Go.IntKind.wrap Go.IntKind.i64 (n1 - (((List.length s) : Nat) : Int))) ≤ (Go.IntKind.wrap Go.IntKind.i64 (n1 - (((List.length s) : Nat) : Int)))) ∧ ((((Go.IntKind.wrap Go.IntKind.i64 (n1 - (((List.length s) : Nat) : Int))) * (1 : Int)) ≤ (281474976710656 : Int)) ∧ ((Go.IntKind.wrap Go.IntKind.i64 (n1 - (((List.length s) : Nat) : Int))) ≤ (9223372036854775807 : Int))))))
      (cond (decide (((List.length s) + (List.length (Go.Lift.toStr (List.replicate (Int.toNat (Go.IntKind.wrap Go.IntKind.i64 (n1 - (((List.length s) : Nat) : Int)))) (0 : Int))))) ≤ 9223372036854775807))
        (some (s ++ (Go.Lift.toStr (List.replicate (Int.toNat (Go.IntKind.wrap Go.IntKind.i64 (n1 - (((List.length s) : Nat) : Int)))) (0 : Int)))))
        (none))
      (none)))

noncomputable def porterref02_Pad_t (N : Nat) : Tab (List UInt8) := [([0, 1], porterref02_Pad_h1 N)]

theorem porterref02_Pad_link (N : Nat) (x : denS [(0, .v .str), (0, .v (.int .i64))]) : evFX (porterref02_Pad_E N) N (porterref02_Pad_t N) porterref02_Pad_L Go.Proofs.Tryd.f96 (mkS [(0, .v .str), (0, .v (.int .i64))] 0 x) (kRes (.v .str) 2) = porterref02_Pad N x.1 x.2.1 := by kernel_rfl

noncomputable def porterref02_Pad_res (N : Nat) : List A → Res := resOf [(0, .v .str), (0, .v (.int .i64))] (fun x => porterref02_Pad N x.1 x.2.1) (oRes (.v .str) 2)

theorem porterref02_Pad_ct (N : Nat) : Contract Go.Proofs.Tryd.prog glob 96 (porterref02_Pad_res N) :=
  Contract.of (E := porterref02_Pad_E N) (H := porterref02_Pad_t N) (L := porterref02_Pad_L) (N := N) (body := porterref02_Pad_body) (K := (kRes (.v .str) 2)) (porterref02_Pad_Eok N) Go.Proofs.Tryd.func96 (by kernel_rfl) (by decide) (fun _ hb => (TabOk.cons (porterref02_Pad_ok1 hb) TabOk.nil)) (fun x y h => by rw [porterref02_Pad_link]; exact h) (kRes_ok (s := (.v .str)) (m := 2))

abbrev porterref04_key_R : Type := (List UInt8)

noncomputable def porterref04_key_body : Code := (Go.Proofs.Tryd.f81.body).getD .skip

noncomputable def porterref04_key_L : List (List Nat × List Nat) := [([0], [0]), ([0, 0, 1], [5, 0]), ([1, 0, 1], [0]), ([0, 1, 0, 1], [0]), ([0, 1, 1], [2]), ([1, 1, 1], [2])]

noncomputable def porterref04_key_E (N : Nat) : Env := mkEnv tys glob [(96, porterref02_Pad_res N), (59, porterref03_Sum_res N)] [] [] [] false [] [(98, stream_blocks1_itr N), (106, hmac_framed1_itr N)]

theorem porterref04_key_Eok (N : Nat) : EnvOk Go.Proofs.Tryd.prog (porterref04_key_E N) := mkEnv_ok mixed tys_ok (FnsOk.cons (porterref02_Pad_ct N) (FnsOk.cons (porterref03_Sum_ct N) (FnsOk.nil))) (ItsOk.cons (stream_blocks1_it N) (ItsOk.cons (hmac_framed1_it N) (ItsOk.nil)))

noncomputable def porterref04_key_p1 (N : Nat) (k : (List UInt8)) (k0 : (List UInt8) → Option (List UInt8)) : Option (List UInt8) :=
  cond (decide ((64 : Int) < (((List.length k) : Nat) : Int)))
  ((porterref03_Sum N k).bind fun y =>
    k0 y)
  (k0 k)

noncomputable def porterref04_key_g1 (N : Nat) (x : denS [(0, .v .str)]) (K : Ex → List A → Option (List UInt8)) : Option (List UInt8) :=
  porterref04_key_p1 N x.1 (fun a0 => (K .normal (mkS [(0, .v .str)] 9 (a0, ()))))

noncomputable def porterref04_key_h1 (N : Nat) : Hd (List UInt8) := fun st K => (unS [(0, .v .str)] 9 (restr [0] 0 st)).bind fun x => porterref04_key_g1 N x K

noncomputable def porterref04_key_t1 (N : Nat) : Tab (List UInt8) := []

theorem porterref04_key_ok1 {N : Nat} {c : Ctx} (hb : Base Go.Proofs.Tryd.prog (porterref04_key_E N) c) : CodeOk Go.Proofs.Tryd.prog c (nodeAt porterref04_key_body [0, 1]) (porterref04_key_h1 N) :=
  piece_ok (s := [(0, .v .str)]) (m := 9) (g := porterref04_key_g1 N) [0] (evN_sound hb N (porterref04_key_t1 N) porterref04_key_L porterref04_key_body TabOk.nil [0, 1] _ rfl) (fun x K => by kernel_rfl)

noncomputable def porterref04_key (N : Nat) (k : (List UInt8)) : Option (List UInt8) :=
  porterref04_key_p1 N k
  (fun k1 => (porterref02_Pad N k1 (64 : Int)).bind fun y =>
    some y)

noncomputable def porterref04_key_t (N : Nat) : Tab (List UInt8) := [([0, 1], porterref04_key_h1 N)]

theorem porterref04_key_link (N : Nat) (x : denS [(0, .v .str)]) : evFX (porterref04_key_E N) N (porterref04_key_t N) porterref04_key_L Go.Proofs.Tryd.f81 (mkS [(0, .v .str)] 0 x) (kRes (.v .str) 1) = porterref04_key N x.1 := by kernel_rfl

noncomputable def porterref04_key_res (N : Nat) : List A → Res := resOf [(0, .v .str)] (fun x => porterref04_key N x.1) (oRes (.v .str) 1)

theorem porterref04_key_ct (N : Nat) : Contract Go.Proofs.Tryd.prog glob 81 (porterref04_key_res N) :=
  Contract.of (E := porterref04_key_E N) (H := porterref04_key_t N) (L := porterref04_key_L) (N := N) (body := porterref04_key_body) (K := (kRes (.v .str) 1)) (porterref04_key_Eok N) Go.Proofs.Tryd.func81 (by kernel_rfl) (by decide) (fun _ hb => (TabOk.cons (porterref04_key_ok1 hb) TabOk.nil)) (fun x y h => by rw [porterref04_key_link]; exact h) (kRes_ok (s := (.v .str)) (m := 1))

abbrev porterref02_Xor_R : Type := (List UInt8)

noncomputable def porterref02_Xor_body : Code := (Go.Proofs.Tryd.f72.body).getD .skip

noncomputable def porterref02_Xor_L : List (List Nat × List Nat) := [([0], [0, 1]), ([0, 1], [0, 1, 5]), ([0, 0, 1, 1], [6, 0, 1, 5]), ([0, 1, 0, 1, 1], [6, 0, 1, 5]), ([0, 0, 0, 0, 1, 0, 1, 1], [21, 0, 6, 1, 5]), ([1, 0, 0, 0, 1, 0, 1, 1], [0, 6, 1, 5]), ([1, 1, 0, 0, 0, 1, 0, 1, 1], [5]), ([0, 0, 0, 1, 0, 0, 1, 0, 1, 1], [7, 8, 9, 10, 5, 6, 0, 1]), ([0, 0, 1, 0, 0, 1, 0, 0, 1, 0, 1, 1], [11, 7, 8, 9, 10, 5, 6, 0, 1]), ([0, 1, 0, 1, 0, 0, 1, 0, 0, 1, 0, 1, 1], [11, 7, 8, 9, 10, 5, 6, 0, 1]), ([0, 0, 0, 0, 1, 0, 1, 0, 0, 1, 0, 0, 1, 0, 1, 1], [33, 7, 8, 9, 10, 11, 5, 6, 0, 1]), ([1, 0, 0, 0, 1, 0, 1, 0, 0, 1, 0, 0, 1, 0, 1, 1], [7, 8, 9, 10, 11, 5, 6, 0, 1]), ([1, 1, 0, 0, 0, 1, 0, 1, 0, 0, 1, 0, 0, 1, 0, 1, 1], [5, 9, 6, 0, 1]), ([0, 0, 0, 0, 1, 0, 0, 1, 0, 1, 0, 0, 1, 0, 0, 1, 0, 1, 1], [40, 9, 10, 7, 8, 11, 5, 6, 0, 1]), ([1, 0, 0, 0, 1, 0, 0, 1, 0, 1, 0, 0, 1, 0, 0, 1, 0, 1, 1], [7, 8, 10, 11, 9, 5, 6, 0, 1]), ([0, 1, 0, 0, 0, 1, 0, 0, 1, 0, 1, 0, 0, 1, 0, 0, 1, 0, 1, 1], [7, 8, 10, 11, 9, 5, 6, 0, 1]), ([0, 1, 0, 0, 1, 0, 0, 1, 0, 1, 0, 0, 1, 0, 0, 1, 0, 1, 1], [8, 10, 11, 7, 9, 5, 6, 0, 1]), ([0, 1, 1, 0, 0, 1, 0, 0, 1, 0, 1, 0, 0, 1, 0, 0, 1, 0, 1, 1], [10, 11, 7, 8, 9, 5, 6, 0, 1]), ([1, 1, 1, 0, 0, 1, 0, 0, 1, 0, 1, 0, 0, 1, 0, 0, 1, 0, 1, 1], [11, 7, 8, 9, 10, 5, 6, 0, 1]), ([0, 1, 0, 0, 1, 0, 1, 0, 0, 1, 0, 0, 1, 0, 1, 1], [11, 7, 8, 9, 10, 5, 6, 0, 1]), ([1, 1, 0, 0, 1, 0, 1, 0, 0, 1, 0, 0, 1, 0, 1, 1], [11, 7, 8, 9, 10, 5, 6, 0, 1]), ([1, 0, 1, 0, 0, 1, 0, 0, 1, 0, 1, 1], [5, 9, 6, 0, 1]), ([1, 1, 0, 0, 1, 0, 0, 1, 0, 1, 1], [6, 0, 1, 5]), ([0, 1, 0, 0, 1, 0, 1, 1], [6, 0, 1, 5]), ([1, 1, 0, 0, 1, 0, 1, 1], [6, 0, 1, 5]), ([1, 0, 1, 1], [5]), ([0, 1, 1, 1], [4]), ([1, 1, 1, 1], [4])]

noncomputable def porterref02_Xor_E (N : Nat) : Env := mkEnv tys glob [(92, porterref02_Byte_res N)] [] [] [] false [] [(98, stream_blocks1_itr N), (106, hmac_framed1_itr N)]

theorem porterref02_Xor_Eok (N : Nat) : EnvOk Go.Proofs.Tryd.prog (porterref02_Xor_E N) := mkEnv_ok mixed tys_ok (FnsOk.cons (porterref02_Byte_ct N) (FnsOk.nil)) (ItsOk.cons (stream_blocks1_it N) (ItsOk.cons (hmac_framed1_it N) (ItsOk.nil)))

noncomputable def porterref02_Xor_p2 (N : Nat) (a : (List UInt8)) (b : (List UInt8)) (out : (List UInt8)) (i : Int) (k0 : Option (List UInt8)) (k1 : Option (List UInt8)) : Option (List UInt8) :=
  cond (decide (i < (((List.length a) : Nat) : Int)))
  (cond (decide (i < (((List.length b) : Nat) : Int)))
    (k0)
    (k1))
  (k1)

noncomputable def porterref02_Xor_g2 (N : Nat) (x : denS [(0, .v .str), (0, .v .str), (3, .v .str), (0, .v (.int .i64))]) (K : Ex → List A → Option (List UInt8)) : Option (List UInt8) :=
  porterref02_Xor_p2 N x.1 x.2.1 x.2.2.1 x.2.2.2.1 (K .normal (mkS [(0, .v .str), (0, .v .str), (3, .v .str), (0, .v (.int .i64))] 48 (x.1, x.2.1, x.2.2.1, x.2.2.2.1, ()))) (K (.exit 0) (mkS [(5, .v .str)] 49 (x.2.2.1, ())))

noncomputable def porterref02_Xor_h2 (N : Nat) : Hd (List UInt8) := fun st K => (unS [(0, .v .str), (0, .v .str), (3, .v .str), (0, .v (.int .i64))] 48 (restr [6, 0, 1, 5] 0 st)).bind fun x => porterref02_Xor_g2 N x K

noncomputable def porterref02_Xor_t2 (N : Nat) : Tab (List UInt8) := []

theorem porterref02_Xor_ok2 {N : Nat} {c : Ctx} (hb : Base Go.Proofs.Tryd.prog (porterref02_Xor_E N) c) : CodeOk Go.Proofs.Tryd.prog c (nodeAt porterref02_Xor_body [0, 0, 0, 1, 0, 1, 1]) (porterref02_Xor_h2 N) :=
  piece_ok (s := [(0, .v .str), (0, .v .str), (3, .v .str), (0, .v (.int .i64))]) (m := 48) (g := porterref02_Xor_g2 N) [6, 0, 1, 5] (evN_sound hb N (porterref02_Xor_t2 N) porterref02_Xor_L porterref02_Xor_body TabOk.nil [0, 0, 0, 1, 0, 1, 1] _ rfl) (fun x K => by kernel_rfl)

noncomputable def porterref02_Xor_p5 (N : Nat) (a : (List UInt8)) (b : (List UInt8)) (out : (List UInt8)) (i : Int) (x7 : Int) (y : Int) (n : Int) (bit : Int) (k : Int) (k0 : Int → Option (List UInt8)) : Option (List UInt8) :=
  cond ((Int.tmod x7 (2 : Int)) != (Int.tmod y (2 : Int)))
  (k0 (Go.IntKind.wrap Go.IntKind.i64 (n + bit)))
  (k0 n)

noncomputable def porterref02_Xor_g5 (N : Nat) (x : denS [(0, .v .str), (0, .v .str), (3, .v .str), (0, .v (.int .i64)), (0, .v (.int .i64)), (0, .v (.int .i64)), (0, .v (.int .i64)), (0, .v (.int .i64)), (0, .v (.int .i64))]) (K : Ex → List A → Option (List UInt8)) : Option (List UInt8) :=
  porterref02_Xor_p5 N x.1 x.2.1 x.2.2.1 x.2.2.2.1 x.2.2.2.2.1 x.2.2.2.2.2.1 x.2.2.2.2.2.2.1 x.2.2.2.2.2.2.2.1 x.2.2.2.2.2.2.2.2.1 (fun a6 => (K .normal (mkS [(0, .v .str), (0, .v .str), (3, .v .str), (0, .v (.int .i64)), (0, .v (.int .i64)), (0, .v (.int .i64)), (0, .v (.int .i64)), (0, .v (.int .i64)), (0, .v (.int .i64))] 43 (x.1, x.2.1, x.2.2.1, x.2.2.2.1, x.2.2.2.2.1, x.2.2.2.2.2.1, a6, x.2.2.2.2.2.2.2.1, x.2.2.2.2.2.2.2.2.1, ()))))

noncomputable def porterref02_Xor_h5 (N : Nat) : Hd (List UInt8) := fun st K => (unS [(0, .v .str), (0, .v .str), (3, .v .str), (0, .v (.int .i64)), (0, .v (.int .i64)), (0, .v (.int .i64)), (0, .v (.int .i64)), (0, .v (.int .i64)), (0, .v (.int .i64))] 43 (restr [7, 8, 9, 10, 11, 5, 6, 0, 1] 0 st)).bind fun x => porterref02_Xor_g5 N x K

noncomputable def porterref02_Xor_t5 (N : Nat) : Tab (List UInt8) := []

theorem porterref02_Xor_ok5 {N : Nat} {c : Ctx} (hb : Base Go.Proofs.Tryd.prog (porterref02_Xor_E N) c) : CodeOk Go.Proofs.Tryd.prog c (nodeAt porterref02_Xor_body [0, 0, 0, 1, 0, 0, 1, 0, 1, 0, 0, 1, 0, 0, 1, 0, 1, 1]) (porterref02_Xor_h5 N) :=
  piece_ok (s := [(0, .v .str), (0, .v .str), (3, .v .str), (0, .v (.int .i64)), (0, .v (.int .i64)), (0, .v (.int .i64)), (0, .v (.int .i64)), (0, .v (.int .i64)), (0, .v (.int .i64))]) (m := 43) (g := porterref02_Xor_g5 N) [7, 8, 9, 10, 11, 5, 6, 0, 1] (evN_sound hb N (porterref02_Xor_t5 N) porterref02_Xor_L porterref02_Xor_body TabOk.nil [0, 0, 0, 1, 0, 0, 1, 0, 1, 0, 0, 1, 0, 0, 1, 0, 1, 1] _ rfl) (fun x K => by kernel_rfl)

noncomputable def porterref02_Xor_p4 (N : Nat) (a : (List UInt8)) (b : (List UInt8)) (out : (List UInt8)) (i : Int) (x7 : Int) (y : Int) (n : Int) (bit : Int) (k : Int) (k0 : Int → Int → Int → Int → Option (List UInt8)) : Option (List UInt8) :=
  porterref02_Xor_p5 N a b out i x7 y n bit k
  (fun n1 => k0 (Go.IntKind.wrap Go.IntKind.i64 (Int.tdiv x7 (2 : Int))) (Go.IntKind.wrap Go.IntKind.i64 (Int.tdiv y (2 : Int))) n1 (Go.IntKind.wrap Go.IntKind.i64 (bit * (2 : Int))))

noncomputable def porterref02_Xor_g4 (N : Nat) (x : denS [(0, .v .str), (0, .v .str), (3, .v .str), (0, .v (.int .i64)), (0, .v (.int .i64)), (0, .v (.int .i64)), (0, .v (.int .i64)), (0, .v (.int .i64)), (0, .v (.int .i64))]) (K : Ex → List A → Option (List UInt8)) : Option (List UInt8) :=
  porterref02_Xor_p4 N x.1 x.2.1 x.2.2.1 x.2.2.2.1 x.2.2.2.2.1 x.2.2.2.2.2.1 x.2.2.2.2.2.2.1 x.2.2.2.2.2.2.2.1 x.2.2.2.2.2.2.2.2.1 (fun a4 a5 a6 a7 => (K .normal (mkS [(0, .v .str), (0, .v .str), (3, .v .str), (0, .v (.int .i64)), (0, .v (.int .i64)), (0, .v (.int .i64)), (0, .v (.int .i64)), (0, .v (.int .i64)), (0, .v (.int .i64))] 43 (x.1, x.2.1, x.2.2.1, x.2.2.2.1, a4, a5, a6, a7, x.2.2.2.2.2.2.2.2.1, ()))))

noncomputable def porterref02_Xor_h4 (N : Nat) : Hd (List UInt8) := fun st K => (unS [(0, .v .str), (0, .v .str), (3, .v .str), (0, .v (.int .i64)), (0, .v (.int .i64)), (0, .v (.int .i64)), (0, .v (.int .i64)), (0, .v (.int .i64)), (0, .v (.int .i64))] 43 (restr [7, 8, 9, 10, 11, 5, 6, 0, 1] 0 st)).bind fun x => porterref02_Xor_g4 N x K

noncomputable def porterref02_Xor_t4 (N : Nat) : Tab (List UInt8) := [([0, 0, 0, 1, 0, 0, 1, 0, 1, 0, 0, 1, 0, 0, 1, 0, 1, 1], porterref02_Xor_h5 N)]

theorem porterref02_Xor_ok4 {N : Nat} {c : Ctx} (hb : Base Go.Proofs.Tryd.prog (porterref02_Xor_E N) c) : CodeOk Go.Proofs.Tryd.prog c (nodeAt porterref02_Xor_body [0, 1, 0, 0, 1, 0, 1, 0, 0, 1, 0, 0, 1, 0, 1, 1]) (porterref02_Xor_h4 N) :=
  piece_ok (s := [(0, .v .str), (0, .v .str), (3, .v .str), (0, .v (.int .i64)), (0, .v (.int .i64)), (0, .v (.int .i64)), (0, .v (.int .i64)), (0, .v (.int .i64)), (0, .v (.int .i64))]) (m := 43) (g := porterref02_Xor_g4 N) [7, 8, 9, 10, 11, 5, 6, 0, 1] (evN_sound hb N (porterref02_Xor_t4 N) porterref02_Xor_L porterref02_Xor_body (TabOk.cons (porterref02_Xor_ok5 hb) TabOk.nil) [0, 1, 0, 0, 1, 0, 1, 0, 0, 1, 0, 0, 1, 0, 1, 1] _ rfl) (fun x K => by kernel_rfl)

noncomputable def porterref02_Xor_s3 (N : Nat) (a : (List UInt8)) (b : (List UInt8)) (out : (List UInt8)) (i : Int) (x7 : Int) (y : Int) (n : Int) (bit : Int) (k : Int) (rec : Int → Int → Int → Int → Int → Option (List UInt8)) (k0 : Int → Option (List UInt8)) : Option (List UInt8) :=
  cond (decide (k < (8 : Int)))
  (porterref02_Xor_p4 N a b out i x7 y n bit k
    (fun x71 y1 n1 bit1 => rec x71 y1 n1 bit1 (Go.IntKind.wrap Go.IntKind.i64 (k + (1 : Int)))))
  (k0 n)

noncomputable def porterref02_Xor_p3 (N : Nat) (a : (List UInt8)) (b : (List UInt8)) (out : (List UInt8)) (i : Int) (x7 : Int) (y : Int) (n : Int) (bit : Int) (k : Int) (k0 : Int → Option (List UInt8)) : Option (List UInt8) :=
  iter (fun (v : (Int × Int × Int × Int × Int)) r => porterref02_Xor_s3 N a b out i v.1 v.2.1 v.2.2.1 v.2.2.2.1 v.2.2.2.2 (fun x7 y n bit k => (r (x7, y, n, bit, k))) k0) N (x7, y, n, bit, k)

noncomputable def porterref02_Xor_g3 (N : Nat) (i : ((List UInt8) × (List UInt8) × (List UInt8) × Int)) (v : (Int × Int × Int × Int × Int)) (r : (Int × Int × Int × Int × Int) → Option (List UInt8)) (K : Ex → List A → Option (List UInt8)) : Option (List UInt8) :=
  porterref02_Xor_s3 N i.1 i.2.1 i.2.2.1 i.2.2.2 v.1 v.2.1 v.2.2.1 v.2.2.2.1 v.2.2.2.2 (fun x7 y n bit k => (r (x7, y, n, bit, k))) (fun a4 => (K (.exit 2) (mkS [(0, .v .str), (0, .v .str), (3, .v .str), (0, .v (.int .i64)), (2, .v (.int .i64))] 45 (i.1, i.2.1, i.2.2.1, i.2.2.2, a4, ()))))

noncomputable def porterref02_Xor_h3 (N : Nat) : Hd (List UInt8) := fun st K => (unS [(0, .v .str), (0, .v .str), (3, .v .str), (0, .v (.int .i64)), (0, .v (.int .i64)), (0, .v (.int .i64)), (0, .v (.int .i64)), (0, .v (.int .i64)), (0, .v (.int .i64))] 43 (restr [11, 7, 8, 9, 10, 5, 6, 0, 1] 0 st)).bind fun x => iter (fun v r => porterref02_Xor_g3 N ((fun x => (x.1, x.2.1, x.2.2.1, x.2.2.2.1)) x) v r K) N ((fun x => (x.2.2.2.2.1, x.2.2.2.2.2.1, x.2.2.2.2.2.2.1, x.2.2.2.2.2.2.2.1, x.2.2.2.2.2.2.2.2.1)) x)

noncomputable def porterref02_Xor_t3 (N : Nat) : Tab (List UInt8) := [([0, 1, 0, 0, 1, 0, 1, 0, 0, 1, 0, 0, 1, 0, 1, 1], porterref02_Xor_h4 N)]

theorem porterref02_Xor_ok3 {N : Nat} {c : Ctx} (hb : Base Go.Proofs.Tryd.prog (porterref02_Xor_E N) c) : CodeOk Go.Proofs.Tryd.prog c (nodeAt porterref02_Xor_body [0, 1, 0, 1, 0, 0, 1, 0, 0, 1, 0, 1, 1]) (porterref02_Xor_h3 N) :=
  loop_ok (s := [(0, .v .str), (0, .v .str), (3, .v .str), (0, .v (.int .i64)), (0, .v (.int .i64)), (0, .v (.int .i64)), (0, .v (.int .i64)), (0, .v (.int .i64)), (0, .v (.int .i64))]) (m := 43) (porterref02_Xor_g3 N) [11, 7, 8, 9, 10, 5, 6, 0, 1] N (fun x => (x.1, x.2.1, x.2.2.1, x.2.2.2.1)) (fun x => (x.2.2.2.2.1, x.2.2.2.2.2.1, x.2.2.2.2.2.2.1, x.2.2.2.2.2.2.2.1, x.2.2.2.2.2.2.2.2.1)) (fun i v => (i.1, i.2.1, i.2.2.1, i.2.2.2, v.1, v.2.1, v.2.2.1, v.2.2.2.1, v.2.2.2.2, ())) (fun _ => rfl) (evN_sound hb N (porterref02_Xor_t3 N) porterref02_Xor_L porterref02_Xor_body (TabOk.cons (porterref02_Xor_ok4 hb) TabOk.nil) [0, 0, 1, 0, 1, 0, 0, 1, 0, 0, 1, 0, 1, 1] _ rfl) (fun i v r K => by kernel_rfl)

noncomputable def porterref02_Xor_s1 (N : Nat) (a : (List UInt8)) (b : (List UInt8)) (out : (List UInt8)) (i : Int) (rec : (List UInt8) → Int → Option (List UInt8)) (k0 : (List UInt8) → Option (List UInt8)) : Option (List UInt8) :=
  porterref02_Xor_p2 N a b out i
  (cond (Go.Lift.inR i (List.length a))
    (cond (Go.Lift.inR i (List.length b))
      (porterref02_Xor_p3 N a b out i (Go.IntKind.wrap Go.IntKind.i64 (((UInt8.toNat (List.getD a (Int.toNat i) (0 : UInt8))) : Nat) : Int)) (Go.IntKind.wrap Go.IntKind.i64 (((UInt8.toNat (List.getD b (Int.toNat i) (0 : UInt8))) : Nat) : Int)) (0 : Int) (1 : Int) (0 : Int)
        (fun n => cond (decide (((List.length out) + (List.length (Go.Lift.toStr ([(Go.IntKind.wrap Go.IntKind.u8 n)] : List Int)))) ≤ 9223372036854775807))
          (rec (out ++ (Go.Lift.toStr ([(Go.IntKind.wrap Go.IntKind.u8 n)] : List Int))) (Go.IntKind.wrap Go.IntKind.i64 (i + (1 : Int))))
          (none)))
      (none))
    (none))
  (k0 out)

noncomputable def porterref02_Xor_p1 (N : Nat) (a : (List UInt8)) (b : (List UInt8)) (out : (List UInt8)) (i : Int) (k0 : (List UInt8) → Option (List UInt8)) : Option (List UInt8) :=
  iter (fun (v : ((List UInt8) × Int)) r => porterref02_Xor_s1 N a b v.1 v.2 (fun out i => (r (out, i))) k0) N (out, i)

noncomputable def porterref02_Xor_g1 (N : Nat) (i : ((List UInt8) × (List UInt8))) (v : ((List UInt8) × Int)) (r : ((List UInt8) × Int) → Option (List UInt8)) (K : Ex → List A → Option (List UInt8)) : Option (List UInt8) :=
  porterref02_Xor_s1 N i.1 i.2 v.1 v.2 (fun out i => (r (out, i))) (fun a0 => (K (.exit 0) (mkS [(5, .v .str)] 49 (a0, ()))))

noncomputable def porterref02_Xor_h1 (N : Nat) : Hd (List UInt8) := fun st K => (unS [(0, .v .str), (0, .v .str), (3, .v .str), (0, .v (.int .i64))] 48 (restr [6, 0, 1, 5] 0 st)).bind fun x => iter (fun v r => porterref02_Xor_g1 N ((fun x => (x.1, x.2.1)) x) v r K) N ((fun x => (x.2.2.1, x.2.2.2.1)) x)

noncomputable def porterref02_Xor_t1 (N : Nat) : Tab (List UInt8) := [([0, 0, 0, 1, 0, 1, 1], porterref02_Xor_h2 N), ([0, 1, 0, 1, 0, 0, 1, 0, 0, 1, 0, 1, 1], porterref02_Xor_h3 N)]

theorem porterref02_Xor_ok1 {N : Nat} {c : Ctx} (hb : Base Go.Proofs.Tryd.prog (porterref02_Xor_E N) c) : CodeOk Go.Proofs.Tryd.prog c (nodeAt porterref02_Xor_body [0, 1, 0, 1, 1]) (porterref02_Xor_h1 N) :=
  loop_ok (s := [(0, .v .str), (0, .v .str), (3, .v .str), (0, .v (.int .i64))]) (m := 48) (porterref02_Xor_g1 N) [6, 0, 1, 5] N (fun x => (x.1, x.2.1)) (fun x => (x.2.2.1, x.2.2.2.1)) (fun i v => (i.1, i.2, v.1, v.2, ())) (fun _ => rfl) (evN_sound hb N (porterref02_Xor_t1 N) porterref02_Xor_L porterref02_Xor_body (TabOk.cons (porterref02_Xor_ok2 hb) (TabOk.cons (porterref02_Xor_ok3 hb) TabOk.nil)) [0, 0, 1, 0, 1, 1] _ rfl) (fun i v r K => by kernel_rfl)

noncomputable def porterref02_Xor (N : Nat) (a : (List UInt8)) (b : (List UInt8)) : Option (List UInt8) :=
  porterref02_Xor_p1 N a b ([] : List UInt8) (0 : Int)
  (fun out => some out)

noncomputable def porterref02_Xor_t (N : Nat) : Tab (List UInt8) := [([0, 1, 0, 1, 1], porterref02_Xor_h1 N)]

theorem porterref02_Xor_link (N : Nat) (x : denS [(0, .v .str), (0, .v .str)]) : evFX (porterref02_Xor_E N) N (porterref02_Xor_t N) porterref02_Xor_L Go.Proofs.Tryd.f72 (mkS [(0, .v .str), (0, .v .str)] 0 x) (kRes (.v .str) 2) = porterref02_Xor N x.1 x.2.1 := by kernel_rfl

noncomputable def porterref02_Xor_res (N : Nat) : List A → Res := resOf [(0, .v .str), (0, .v .str)] (fun x => porterref02_Xor N x.1 x.2.1) (oRes (.v .str) 2)

theorem porterref02_Xor_ct (N : Nat) : Contract Go.Proofs.Tryd.prog glob 72 (porterref02_Xor_res N) :=
  Contract.of (E := porterref02_Xor_E N) (H := porterref02_Xor_t N) (L := porterref02_Xor_L) (N := N) (body := porterref02_Xor_body) (K := (kRes (.v .str) 2)) (porterref02_Xor_Eok N) Go.Proofs.Tryd.func72 (by kernel_rfl) (by decide) (fun _ hb => (TabOk.cons (porterref02_Xor_ok1 hb) TabOk.nil)) (fun x y h => by rw [porterref02_Xor_link]; exact h) (kRes_ok (s := (.v .str)) (m := 2))

abbrev porterref04_with_R : Type := (List UInt8)

noncomputable def porterref04_with_body : Code := (Go.Proofs.Tryd.f80.body).getD .skip

noncomputable def porterref04_with_L : List (List Nat × List Nat) := [([0], [1, 0]), ([0, 1], [5, 1, 0]), ([0, 0, 1, 1], [5, 1, 0]), ([0, 0, 0, 0, 0, 1, 1], [8, 5, 1, 0]), ([1, 0, 0, 0, 0, 1, 1], [5, 1, 0]), ([1, 1, 0, 0, 0, 0, 1, 1], [0, 5]), ([0, 1, 0, 0, 0, 1, 1], [5, 1, 0]), ([1, 0, 0, 0, 1, 1], [5, 1, 0]), ([0, 1, 1], [0, 5]), ([0, 1, 1, 1], [4]), ([1, 1, 1, 1], [4])]

noncomputable def porterref04_with_E (N : Nat) : Env := mkEnv tys glob [(72, porterref02_Xor_res N), (92, porterref02_Byte_res N)] [] [] [] false [] [(98, stream_blocks1_itr N), (106, hmac_framed1_itr N)]

theorem porterref04_with_Eok (N : Nat) : EnvOk Go.Proofs.Tryd.prog (porterref04_with_E N) := mkEnv_ok mixed tys_ok (FnsOk.cons (porterref02_Xor_ct N) (FnsOk.cons (porterref02_Byte_ct N) (FnsOk.nil))) (ItsOk.cons (stream_blocks1_it N) (ItsOk.cons (hmac_framed1_it N) (ItsOk.nil)))

noncomputable def porterref04_with_s1 (N : Nat) (k : (List UInt8)) (n : Int) (p : (List UInt8)) (rec : (List UInt8) → Option (List UInt8)) (k0 : (List UInt8) → Option (List UInt8)) : Option (List UInt8) :=
  cond (decide ((((List.length p) : Nat) : Int) < (64 : Int)))
  (cond (decide (((List.length p) + (List.length (Go.Lift.toStr ([(Go.IntKind.wrap Go.IntKind.u8 n)] : List Int)))) ≤ 9223372036854775807))
    (rec (p ++ (Go.Lift.toStr ([(Go.IntKind.wrap Go.IntKind.u8 n)] : List Int))))
    (none))
  (k0 p)

noncomputable def porterref04_with_p1 (N : Nat) (k : (List UInt8)) (n : Int) (p : (List UInt8)) (k0 : (List UInt8) → Option (List UInt8)) : Option (List UInt8) :=
  iter (fun (v : (List UInt8)) r => porterref04_with_s1 N k n v (fun p => (r p)) k0) N p

noncomputable def porterref04_with_g1 (N : Nat) (i : ((List UInt8) × Int)) (v : (List UInt8)) (r : (List UInt8) → Option (List UInt8)) (K : Ex → List A → Option (List UInt8)) : Option (List UInt8) :=
  porterref04_with_s1 N i.1 i.2 v (fun p => (r p)) (fun a1 => (K (.exit 0) (mkS [(0, .v .str), (4, .v .str)] 10 (i.1, a1, ()))))

noncomputable def porterref04_with_h1 (N : Nat) : Hd (List UInt8) := fun st K => (unS [(0, .v .str), (0, .v (.int .i64)), (3, .v .str)] 10 (restr [5, 1, 0] 0 st)).bind fun x => iter (fun v r => porterref04_with_g1 N ((fun x => (x.1, x.2.1)) x) v r K) N ((fun x => x.2.2.1) x)

noncomputable def porterref04_with_t1 (N : Nat) : Tab (List UInt8) := []

theorem porterref04_with_ok1 {N : Nat} {c : Ctx} (hb : Base Go.Proofs.Tryd.prog (porterref04_with_E N) c) : CodeOk Go.Proofs.Tryd.prog c (nodeAt porterref04_with_body [0, 0, 1, 1]) (porterref04_with_h1 N) :=
  loop_ok (s := [(0, .v .str), (0, .v (.int .i64)), (3, .v .str)]) (m := 10) (porterref04_with_g1 N) [5, 1, 0] N (fun x => (x.1, x.2.1)) (fun x => x.2.2.1) (fun i v => (i.1, i.2, v, ())) (fun _ => rfl) (evN_sound hb N (porterref04_with_t1 N) porterref04_with_L porterref04_with_body TabOk.nil [0, 0, 0, 1, 1] _ rfl) (fun i v r K => by kernel_rfl)

noncomputable def porterref04_with (N : Nat) (k : (List UInt8)) (n : Int) : Option (List UInt8) :=
  porterref04_with_p1 N k n ([] : List UInt8)
  (fun p => (porterref02_Xor N k p).bind fun y =>
    some y)

noncomputable def porterref04_with_t (N : Nat) : Tab (List UInt8) := [([0, 0, 1, 1], porterref04_with_h1 N)]

theorem porterref04_with_link (N : Nat) (x : denS [(0, .v .str), (0, .v (.int .i64))]) : evFX (porterref04_with_E N) N (porterref04_with_t N) porterref04_with_L Go.Proofs.Tryd.f80 (mkS [(0, .v .str), (0, .v (.int .i64))] 0 x) (kRes (.v .str) 2) = porterref04_with N x.1 x.2.1 := by kernel_rfl

noncomputable def porterref04_with_res (N : Nat) : List A → Res := resOf [(0, .v .str), (0, .v (.int .i64))] (fun x => porterref04_with N x.1 x.2.1) (oRes (.v .str) 2)

theorem porterref04_with_ct (N : Nat) : Contract Go.Proofs.Tryd.prog glob 80 (porterref04_with_res N) :=
  Contract.of (E := porterref04_with_E N) (H := porterref04_with_t N) (L := porterref04_with_L) (N := N) (body := porterref04_with_body) (K := (kRes (.v .str) 2)) (porterref04_with_Eok N) Go.Proofs.Tryd.func80 (by kernel_rfl) (by decide) (fun _ hb => (TabOk.cons (porterref04_with_ok1 hb) TabOk.nil)) (fun x y h => by rw [porterref04_with_link]; exact h) (kRes_ok (s := (.v .str)) (m := 2))

abbrev porterref04_Texts_R : Type := (List (List UInt8))

noncomputable def porterref04_Texts_body : Code := (Go.Proofs.Tryd.f60.body).getD .skip

noncomputable def porterref04_Texts_L : List (List Nat × List Nat) := [([0], [0, 1]), ([0, 1], [5, 0]), ([0, 1, 1], [4]), ([1, 1, 1], [4])]

noncomputable def porterref04_Texts_E (N : Nat) : Env := mkEnv tys glob [(80, porterref04_with_res N), (81, porterref04_key_res N), (59, porterref03_Sum_res N)] [(4, .str)] [] [] true [] [(98, stream_blocks1_itr N), (106, hmac_framed1_itr N)]

theorem porterref04_Texts_Eok (N : Nat) : EnvOk Go.Proofs.Tryd.prog (porterref04_Texts_E N) := mkEnv_ok mixed tys_ok (FnsOk.cons (porterref04_with_ct N) (FnsOk.cons (porterref04_key_ct N) (FnsOk.cons (porterref03_Sum_ct N) (FnsOk.nil)))) (ItsOk.cons (stream_blocks1_it N) (ItsOk.cons (hmac_framed1_it N) (ItsOk.nil)))

noncomputable def porterref04_Texts (N : Nat) (k : (List UInt8)) (text : (List UInt8)) : Option (List (List UInt8)) :=
  (porterref04_key N k).bind fun y =>
  (porterref04_with N y (54 : Int)).bind fun y1 =>
  cond (decide (((List.length y1) + (List.length text)) ≤ 9223372036854775807))
  ((porterref04_key N k).bind fun y2 =>
    (porterref04_with N y2 (92 : Int)).bind fun y3 =>
    (porterref03_Sum N (y1 ++ text)).bind fun y4 =>
    cond (decide (((List.length y3) + (List.length y4)) ≤ 9223372036854775807))
    (some ([(y1 ++ text), (y3 ++ y4)] : List (List UInt8)))
    (none))
  (none)

noncomputable def porterref04_Texts_t (N : Nat) : Tab (List (List UInt8)) := []

theorem porterref04_Texts_link (N : Nat) (x : denS [(0, .v .str), (0, .v .str)]) : evFX (porterref04_Texts_E N) N (porterref04_Texts_t N) porterref04_Texts_L Go.Proofs.Tryd.f60 (mkS [(0, .v .str), (0, .v .str)] 0 x) (kRes (.row .str) 2) = porterref04_Texts N x.1 x.2.1 := by kernel_rfl

noncomputable def porterref04_Texts_res (N : Nat) : List A → Res := resOf [(0, .v .str), (0, .v .str)] (fun x => porterref04_Texts N x.1 x.2.1) (oRes (.row .str) 2)

theorem porterref04_Texts_ct (N : Nat) : Contract Go.Proofs.Tryd.prog glob 60 (porterref04_Texts_res N) :=
  Contract.of (E := porterref04_Texts_E N) (H := porterref04_Texts_t N) (L := porterref04_Texts_L) (N := N) (body := porterref04_Texts_body) (K := (kRes (.row .str) 2)) (porterref04_Texts_Eok N) Go.Proofs.Tryd.func60 (by kernel_rfl) (by decide) (fun _ hb => TabOk.nil) (fun x y h => by rw [porterref04_Texts_link]; exact h) (kRes_ok (s := (.row .str)) (m := 2))

abbrev porterref04_Sum_R : Type := (List UInt8)

noncomputable def porterref04_Sum_body : Code := (Go.Proofs.Tryd.f56.body).getD .skip

noncomputable def porterref04_Sum_L : List (List Nat × List Nat) := [([0], [0, 1]), ([0, 1], [5]), ([0, 1, 1], [4]), ([1, 1, 1], [4])]

noncomputable def porterref04_Sum_E (N : Nat) : Env := mkEnv tys glob [(60, porterref04_Texts_res N), (59, porterref03_Sum_res N)] [] [] [] false [] [(98, stream_blocks1_itr N), (106, hmac_framed1_itr N)]

theorem porterref04_Sum_Eok (N : Nat) : EnvOk Go.Proofs.Tryd.prog (porterref04_Sum_E N) := mkEnv_ok mixed tys_ok (FnsOk.cons (porterref04_Texts_ct N) (FnsOk.cons (porterref03_Sum_ct N) (FnsOk.nil))) (ItsOk.cons (stream_blocks1_it N) (ItsOk.cons (hmac_framed1_it N) (ItsOk.nil)))

noncomputable def porterref04_Sum (N : Nat) (k : (List UInt8)) (text : (List UInt8)) : Option (List UInt8) :=
  (porterref04_Texts N k text).bind fun y =>
  cond (Go.Lift.inR (1 : Int) (List.length y))
  ((porterref03_Sum N (List.getD y 1 ([] : List UInt8))).bind fun y1 =>
    some y1)
  (none)

noncomputable def porterref04_Sum_t (N : Nat) : Tab (List UInt8) := []

theorem porterref04_Sum_link (N : Nat) (x : denS [(0, .v .str), (0, .v .str)]) : evFX (porterref04_Sum_E N) N (porterref04_Sum_t N) porterref04_Sum_L Go.Proofs.Tryd.f56 (mkS [(0, .v .str), (0, .v .str)] 0 x) (kRes (.v .str) 2) = porterref04_Sum N x.1 x.2.1 := by kernel_rfl

noncomputable def porterref04_Sum_res (N : Nat) : List A → Res := resOf [(0, .v .str), (0, .v .str)] (fun x => porterref04_Sum N x.1 x.2.1) (oRes (.v .str) 2)

theorem porterref04_Sum_ct (N : Nat) : Contract Go.Proofs.Tryd.prog glob 56 (porterref04_Sum_res N) :=
  Contract.of (E := porterref04_Sum_E N) (H := porterref04_Sum_t N) (L := porterref04_Sum_L) (N := N) (body := porterref04_Sum_body) (K := (kRes (.v .str) 2)) (porterref04_Sum_Eok N) Go.Proofs.Tryd.func56 (by kernel_rfl) (by decide) (fun _ hb => TabOk.nil) (fun x y h => by rw [porterref04_Sum_link]; exact h) (kRes_ok (s := (.v .str)) (m := 2))

abbrev porterref04_Parts_R : Type := (List UInt8)

noncomputable def porterref04_Parts_body : Code := (Go.Proofs.Tryd.f24.body).getD .skip

noncomputable def porterref04_Parts_L : List (List Nat × List Nat) := [([0], [0, 1]), ([0, 1], [4]), ([1, 1], [4])]

noncomputable def porterref04_Parts_E (N : Nat) : Env := mkEnv tys glob [(56, porterref04_Sum_res N), (61, porterref04_Frame_res N)] [] [] [] false [] [(98, stream_blocks1_itr N), (106, hmac_framed1_itr N)]

theorem porterref04_Parts_Eok (N : Nat) : EnvOk Go.Proofs.Tryd.prog (porterref04_Parts_E N) := mkEnv_ok mixed tys_ok (FnsOk.cons (porterref04_Sum_ct N) (FnsOk.cons (porterref04_Frame_ct N) (FnsOk.nil))) (ItsOk.cons (stream_blocks1_it N) (ItsOk.cons (hmac_framed1_it N) (ItsOk.nil)))

noncomputable def porterref04_Parts (N : Nat) (k : (List UInt8)) (l : (List (List UInt8))) : Option (List UInt8) :=
  (porterref04_Frame N l).bind fun y =>
  (porterref04_Sum N k y).bind fun y1 =>
  some y1

noncomputable def porterref04_Parts_t (N : Nat) : Tab (List UInt8) := []

theorem porterref04_Parts_link (N : Nat) (x : denS [(0, .v .str), (0, .v (.sl .str))]) : evFX (porterref04_Parts_E N) N (porterref04_Parts_t N) porterref04_Parts_L Go.Proofs.Tryd.f24 (mkS [(0, .v .str), (0, .v (.sl .str))] 0 x) (kRes (.v .str) 2) = porterref04_Parts N x.1 x.2.1 := by kernel_rfl

noncomputable def porterref04_Parts_res (N : Nat) : List A → Res := resOf [(0, .v .str), (0, .v (.sl .str))] (fun x => porterref04_Parts N x.1 x.2.1) (oRes (.v .str) 2)

theorem porterref04_Parts_ct (N : Nat) : Contract Go.Proofs.Tryd.prog glob 24 (porterref04_Parts_res N) :=
  Contract.of (E := porterref04_Parts_E N) (H := porterref04_Parts_t N) (L := porterref04_Parts_L) (N := N) (body := porterref04_Parts_body) (K := (kRes (.v .str) 2)) (porterref04_Parts_Eok N) Go.Proofs.Tryd.func24 (by kernel_rfl) (by decide) (fun _ hb => TabOk.nil) (fun x y h => by rw [porterref04_Parts_link]; exact h) (kRes_ok (s := (.v .str)) (m := 2))

abbrev porterref05_number_R : Type := (List UInt8)

noncomputable def porterref05_number_body : Code := (Go.Proofs.Tryd.f105.body).getD .skip

noncomputable def porterref05_number_L : List (List Nat × List Nat) := [([0], [0]), ([0, 1], [0, 3]), ([0, 0, 1, 1], [4, 0, 3]), ([0, 1, 0, 1, 1], [4, 0, 3]), ([0, 0, 0, 0, 1, 0, 1, 1], [6, 0, 3, 4]), ([1, 0, 0, 0, 1, 0, 1, 1], [0, 3, 4]), ([1, 1, 0, 0, 0, 1, 0, 1, 1], [3]), ([0, 0, 0, 1, 0, 0, 1, 0, 1, 1], [0, 4, 3]), ([1, 0, 0, 1, 0, 0, 1, 0, 1, 1], [4, 0, 3]), ([0, 1, 0, 0, 1, 0, 1, 1], [4, 0, 3]), ([1, 1, 0, 0, 1, 0, 1, 1], [4, 0, 3]), ([1, 0, 1, 1], [3]), ([0, 1, 1, 1], [2]), ([1, 1, 1, 1], [2])]

noncomputable def porterref05_number_E (N : Nat) : Env := mkEnv tys glob [(92, porterref02_Byte_res N)] [] [] [] false [] [(98, stream_blocks1_itr N), (106, hmac_framed1_itr N)]

theorem porterref05_number_Eok (N : Nat) : EnvOk Go.Proofs.Tryd.prog (porterref05_number_E N) := mkEnv_ok mixed tys_ok (FnsOk.cons (porterref02_Byte_ct N) (FnsOk.nil)) (ItsOk.cons (stream_blocks1_it N) (ItsOk.cons (hmac_framed1_it N) (ItsOk.nil)))

noncomputable def porterref05_number_s1 (N : Nat) (n : Int) (out : (List UInt8)) (i : Int) (rec : Int → (List UInt8) → Int → Option (List UInt8)) (k0 : (List UInt8) → Option (List UInt8)) : Option (List UInt8) :=
  cond (decide (i < (8 : Int)))
  (cond (decide (((List.length (Go.Lift.toStr ([(Go.IntKind.wrap Go.IntKind.u8 (Int.tmod n (256 : Int)))] : List Int))) + (List.length out)) ≤ 9223372036854775807))
    (rec (Go.IntKind.wrap Go.IntKind.i64 (Int.tdiv n (256 : Int))) ((Go.Lift.toStr ([(Go.IntKind.wrap Go.IntKind.u8 (Int.tmod n (256 : Int)))] : List Int)) ++ out) (Go.IntKind.wrap Go.IntKind.i64 (i + (1 : Int))))
    (none))
  (k0 out)

noncomputable def porterref05_number_p1 (N : Nat) (n : Int) (out : (List UInt8)) (i : Int) (k0 : (List UInt8) → Option (List UInt8)) : Option (List UInt8) :=
  iter (fun (v : (Int × (List UInt8) × Int)) r => porterref05_number_s1 N v.1 v.2.1 v.2.2 (fun n out i => (r (n, out, i))) k0) N (n, out, i)

noncomputable def porterref05_number_g1 (N : Nat) (i : Unit) (v : (Int × (List UInt8) × Int)) (r : (Int × (List UInt8) × Int) → Option (List UInt8)) (K : Ex → List A → Option (List UInt8)) : Option (List UInt8) :=
  porterref05_number_s1 N v.1 v.2.1 v.2.2 (fun n out i => (r (n, out, i))) (fun a0 => (K (.exit 0) (mkS [(3, .v .str)] 13 (a0, ()))))

noncomputable def porterref05_number_h1 (N : Nat) : Hd (List UInt8) := fun st K => (unS [(0, .v (.int .i64)), (2, .v .str), (0, .v (.int .i64))] 12 (restr [4, 0, 3] 0 st)).bind fun x => iter (fun v r => porterref05_number_g1 N ((fun x => ()) x) v r K) N ((fun x => (x.1, x.2.1, x.2.2.1)) x)

noncomputable def porterref05_number_t1 (N : Nat) : Tab (List UInt8) := []

theorem porterref05_number_ok1 {N : Nat} {c : Ctx} (hb : Base Go.Proofs.Tryd.prog (porterref05_number_E N) c) : CodeOk Go.Proofs.Tryd.prog c (nodeAt porterref05_number_body [0, 1, 0, 1, 1]) (porterref05_number_h1 N) :=
  loop_ok (s := [(0, .v (.int .i64)), (2, .v .str), (0, .v (.int .i64))]) (m := 12) (porterref05_number_g1 N) [4, 0, 3] N (fun x => ()) (fun x => (x.1, x.2.1, x.2.2.1)) (fun i v => (v.1, v.2.1, v.2.2, ())) (fun _ => rfl) (evN_sound hb N (porterref05_number_t1 N) porterref05_number_L porterref05_number_body TabOk.nil [0, 0, 1, 0, 1, 1] _ rfl) (fun i v r K => by kernel_rfl)

noncomputable def porterref05_number (N : Nat) (n : Int) : Option (List UInt8) :=
  porterref05_number_p1 N n ([] : List UInt8) (0 : Int)
  (fun out => some out)

noncomputable def porterref05_number_t (N : Nat) : Tab (List UInt8) := [([0, 1, 0, 1, 1], porterref05_number_h1 N)]

theorem porterref05_number_link (N : Nat) (x : denS [(0, .v (.int .i64))]) : evFX (porterref05_number_E N) N (porterref05_number_t N) porterref05_number_L Go.Proofs.Tryd.f105 (mkS [(0, .v (.int .i64))] 0 x) (kRes (.v .str) 1) = porterref05_number N x.1 := by kernel_rfl

noncomputable def porterref05_number_res (N : Nat) : List A → Res := resOf [(0, .v (.int .i64))] (fun x => porterref05_number N x.1) (oRes (.v .str) 1)

theorem porterref05_number_ct (N : Nat) : Contract Go.Proofs.Tryd.prog glob 105 (porterref05_number_res N) :=
  Contract.of (E := porterref05_number_E N) (H := porterref05_number_t N) (L := porterref05_number_L) (N := N) (body := porterref05_number_body) (K := (kRes (.v .str) 1)) (porterref05_number_Eok N) Go.Proofs.Tryd.func105 (by kernel_rfl) (by decide) (fun _ hb => (TabOk.cons (porterref05_number_ok1 hb) TabOk.nil)) (fun x y h => by rw [porterref05_number_link]; exact h) (kRes_ok (s := (.v .str)) (m := 1))

abbrev porterref05_Block_R : Type := (List UInt8)

noncomputable def porterref05_Block_body : Code := (Go.Proofs.Tryd.f93.body).getD .skip

noncomputable def porterref05_Block_L : List (List Nat × List Nat) := [([0], [2, 0, 1]), ([0, 0, 1], [8, 0, 1, 2]), ([1, 0, 1], [0, 1, 2]), ([0, 0, 1, 0, 1], [6]), ([1, 0, 1, 0, 1], [6]), ([0, 1, 1], [6]), ([1, 1, 1], [6])]

noncomputable def porterref05_Block_E (N : Nat) : Env := mkEnv tys glob [(105, porterref05_number_res N), (24, porterref04_Parts_res N)] [] [] [] false [] [(98, stream_blocks1_itr N), (106, hmac_framed1_itr N)]

theorem porterref05_Block_Eok (N : Nat) : EnvOk Go.Proofs.Tryd.prog (porterref05_Block_E N) := mkEnv_ok mixed tys_ok (FnsOk.cons (porterref05_number_ct N) (FnsOk.cons (porterref04_Parts_ct N) (FnsOk.nil))) (ItsOk.cons (stream_blocks1_it N) (ItsOk.cons (hmac_framed1_it N) (ItsOk.nil)))

noncomputable def porterref05_Block (N : Nat) (key : (List UInt8)) (nonce : (List UInt8)) (i : Int) : Option (List UInt8) :=
  cond (decide (i < (0 : Int)))
  (some ([] : List UInt8))
  ((porterref05_number N i).bind fun y =>
    (porterref04_Parts N key ([([(115 : UInt8), (116 : UInt8), (114 : UInt8), (101 : UInt8), (97 : UInt8), (109 : UInt8)] : List UInt8), nonce, y] : List (List UInt8))).bind fun y1 =>
    some y1)

noncomputable def porterref05_Block_t (N : Nat) : Tab (List UInt8) := []

theorem porterref05_Block_link (N : Nat) (x : denS [(0, .v .str), (0, .v .str), (0, .v (.int .i64))]) : evFX (porterref05_Block_E N) N (porterref05_Block_t N) porterref05_Block_L Go.Proofs.Tryd.f93 (mkS [(0, .v .str), (0, .v .str), (0, .v (.int .i64))] 0 x) (kRes (.v .str) 3) = porterref05_Block N x.1 x.2.1 x.2.2.1 := by kernel_rfl

noncomputable def porterref05_Block_res (N : Nat) : List A → Res := resOf [(0, .v .str), (0, .v .str), (0, .v (.int .i64))] (fun x => porterref05_Block N x.1 x.2.1 x.2.2.1) (oRes (.v .str) 3)

theorem porterref05_Block_ct (N : Nat) : Contract Go.Proofs.Tryd.prog glob 93 (porterref05_Block_res N) :=
  Contract.of (E := porterref05_Block_E N) (H := porterref05_Block_t N) (L := porterref05_Block_L) (N := N) (body := porterref05_Block_body) (K := (kRes (.v .str) 3)) (porterref05_Block_Eok N) Go.Proofs.Tryd.func93 (by kernel_rfl) (by decide) (fun _ hb => TabOk.nil) (fun x y h => by rw [porterref05_Block_link]; exact h) (kRes_ok (s := (.v .str)) (m := 3))

abbrev porterref05_Take_R : Type := (List UInt8)

noncomputable def porterref05_Take_body : Code := (Go.Proofs.Tryd.f73.body).getD .skip

noncomputable def porterref05_Take_L : List (List Nat × List Nat) := [([0], [2, 0, 1]), ([0, 0, 1], [10, 0, 1, 2]), ([1, 0, 1], [2, 0, 1]), ([0, 1, 0, 1], [2, 0, 1]), ([0, 1, 1], [7, 2, 0, 1]), ([0, 0, 1, 1, 1], [7, 2, 0, 1, 8]), ([0, 1, 0, 1, 1, 1], [7, 2, 0, 1, 8]), ([0, 0, 0, 0, 1, 0, 1, 1, 1], [14, 7, 0, 1, 8, 2]), ([1, 0, 0, 0, 1, 0, 1, 1, 1], [7, 0, 1, 8, 2]), ([1, 1, 0, 0, 0, 1, 0, 1, 1, 1], [2, 7]), ([0, 0, 1, 0, 0, 1, 0, 1, 1, 1], [8, 7, 2, 0, 1]), ([0, 1, 0, 0, 1, 0, 1, 1, 1], [8, 7, 2, 0, 1]), ([1, 1, 0, 0, 1, 0, 1, 1, 1], [7, 2, 0, 1, 8]), ([1, 0, 1, 1, 1], [2, 7]), ([0, 0, 1, 1, 1, 1], [24, 7, 2]), ([1, 0, 1, 1, 1, 1], [7, 2]), ([0, 0, 1, 0, 1, 1, 1, 1], [6]), ([1, 0, 1, 0, 1, 1, 1, 1], [6]), ([0, 1, 1, 1, 1, 1], [6]), ([1, 1, 1, 1, 1, 1], [6])]

noncomputable def porterref05_Take_E (N : Nat) : Env := mkEnv tys glob [(93, porterref05_Block_res N)] [] [] [] false [] [(98, stream_blocks1_itr N), (106, hmac_framed1_itr N)]

theorem porterref05_Take_Eok (N : Nat) : EnvOk Go.Proofs.Tryd.prog (porterref05_Take_E N) := mkEnv_ok mixed tys_ok (FnsOk.cons (porterref05_Block_ct N) (FnsOk.nil)) (ItsOk.cons (stream_blocks1_it N) (ItsOk.cons (hmac_framed1_it N) (ItsOk.nil)))

noncomputable def porterref05_Take_p1 (N : Nat) (key : (List UInt8)) (nonce : (List UInt8)) (n : Int) (k0 : Int → Option (List UInt8)) : Option (List UInt8) :=
  cond (decide ((65536 : Int) < n))
  (k0 (65536 : Int))
  (k0 n)

noncomputable def porterref05_Take_g1 (N : Nat) (x : denS [(0, .v .str), (0, .v .str), (0, .v (.int .i64))]) (K : Ex → List A → Option (List UInt8)) : Option (List UInt8) :=
  porterref05_Take_p1 N x.1 x.2.1 x.2.2.1 (fun a2 => (K .normal (mkS [(0, .v .str), (0, .v .str), (0, .v (.int .i64))] 25 (x.1, x.2.1, a2, ()))))

noncomputable def porterref05_Take_h1 (N : Nat) : Hd (List UInt8) := fun st K => (unS [(0, .v .str), (0, .v .str), (0, .v (.int .i64))] 25 (restr [2, 0, 1] 0 st)).bind fun x => porterref05_Take_g1 N x K

noncomputable def porterref05_Take_t1 (N : Nat) : Tab (List UInt8) := []

theorem porterref05_Take_ok1 {N : Nat} {c : Ctx} (hb : Base Go.Proofs.Tryd.prog (porterref05_Take_E N) c) : CodeOk Go.Proofs.Tryd.prog c (nodeAt porterref05_Take_body [0, 1]) (porterref05_Take_h1 N) :=
  piece_ok (s := [(0, .v .str), (0, .v .str), (0, .v (.int .i64))]) (m := 25) (g := porterref05_Take_g1 N) [2, 0, 1] (evN_sound hb N (porterref05_Take_t1 N) porterref05_Take_L porterref05_Take_body TabOk.nil [0, 1] _ rfl) (fun x K => by kernel_rfl)

noncomputable def porterref05_Take_s2 (N : Nat) (key : (List UInt8)) (nonce : (List UInt8)) (n : Int) (out : (List UInt8)) (i : Int) (rec : (List UInt8) → Int → Option (List UInt8)) (k0 : (List UInt8) → Option (List UInt8)) : Option (List UInt8) :=
  cond (decide ((((List.length out) : Nat) : Int) < n))
  ((porterref05_Block N key nonce i).bind fun y =>
    cond (decide (((List.length out) + (List.length y)) ≤ 9223372036854775807))
    (rec (out ++ y) (Go.IntKind.wrap Go.IntKind.i64 (i + (1 : Int))))
    (none))
  (k0 out)

noncomputable def porterref05_Take_p2 (N : Nat) (key : (List UInt8)) (nonce : (List UInt8)) (n : Int) (out : (List UInt8)) (i : Int) (k0 : (List UInt8) → Option (List UInt8)) : Option (List UInt8) :=
  iter (fun (v : ((List UInt8) × Int)) r => porterref05_Take_s2 N key nonce n v.1 v.2 (fun out i => (r (out, i))) k0) N (out, i)

noncomputable def porterref05_Take_g2 (N : Nat) (i : ((List UInt8) × (List UInt8) × Int)) (v : ((List UInt8) × Int)) (r : ((List UInt8) × Int) → Option (List UInt8)) (K : Ex → List A → Option (List UInt8)) : Option (List UInt8) :=
  porterref05_Take_s2 N i.1 i.2.1 i.2.2 v.1 v.2 (fun out i => (r (out, i))) (fun a1 => (K (.exit 0) (mkS [(2, .v (.int .i64)), (4, .v .str)] 20 (i.2.2, a1, ()))))

noncomputable def porterref05_Take_h2 (N : Nat) : Hd (List UInt8) := fun st K => (unS [(0, .v .str), (0, .v .str), (0, .v (.int .i64)), (4, .v .str), (0, .v (.int .i64))] 19 (restr [7, 2, 0, 1, 8] 0 st)).bind fun x => iter (fun v r => porterref05_Take_g2 N ((fun x => (x.1, x.2.1, x.2.2.1)) x) v r K) N ((fun x => (x.2.2.2.1, x.2.2.2.2.1)) x)

noncomputable def porterref05_Take_t2 (N : Nat) : Tab (List UInt8) := []

theorem porterref05_Take_ok2 {N : Nat} {c : Ctx} (hb : Base Go.Proofs.Tryd.prog (porterref05_Take_E N) c) : CodeOk Go.Proofs.Tryd.prog c (nodeAt porterref05_Take_body [0, 1, 0, 1, 1, 1]) (porterref05_Take_h2 N) :=
  loop_ok (s := [(0, .v .str), (0, .v .str), (0, .v (.int .i64)), (4, .v .str), (0, .v (.int .i64))]) (m := 19) (porterref05_Take_g2 N) [7, 2, 0, 1, 8] N (fun x => (x.1, x.2.1, x.2.2.1)) (fun x => (x.2.2.2.1, x.2.2.2.2.1)) (fun i v => (i.1, i.2.1, i.2.2, v.1, v.2, ())) (fun _ => rfl) (evN_sound hb N (porterref05_Take_t2 N) porterref05_Take_L porterref05_Take_body TabOk.nil [0, 0, 1, 0, 1, 1, 1] _ rfl) (fun i v r K => by kernel_rfl)

noncomputable def porterref05_Take (N : Nat) (key : (List UInt8)) (nonce : (List UInt8)) (n : Int) : Option (List UInt8) :=
  porterref05_Take_p1 N key nonce n
  (fun n1 => porterref05_Take_p2 N key nonce n1 ([] : List UInt8) (0 : Int)
    (fun out => cond (decide (n1 < (1 : Int)))
      (some ([] : List UInt8))
      (cond (decide (((0 : Int) ≤ n1) ∧ (n1 ≤ (((List.length out) : Nat) : Int))))
        (some (Go.Lift.cut out 0 (Int.toNat n1)))
        (none))))

noncomputable def porterref05_Take_t (N : Nat) : Tab (List UInt8) := [([0, 1], porterref05_Take_h1 N), ([0, 1, 0, 1, 1, 1], porterref05_Take_h2 N)]

theorem porterref05_Take_link (N : Nat) (x : denS [(0, .v .str), (0, .v .str), (0, .v (.int .i64))]) : evFX (porterref05_Take_E N) N (porterref05_Take_t N) porterref05_Take_L Go.Proofs.Tryd.f73 (mkS [(0, .v .str), (0, .v .str), (0, .v (.int .i64))] 0 x) (kRes (.v .str) 3) = porterref05_Take N x.1 x.2.1 x.2.2.1 := by kernel_rfl

noncomputable def porterref05_Take_res (N : Nat) : List A → Res := resOf [(0, .v .str), (0, .v .str), (0, .v (.int .i64))] (fun x => porterref05_Take N x.1 x.2.1 x.2.2.1) (oRes (.v .str) 3)

theorem porterref05_Take_ct (N : Nat) : Contract Go.Proofs.Tryd.prog glob 73 (porterref05_Take_res N) :=
  Contract.of (E := porterref05_Take_E N) (H := porterref05_Take_t N) (L := porterref05_Take_L) (N := N) (body := porterref05_Take_body) (K := (kRes (.v .str) 3)) (porterref05_Take_Eok N) Go.Proofs.Tryd.func73 (by kernel_rfl) (by decide) (fun _ hb => (TabOk.cons (porterref05_Take_ok1 hb) (TabOk.cons (porterref05_Take_ok2 hb) TabOk.nil))) (fun x y h => by rw [porterref05_Take_link]; exact h) (kRes_ok (s := (.v .str)) (m := 3))

abbrev porterref05_Mix_R : Type := (List UInt8)

noncomputable def porterref05_Mix_body : Code := (Go.Proofs.Tryd.f55.body).getD .skip

noncomputable def porterref05_Mix_L : List (List Nat × List Nat) := [([0], [2, 0, 1]), ([0, 0, 1], [9, 2, 0, 1]), ([1, 0, 1], [2, 0, 1]), ([0, 0, 1, 0, 1], [6]), ([1, 0, 1, 0, 1], [6]), ([0, 1, 1], [6]), ([1, 1, 1], [6])]

noncomputable def porterref05_Mix_E (N : Nat) : Env := mkEnv tys glob [(73, porterref05_Take_res N), (72, porterref02_Xor_res N)] [] [] [] false [] [(98, stream_blocks1_itr N), (106, hmac_framed1_itr N)]

theorem porterref05_Mix_Eok (N : Nat) : EnvOk Go.Proofs.Tryd.prog (porterref05_Mix_E N) := mkEnv_ok mixed tys_ok (FnsOk.cons (porterref05_Take_ct N) (FnsOk.cons (porterref02_Xor_ct N) (FnsOk.nil))) (ItsOk.cons (stream_blocks1_it N) (ItsOk.cons (hmac_framed1_it N) (ItsOk.nil)))

noncomputable def porterref05_Mix (N : Nat) (key : (List UInt8)) (nonce : (List UInt8)) (text : (List UInt8)) : Option (List UInt8) :=
  cond (decide ((65536 : Int) < (((List.length text) : Nat) : Int)))
  (some ([] : List UInt8))
  ((porterref05_Take N key nonce (((List.length text) : Nat) : Int)).bind fun y =>
    (porterref02_Xor N text y).bind fun y1 =>
    some y1)

noncomputable def porterref05_Mix_t (N : Nat) : Tab (List UInt8) := []

theorem porterref05_Mix_link (N : Nat) (x : denS [(0, .v .str), (0, .v .str), (0, .v .str)]) : evFX (porterref05_Mix_E N) N (porterref05_Mix_t N) porterref05_Mix_L Go.Proofs.Tryd.f55 (mkS [(0, .v .str), (0, .v .str), (0, .v .str)] 0 x) (kRes (.v .str) 3) = porterref05_Mix N x.1 x.2.1 x.2.2.1 := by kernel_rfl

noncomputable def porterref05_Mix_res (N : Nat) : List A → Res := resOf [(0, .v .str), (0, .v .str), (0, .v .str)] (fun x => porterref05_Mix N x.1 x.2.1 x.2.2.1) (oRes (.v .str) 3)

theorem porterref05_Mix_ct (N : Nat) : Contract Go.Proofs.Tryd.prog glob 55 (porterref05_Mix_res N) :=
  Contract.of (E := porterref05_Mix_E N) (H := porterref05_Mix_t N) (L := porterref05_Mix_L) (N := N) (body := porterref05_Mix_body) (K := (kRes (.v .str) 3)) (porterref05_Mix_Eok N) Go.Proofs.Tryd.func55 (by kernel_rfl) (by decide) (fun _ hb => TabOk.nil) (fun x y h => by rw [porterref05_Mix_link]; exact h) (kRes_ok (s := (.v .str)) (m := 3))

abbrev porterref06_Seal_R : Type := ((List UInt8) × Int × Unit)

noncomputable def porterref06_Seal_body : Code := (Go.Proofs.Tryd.f16.body).getD .skip

noncomputable def porterref06_Seal_L : List (List Nat × List Nat) := [([0], [1, 2, 0]), ([0, 0, 1], [11, 2, 1, 0]), ([1, 0, 1], [2, 1, 0]), ([0, 0, 1, 0, 1], [6, 7]), ([1, 0, 1, 0, 1], [6, 7]), ([0, 0, 1, 1], [14, 1, 0, 2]), ([1, 0, 1, 1], [1, 0, 2]), ([0, 0, 1, 0, 1, 1], [6, 7]), ([1, 0, 1, 0, 1, 1], [6, 7]), ([0, 1, 1, 1], [8, 0]), ([0, 1, 1, 1, 1], [6, 7]), ([1, 1, 1, 1, 1], [6, 7])]

noncomputable def porterref06_Seal_E (N : Nat) : Env := mkEnv tys glob [(55, porterref05_Mix_res N), (24, porterref04_Parts_res N), (56, porterref04_Sum_res N)] [] [] [] false [] [(98, stream_blocks1_itr N), (106, hmac_framed1_itr N)]

theorem porterref06_Seal_Eok (N : Nat) : EnvOk Go.Proofs.Tryd.prog (porterref06_Seal_E N) := mkEnv_ok mixed tys_ok (FnsOk.cons (porterref05_Mix_ct N) (FnsOk.cons (porterref04_Parts_ct N) (FnsOk.cons (porterref04_Sum_ct N) (FnsOk.nil)))) (ItsOk.cons (stream_blocks1_it N) (ItsOk.cons (hmac_framed1_it N) (ItsOk.nil)))

noncomputable def porterref06_Seal (N : Nat) (key : (List UInt8)) (nonce : (List UInt8)) (text : (List UInt8)) : Option ((List UInt8) × Int × Unit) :=
  cond ((((List.length nonce) : Nat) : Int) != (16 : Int))
  (some (([] : List UInt8), ((7 : Int), ())))
  (cond (decide ((4096 : Int) < (((List.length text) : Nat) : Int)))
    (some (([] : List UInt8), ((3 : Int), ())))
    ((porterref04_Parts N key ([([(104 : UInt8), (105 : UInt8), (100 : UInt8), (101 : UInt8)] : List UInt8)] : List (List UInt8))).bind fun y =>
      (porterref05_Mix N y nonce text).bind fun y1 =>
      cond (decide (((List.length nonce) + (List.length y1)) ≤ 9223372036854775807))
      ((porterref04_Parts N key ([([(116 : UInt8), (97 : UInt8), (103 : UInt8)] : List UInt8)] : List (List UInt8))).bind fun y2 =>
        (porterref04_Sum N y2 (nonce ++ y1)).bind fun y3 =>
        cond (decide (((List.length (nonce ++ y1)) + (List.length y3)) ≤ 9223372036854775807))
        (some (((nonce ++ y1) ++ y3), ((0 : Int), ())))
        (none))
      (none)))

noncomputable def porterref06_Seal_t (N : Nat) : Tab ((List UInt8) × Int × Unit) := []

theorem porterref06_Seal_link (N : Nat) (x : denS [(0, .v .str), (0, .v .str), (0, .v .str)]) : evFX (porterref06_Seal_E N) N (porterref06_Seal_t N) porterref06_Seal_L Go.Proofs.Tryd.f16 (mkS [(0, .v .str), (0, .v .str), (0, .v .str)] 0 x) (kRes (.tup [.str, (.int .i64)]) 3) = porterref06_Seal N x.1 x.2.1 x.2.2.1 := by kernel_rfl

noncomputable def porterref06_Seal_res (N : Nat) : List A → Res := resOf [(0, .v .str), (0, .v .str), (0, .v .str)] (fun x => porterref06_Seal N x.1 x.2.1 x.2.2.1) (oRes (.tup [.str, (.int .i64)]) 3)

theorem porterref06_Seal_ct (N : Nat) : Contract Go.Proofs.Tryd.prog glob 16 (porterref06_Seal_res N) :=
  Contract.of (E := porterref06_Seal_E N) (H := porterref06_Seal_t N) (L := porterref06_Seal_L) (N := N) (body := porterref06_Seal_body) (K := (kRes (.tup [.str, (.int .i64)]) 3)) (porterref06_Seal_Eok N) Go.Proofs.Tryd.func16 (by kernel_rfl) (by decide) (fun _ hb => TabOk.nil) (fun x y h => by rw [porterref06_Seal_link]; exact h) (kRes_ok (s := (.tup [.str, (.int .i64)])) (m := 3))

abbrev porterlaw06_BoxSeals_R : Type := Bool

noncomputable def porterlaw06_BoxSeals_body : Code := (Go.Proofs.Tryd.f3.body).getD .skip

noncomputable def porterlaw06_BoxSeals_L : List (List Nat × List Nat) := [([0], [0, 2, 1]), ([0, 0, 1], [28, 0, 1, 2]), ([1, 0, 1], [0, 1, 2]), ([0, 0, 1, 0, 1], [6]), ([1, 0, 1, 0, 1], [6]), ([0, 1, 1], [0, 1, 2, 7, 8]), ([0, 1, 1, 1], [7, 9, 8, 10]), ([0, 1, 1, 1, 1], [6]), ([1, 1, 1, 1, 1], [6])]

noncomputable def porterlaw06_BoxSeals_E (N : Nat) : Env := mkEnv tys glob [(16, porterref06_Seal_res N), (14, porterlaw06_works_res N), (15, box_Seal_res N)] [] [] [] false [] [(98, stream_blocks1_itr N), (106, hmac_framed1_itr N)]

theorem porterlaw06_BoxSeals_Eok (N : Nat) : EnvOk Go.Proofs.Tryd.prog (porterlaw06_BoxSeals_E N) := mkEnv_ok mixed tys_ok (FnsOk.cons (porterref06_Seal_ct N) (FnsOk.cons (porterlaw06_works_ct N) (FnsOk.cons (box_Seal_ct N) (FnsOk.nil)))) (ItsOk.cons (stream_blocks1_it N) (ItsOk.cons (hmac_framed1_it N) (ItsOk.nil)))

noncomputable def porterlaw06_BoxSeals_p2 (N : Nat) (key : (List UInt8)) (nonce : (List UInt8)) (text : (List UInt8)) (k0 : Bool → Option Bool) : Option Bool :=
  cond (decide ((100 : Int) < (((List.length key) : Nat) : Int)))
  (k0 true)
  (cond (decide ((200 : Int) < (((List.length text) : Nat) : Int)))
    (cond (decide ((((List.length text) : Nat) : Int) ≤ (4096 : Int)))
      (k0 true)
      (k0 (decide ((4200 : Int) < (((List.length text) : Nat) : Int)))))
    (k0 (decide ((4200 : Int) < (((List.length text) : Nat) : Int)))))

noncomputable def porterlaw06_BoxSeals_g2 (N : Nat) (x : denS [(0, .v .str), (0, .v .str), (0, .v .str)]) (K : Ex → List A → Option Bool) : Option Bool :=
  porterlaw06_BoxSeals_p2 N x.1 x.2.1 x.2.2.1 (fun a3 => (K .normal (mkS [(0, .v .str), (0, .v .str), (0, .v .str), (25, .v .bool)] 26 (x.1, x.2.1, x.2.2.1, a3, ()))))

noncomputable def porterlaw06_BoxSeals_h2 (N : Nat) : Hd Bool := fun st K => (unS [(0, .v .str), (0, .v .str), (0, .v .str)] 52 (restr [0, 2, 1] 0 st)).bind fun x => porterlaw06_BoxSeals_g2 N x K

noncomputable def porterlaw06_BoxSeals_t2 (N : Nat) : Tab Bool := []

theorem porterlaw06_BoxSeals_ok2 {N : Nat} {c : Ctx} (hb : Base Go.Proofs.Tryd.prog (porterlaw06_BoxSeals_E N) c) : CodeOk Go.Proofs.Tryd.prog c (nodeAt porterlaw06_BoxSeals_body [0, 0, 1]) (porterlaw06_BoxSeals_h2 N) :=
  piece_ok (s := [(0, .v .str), (0, .v .str), (0, .v .str)]) (m := 52) (g := porterlaw06_BoxSeals_g2 N) [0, 2, 1] (evN_sound hb N (porterlaw06_BoxSeals_t2 N) porterlaw06_BoxSeals_L porterlaw06_BoxSeals_body TabOk.nil [0, 0, 1] _ rfl) (fun x K => by kernel_rfl)

noncomputable def porterlaw06_BoxSeals_p1 (N : Nat) (key : (List UInt8)) (nonce : (List UInt8)) (text : (List UInt8)) (k0 : Bool → Option Bool) (k1 : Option Bool) : Option Bool :=
  porterlaw06_BoxSeals_p2 N key nonce text
  (fun x28 => cond x28
    ((porterlaw06_works N).bind fun y =>
      k0 y)
    (k1))

noncomputable def porterlaw06_BoxSeals_g1 (N : Nat) (x : denS [(0, .v .str), (0, .v .str), (0, .v .str)]) (K : Ex → List A → Option Bool) : Option Bool :=
  porterlaw06_BoxSeals_p1 N x.1 x.2.1 x.2.2.1 (fun a0 => (K .ret (mkS [(6, .v .bool)] 48 (a0, ())))) (K .normal (mkS [(0, .v .str), (0, .v .str), (0, .v .str)] 52 (x.1, x.2.1, x.2.2.1, ())))

noncomputable def porterlaw06_BoxSeals_h1 (N : Nat) : Hd Bool := fun st K => (unS [(0, .v .str), (0, .v .str), (0, .v .str)] 52 (restr [0, 2, 1] 0 st)).bind fun x => porterlaw06_BoxSeals_g1 N x K

noncomputable def porterlaw06_BoxSeals_t1 (N : Nat) : Tab Bool := [([0, 0, 1], porterlaw06_BoxSeals_h2 N)]

theorem porterlaw06_BoxSeals_ok1 {N : Nat} {c : Ctx} (hb : Base Go.Proofs.Tryd.prog (porterlaw06_BoxSeals_E N) c) : CodeOk Go.Proofs.Tryd.prog c (nodeAt porterlaw06_BoxSeals_body [0, 1]) (porterlaw06_BoxSeals_h1 N) :=
  piece_ok (s := [(0, .v .str), (0, .v .str), (0, .v .str)]) (m := 52) (g := porterlaw06_BoxSeals_g1 N) [0, 2, 1] (evN_sound hb N (porterlaw06_BoxSeals_t1 N) porterlaw06_BoxSeals_L porterlaw06_BoxSeals_body (TabOk.cons (porterlaw06_BoxSeals_ok2 hb) TabOk.nil) [0, 1] _ rfl) (fun x K => by kernel_rfl)

noncomputable def porterlaw06_BoxSeals (N : Nat) (key : (List UInt8)) (nonce : (List UInt8)) (text : (List UInt8)) : Option Bool :=
  porterlaw06_BoxSeals_p1 N key nonce text
  (fun x6 => some x6)
  ((box_Seal N key nonce text).bind fun y =>
    (porterref06_Seal N key nonce text).bind fun y1 =>
    cond (y.1 == y1.1)
    (cond (y.2.1 == y1.2.1)
      ((porterlaw06_works N).bind fun y2 =>
        some y2)
      (some false))
    (some false))

noncomputable def porterlaw06_BoxSeals_t (N : Nat) : Tab Bool := [([0, 1], porterlaw06_BoxSeals_h1 N)]

theorem porterlaw06_BoxSeals_link (N : Nat) (x : denS [(0, .v .str), (0, .v .str), (0, .v .str)]) : evFX (porterlaw06_BoxSeals_E N) N (porterlaw06_BoxSeals_t N) porterlaw06_BoxSeals_L Go.Proofs.Tryd.f3 (mkS [(0, .v .str), (0, .v .str), (0, .v .str)] 0 x) (kRes (.v .bool) 3) = porterlaw06_BoxSeals N x.1 x.2.1 x.2.2.1 := by kernel_rfl

noncomputable def porterlaw06_BoxSeals_res (N : Nat) : List A → Res := resOf [(0, .v .str), (0, .v .str), (0, .v .str)] (fun x => porterlaw06_BoxSeals N x.1 x.2.1 x.2.2.1) (oRes (.v .bool) 3)

theorem porterlaw06_BoxSeals_ct (N : Nat) : Contract Go.Proofs.Tryd.prog glob 3 (porterlaw06_BoxSeals_res N) :=
  Contract.of (E := porterlaw06_BoxSeals_E N) (H := porterlaw06_BoxSeals_t N) (L := porterlaw06_BoxSeals_L) (N := N) (body := porterlaw06_BoxSeals_body) (K := (kRes (.v .bool) 3)) (porterlaw06_BoxSeals_Eok N) Go.Proofs.Tryd.func3 (by kernel_rfl) (by decide) (fun _ hb => (TabOk.cons (porterlaw06_BoxSeals_ok1 hb) TabOk.nil)) (fun x y h => by rw [porterlaw06_BoxSeals_link]; exact h) (kRes_ok (s := (.v .bool)) (m := 3))

abbrev porterref06_Open_R : Type := ((List UInt8) × Int × Unit)

noncomputable def porterref06_Open_body : Code := (Go.Proofs.Tryd.f18.body).getD .skip

noncomputable def porterref06_Open_L : List (List Nat × List Nat) := [([0], [1, 0]), ([0, 0, 1], [12, 1, 0]), ([1, 0, 1], [1, 0]), ([0, 0, 1, 0, 1], [4, 5]), ([1, 0, 1, 0, 1], [4, 5]), ([0, 0, 1, 1], [15, 1, 0]), ([1, 0, 1, 1], [1, 0]), ([0, 0, 1, 0, 1, 1], [4, 5]), ([1, 0, 1, 0, 1, 1], [4, 5]), ([0, 1, 1, 1], [0, 1, 6]), ([0, 1, 1, 1, 1], [0, 1, 7]), ([0, 1, 1, 1, 1, 1], [8, 1, 7]), ([0, 0, 1, 1, 1, 1, 1, 1], [38, 7]), ([1, 0, 1, 1, 1, 1, 1, 1], [7]), ([0, 0, 1, 0, 1, 1, 1, 1, 1, 1], [4, 5]), ([1, 0, 1, 0, 1, 1, 1, 1, 1, 1], [4, 5]), ([0, 1, 1, 1, 1, 1, 1, 1], [4, 5]), ([1, 1, 1, 1, 1, 1, 1, 1], [4, 5])]

noncomputable def porterref06_Open_E (N : Nat) : Env := mkEnv tys glob [(16, porterref06_Seal_res N), (55, porterref05_Mix_res N), (24, porterref04_Parts_res N)] [] [] [] false [] [(98, stream_blocks1_itr N), (106, hmac_framed1_itr N)]

theorem porterref06_Open_Eok (N : Nat) : EnvOk Go.Proofs.Tryd.prog (porterref06_Open_E N) := mkEnv_ok mixed tys_ok (FnsOk.cons (porterref06_Seal_ct N) (FnsOk.cons (porterref05_Mix_ct N) (FnsOk.cons (porterref04_Parts_ct N) (FnsOk.nil)))) (ItsOk.cons (stream_blocks1_it N) (ItsOk.cons (hmac_framed1_it N) (ItsOk.nil)))

noncomputable def porterref06_Open (N : Nat) (key : (List UInt8)) (s : (List UInt8)) : Option ((List UInt8) × Int × Unit) :=
  cond (decide ((((List.length s) : Nat) : Int) < (48 : Int)))
  (some (([] : List UInt8), ((1 : Int), ())))
  (cond (decide ((4144 : Int) < (((List.length s) : Nat) : Int)))
    (some (([] : List UInt8), ((3 : Int), ())))
    ((porterref04_Parts N key ([([(104 : UInt8), (105 : UInt8), (100 : UInt8), (101 : UInt8)] : List UInt8)] : List (List UInt8))).bind fun y =>
      cond (decide (((0 : Int) ≤ (16 : Int)) ∧ ((16 : Int) ≤ (((List.length s) : Nat) : Int))))
      (cond (decide (((0 : Int) ≤ (Go.IntKind.wrap Go.IntKind.i64 ((((List.length s) : Nat) : Int) - (32 : Int)))) ∧ ((Go.IntKind.wrap Go.IntKind.i64 ((((List.length s) : Nat) : Int) - (32 : Int))) ≤ (((List.length s) : Nat) : Int))))
        (cond (decide (((0 : Int) ≤ (16 : Int)) ∧ ((16 : Int) ≤ (Go.IntKind.wrap Go.IntKind.i64 ((((List.length s) : Nat) : Int) - (32 : Int))))))
          ((porterref05_Mix N y (Go.Lift.cut s 0 16) (Go.Lift.cut s 16 (Int.toNat (Go.IntKind.wrap Go.IntKind.i64 ((((List.length s) : Nat) : Int) - (32 : Int)))))).bind fun y1 =>
            cond (decide (((0 : Int) ≤ (16 : Int)) ∧ ((16 : Int) ≤ (((List.length s) : Nat) : Int))))
            ((porterref06_Seal N key (Go.Lift.cut s 0 16) y1).bind fun y2 =>
              cond (!(y2.1 == s))
              (some (([] : List UInt8), ((8 : Int), ())))
              (some (y1, ((0 : Int), ()))))
            (none))
          (none))
        (none))
      (none)))

noncomputable def porterref06_Open_t (N : Nat) : Tab ((List UInt8) × Int × Unit) := []

theorem porterref06_Open_link (N : Nat) (x : denS [(0, .v .str), (0, .v .str)]) : evFX (porterref06_Open_E N) N (porterref06_Open_t N) porterref06_Open_L Go.Proofs.Tryd.f18 (mkS [(0, .v .str), (0, .v .str)] 0 x) (kRes (.tup [.str, (.int .i64)]) 2) = porterref06_Open N x.1 x.2.1 := by kernel_rfl

noncomputable def porterref06_Open_res (N : Nat) : List A → Res := resOf [(0, .v .str), (0, .v .str)] (fun x => porterref06_Open N x.1 x.2.1) (oRes (.tup [.str, (.int .i64)]) 2)

theorem porterref06_Open_ct (N : Nat) : Contract Go.Proofs.Tryd.prog glob 18 (porterref06_Open_res N) :=
  Contract.of (E := porterref06_Open_E N) (H := porterref06_Open_t N) (L := porterref06_Open_L) (N := N) (body := porterref06_Open_body) (K := (kRes (.tup [.str, (.int .i64)]) 2)) (porterref06_Open_Eok N) Go.Proofs.Tryd.func18 (by kernel_rfl) (by decide) (fun _ hb => TabOk.nil) (fun x y h => by rw [porterref06_Open_link]; exact h) (kRes_ok (s := (.tup [.str, (.int .i64)])) (m := 2))

abbrev porterlaw06_BoxOpens_R : Type := Bool

noncomputable def porterlaw06_BoxOpens_body : Code := (Go.Proofs.Tryd.f4.body).getD .skip

noncomputable def porterlaw06_BoxOpens_L : List (List Nat × List Nat) := [([0], [0, 1]), ([0, 0, 1], [27, 0, 1]), ([1, 0, 1], [0, 1]), ([0, 0, 1, 0, 1], [4]), ([1, 0, 1, 0, 1], [4]), ([0, 1, 1], [0, 1, 5, 6]), ([0, 1, 1, 1], [1, 5, 7, 6, 8]), ([0, 1, 1, 1, 1], [5, 7, 6, 8, 1, 9]), ([0, 1, 1, 1, 1, 1], [4]), ([1, 1, 1, 1, 1, 1], [4])]

noncomputable def porterlaw06_BoxOpens_E (N : Nat) : Env := mkEnv tys glob [(18, porterref06_Open_res N), (14, porterlaw06_works_res N), (17, box_Open_res N), (19, box_Nonce_res N)] [] [] [] false [] [(98, stream_blocks1_itr N), (106, hmac_framed1_itr N)]

theorem porterlaw06_BoxOpens_Eok (N : Nat) : EnvOk Go.Proofs.Tryd.prog (porterlaw06_BoxOpens_E N) := mkEnv_ok mixed tys_ok (FnsOk.cons (porterref06_Open_ct N) (FnsOk.cons (porterlaw06_works_ct N) (FnsOk.cons (box_Open_ct N) (FnsOk.cons (box_Nonce_ct N) (FnsOk.nil))))) (ItsOk.cons (stream_blocks1_it N) (ItsOk.cons (hmac_framed1_it N) (ItsOk.nil)))

noncomputable def porterlaw06_BoxOpens_p2 (N : Nat) (key : (List UInt8)) (s : (List UInt8)) (k0 : Bool → Option Bool) : Option Bool :=
  cond (decide ((100 : Int) < (((List.length key) : Nat) : Int)))
  (k0 true)
  (cond (decide ((300 : Int) < (((List.length s) : Nat) : Int)))
    (cond (decide ((((List.length s) : Nat) : Int) ≤ (4144 : Int)))
      (k0 true)
      (k0 (decide ((4300 : Int) < (((List.length s) : Nat) : Int)))))
    (k0 (decide ((4300 : Int) < (((List.length s) : Nat) : Int)))))

noncomputable def porterlaw06_BoxOpens_g2 (N : Nat) (x : denS [(0, .v .str), (0, .v .str)]) (K : Ex → List A → Option Bool) : Option Bool :=
  porterlaw06_BoxOpens_p2 N x.1 x.2.1 (fun a2 => (K .normal (mkS [(0, .v .str), (0, .v .str), (25, .v .bool)] 46 (x.1, x.2.1, a2, ()))))

noncomputable def porterlaw06_BoxOpens_h2 (N : Nat) : Hd Bool := fun st K => (unS [(0, .v .str), (0, .v .str)] 72 (restr [0, 1] 0 st)).bind fun x => porterlaw06_BoxOpens_g2 N x K

noncomputable def porterlaw06_BoxOpens_t2 (N : Nat) : Tab Bool := []

theorem porterlaw06_BoxOpens_ok2 {N : Nat} {c : Ctx} (hb : Base Go.Proofs.Tryd.prog (porterlaw06_BoxOpens_E N) c) : CodeOk Go.Proofs.Tryd.prog c (nodeAt porterlaw06_BoxOpens_body [0, 0, 1]) (porterlaw06_BoxOpens_h2 N) :=
  piece_ok (s := [(0, .v .str), (0, .v .str)]) (m := 72) (g := porterlaw06_BoxOpens_g2 N) [0, 1] (evN_sound hb N (porterlaw06_BoxOpens_t2 N) porterlaw06_BoxOpens_L porterlaw06_BoxOpens_body TabOk.nil [0, 0, 1] _ rfl) (fun x K => by kernel_rfl)

noncomputable def porterlaw06_BoxOpens_p1 (N : Nat) (key : (List UInt8)) (s : (List UInt8)) (k0 : Bool → Option Bool) (k1 : Option Bool) : Option Bool :=
  porterlaw06_BoxOpens_p2 N key s
  (fun x27 => cond x27
    ((porterlaw06_works N).bind fun y =>
      k0 y)
    (k1))

noncomputable def porterlaw06_BoxOpens_g1 (N : Nat) (x : denS [(0, .v .str), (0, .v .str)]) (K : Ex → List A → Option Bool) : Option Bool :=
  porterlaw06_BoxOpens_p1 N x.1 x.2.1 (fun a0 => (K .ret (mkS [(4, .v .bool)] 69 (a0, ())))) (K .normal (mkS [(0, .v .str), (0, .v .str)] 72 (x.1, x.2.1, ())))

noncomputable def porterlaw06_BoxOpens_h1 (N : Nat) : Hd Bool := fun st K => (unS [(0, .v .str), (0, .v .str)] 72 (restr [0, 1] 0 st)).bind fun x => porterlaw06_BoxOpens_g1 N x K

noncomputable def porterlaw06_BoxOpens_t1 (N : Nat) : Tab Bool := [([0, 0, 1], porterlaw06_BoxOpens_h2 N)]

theorem porterlaw06_BoxOpens_ok1 {N : Nat} {c : Ctx} (hb : Base Go.Proofs.Tryd.prog (porterlaw06_BoxOpens_E N) c) : CodeOk Go.Proofs.Tryd.prog c (nodeAt porterlaw06_BoxOpens_body [0, 1]) (porterlaw06_BoxOpens_h1 N) :=
  piece_ok (s := [(0, .v .str), (0, .v .str)]) (m := 72) (g := porterlaw06_BoxOpens_g1 N) [0, 1] (evN_sound hb N (porterlaw06_BoxOpens_t1 N) porterlaw06_BoxOpens_L porterlaw06_BoxOpens_body (TabOk.cons (porterlaw06_BoxOpens_ok2 hb) TabOk.nil) [0, 1] _ rfl) (fun x K => by kernel_rfl)

noncomputable def porterlaw06_BoxOpens (N : Nat) (key : (List UInt8)) (s : (List UInt8)) : Option Bool :=
  porterlaw06_BoxOpens_p1 N key s
  (fun x4 => some x4)
  ((box_Open N key s).bind fun y =>
    (porterref06_Open N key s).bind fun y1 =>
    (box_Nonce N s).bind fun y2 =>
    cond (y.1 == y1.1)
    (cond (y.2.1 == y1.2.1)
      (cond (decide ((((List.length s) : Nat) : Int) < (16 : Int)))
        (cond (y2 == ([] : List UInt8))
          ((porterlaw06_works N).bind fun y3 =>
            some y3)
          (cond (decide ((16 : Int) ≤ (((List.length s) : Nat) : Int)))
            (cond (decide (((0 : Int) ≤ (16 : Int)) ∧ ((16 : Int) ≤ (((List.length s) : Nat) : Int))))
              (cond (y2 == (Go.Lift.cut s 0 16))
                ((porterlaw06_works N).bind fun y4 =>
                  some y4)
                (some false))
              (none))
            (some false)))
        (cond (decide ((16 : Int) ≤ (((List.length s) : Nat) : Int)))
          (cond (decide (((0 : Int) ≤ (16 : Int)) ∧ ((16 : Int) ≤ (((List.length s) : Nat) : Int))))
            (cond (y2 == (Go.Lift.cut s 0 16))
              ((porterlaw06_works N).bind fun y5 =>
                some y5)
              (some false))
            (none))
          (some false)))
      (some false))
    (some false))

noncomputable def porterlaw06_BoxOpens_t (N : Nat) : Tab Bool := [([0, 1], porterlaw06_BoxOpens_h1 N)]

theorem porterlaw06_BoxOpens_link (N : Nat) (x : denS [(0, .v .str), (0, .v .str)]) : evFX (porterlaw06_BoxOpens_E N) N (porterlaw06_BoxOpens_t N) porterlaw06_BoxOpens_L Go.Proofs.Tryd.f4 (mkS [(0, .v .str), (0, .v .str)] 0 x) (kRes (.v .bool) 2) = porterlaw06_BoxOpens N x.1 x.2.1 := by kernel_rfl

noncomputable def porterlaw06_BoxOpens_res (N : Nat) : List A → Res := resOf [(0, .v .str), (0, .v .str)] (fun x => porterlaw06_BoxOpens N x.1 x.2.1) (oRes (.v .bool) 2)

theorem porterlaw06_BoxOpens_ct (N : Nat) : Contract Go.Proofs.Tryd.prog glob 4 (porterlaw06_BoxOpens_res N) :=
  Contract.of (E := porterlaw06_BoxOpens_E N) (H := porterlaw06_BoxOpens_t N) (L := porterlaw06_BoxOpens_L) (N := N) (body := porterlaw06_BoxOpens_body) (K := (kRes (.v .bool) 2)) (porterlaw06_BoxOpens_Eok N) Go.Proofs.Tryd.func4 (by kernel_rfl) (by decide) (fun _ hb => (TabOk.cons (porterlaw06_BoxOpens_ok1 hb) TabOk.nil)) (fun x y h => by rw [porterlaw06_BoxOpens_link]; exact h) (kRes_ok (s := (.v .bool)) (m := 2))

abbrev porterlaw06_BoxBack_R : Type := Bool

noncomputable def porterlaw06_BoxBack_body : Code := (Go.Proofs.Tryd.f5.body).getD .skip

noncomputable def porterlaw06_BoxBack_L : List (List Nat × List Nat) := [([0], [0, 1, 2]), ([0, 0, 1], [27, 0, 1, 2]), ([1, 0, 1], [0, 1, 2]), ([0, 0, 1, 0, 1], [6]), ([1, 0, 1, 0, 1], [6]), ([0, 1, 1], [0, 7, 8, 1, 2]), ([0, 1, 1, 1], [8, 10, 9, 1, 7, 0, 2]), ([0, 0, 1, 1, 1, 1], [59, 0, 2]), ([1, 0, 1, 1, 1, 1], [0, 2]), ([0, 0, 1, 0, 1, 1, 1, 1], [6]), ([1, 0, 1, 0, 1, 1, 1, 1], [6]), ([0, 1, 1, 1, 1, 1], [12, 11, 0, 2]), ([0, 0, 1, 1, 1, 1, 1, 1], [67, 11, 0, 2]), ([1, 0, 1, 1, 1, 1, 1, 1], [0, 2, 11]), ([0, 0, 1, 0, 1, 1, 1, 1, 1, 1], [6]), ([1, 0, 1, 0, 1, 1, 1, 1, 1, 1], [6]), ([0, 1, 1, 1, 1, 1, 1, 1], [14, 13, 2]), ([0, 1, 1, 1, 1, 1, 1, 1, 1], [6]), ([1, 1, 1, 1, 1, 1, 1, 1, 1], [6])]

noncomputable def porterlaw06_BoxBack_E (N : Nat) : Env := mkEnv tys glob [(14, porterlaw06_works_res N), (17, box_Open_res N), (19, box_Nonce_res N), (15, box_Seal_res N)] [] [] [] false [] [(98, stream_blocks1_itr N), (106, hmac_framed1_itr N)]

theorem porterlaw06_BoxBack_Eok (N : Nat) : EnvOk Go.Proofs.Tryd.prog (porterlaw06_BoxBack_E N) := mkEnv_ok mixed tys_ok (FnsOk.cons (porterlaw06_works_ct N) (FnsOk.cons (box_Open_ct N) (FnsOk.cons (box_Nonce_ct N) (FnsOk.cons (box_Seal_ct N) (FnsOk.nil))))) (ItsOk.cons (stream_blocks1_it N) (ItsOk.cons (hmac_framed1_it N) (ItsOk.nil)))

noncomputable def porterlaw06_BoxBack_p2 (N : Nat) (key : (List UInt8)) (text : (List UInt8)) (s : (List UInt8)) (k0 : Bool → Option Bool) : Option Bool :=
  cond (decide ((100 : Int) < (((List.length key) : Nat) : Int)))
  (k0 true)
  (cond (decide ((500 : Int) < (((List.length text) : Nat) : Int)))
    (k0 true)
    (k0 (decide ((500 : Int) < (((List.length s) : Nat) : Int)))))

noncomputable def porterlaw06_BoxBack_g2 (N : Nat) (x : denS [(0, .v .str), (0, .v .str), (0, .v .str)]) (K : Ex → List A → Option Bool) : Option Bool :=
  porterlaw06_BoxBack_p2 N x.1 x.2.1 x.2.2.1 (fun a3 => (K .normal (mkS [(0, .v .str), (0, .v .str), (0, .v .str), (24, .v .bool)] 63 (x.1, x.2.1, x.2.2.1, a3, ()))))

noncomputable def porterlaw06_BoxBack_h2 (N : Nat) : Hd Bool := fun st K => (unS [(0, .v .str), (0, .v .str), (0, .v .str)] 88 (restr [0, 1, 2] 0 st)).bind fun x => porterlaw06_BoxBack_g2 N x K

noncomputable def porterlaw06_BoxBack_t2 (N : Nat) : Tab Bool := []

theorem porterlaw06_BoxBack_ok2 {N : Nat} {c : Ctx} (hb : Base Go.Proofs.Tryd.prog (porterlaw06_BoxBack_E N) c) : CodeOk Go.Proofs.Tryd.prog c (nodeAt porterlaw06_BoxBack_body [0, 0, 1]) (porterlaw06_BoxBack_h2 N) :=
  piece_ok (s := [(0, .v .str), (0, .v .str), (0, .v .str)]) (m := 88) (g := porterlaw06_BoxBack_g2 N) [0, 1, 2] (evN_sound hb N (porterlaw06_BoxBack_t2 N) porterlaw06_BoxBack_L porterlaw06_BoxBack_body TabOk.nil [0, 0, 1] _ rfl) (fun x K => by kernel_rfl)

noncomputable def porterlaw06_BoxBack_p1 (N : Nat) (key : (List UInt8)) (text : (List UInt8)) (s : (List UInt8)) (k0 : Bool → Option Bool) (k1 : Option Bool) : Option Bool :=
  porterlaw06_BoxBack_p2 N key text s
  (fun x27 => cond x27
    ((porterlaw06_works N).bind fun y =>
      k0 y)
    (k1))

noncomputable def porterlaw06_BoxBack_g1 (N : Nat) (x : denS [(0, .v .str), (0, .v .str), (0, .v .str)]) (K : Ex → List A → Option Bool) : Option Bool :=
  porterlaw06_BoxBack_p1 N x.1 x.2.1 x.2.2.1 (fun a0 => (K .ret (mkS [(6, .v .bool)] 84 (a0, ())))) (K .normal (mkS [(0, .v .str), (0, .v .str), (0, .v .str)] 88 (x.1, x.2.1, x.2.2.1, ())))

noncomputable def porterlaw06_BoxBack_h1 (N : Nat) : Hd Bool := fun st K => (unS [(0, .v .str), (0, .v .str), (0, .v .str)] 88 (restr [0, 1, 2] 0 st)).bind fun x => porterlaw06_BoxBack_g1 N x K

noncomputable def porterlaw06_BoxBack_t1 (N : Nat) : Tab Bool := [([0, 0, 1], porterlaw06_BoxBack_h2 N)]

theorem porterlaw06_BoxBack_ok1 {N : Nat} {c : Ctx} (hb : Base Go.Proofs.Tryd.prog (porterlaw06_BoxBack_E N) c) : CodeOk Go.Proofs.Tryd.prog c (nodeAt porterlaw06_BoxBack_body [0, 1]) (porterlaw06_BoxBack_h1 N) :=
  piece_ok (s := [(0, .v .str), (0, .v .str), (0, .v .str)]) (m := 88) (g := porterlaw06_BoxBack_g1 N) [0, 1, 2] (evN_sound hb N (porterlaw06_BoxBack_t1 N) porterlaw06_BoxBack_L porterlaw06_BoxBack_body (TabOk.cons (porterlaw06_BoxBack_ok2 hb) TabOk.nil) [0, 1] _ rfl) (fun x K => by kernel_rfl)

noncomputable def porterlaw06_BoxBack_p4 (N : Nat) (key : (List UInt8)) (text : (List UInt8)) (s : (List UInt8)) (a : (List UInt8)) (e : Int) (b : (List UInt8)) (f : Int) (k0 : Bool → Option Bool) : Option Bool :=
  cond (e != (0 : Int))
  (k0 true)
  (cond (f != (0 : Int))
    (k0 true)
    (cond (!(b == text))
      (k0 true)
      (k0 ((((List.length a) : Nat) : Int) != (Go.IntKind.wrap Go.IntKind.i64 ((((List.length text) : Nat) : Int) + (48 : Int)))))))

noncomputable def porterlaw06_BoxBack_g4 (N : Nat) (x : denS [(0, .v .str), (0, .v .str), (0, .v .str), (4, .v .str), (0, .v (.int .i64)), (0, .v .str), (0, .v (.int .i64))]) (K : Ex → List A → Option Bool) : Option Bool :=
  porterlaw06_BoxBack_p4 N x.1 x.2.1 x.2.2.1 x.2.2.2.1 x.2.2.2.2.1 x.2.2.2.2.2.1 x.2.2.2.2.2.2.1 (fun a2 => (K .normal (mkS [(0, .v .str), (1, .v .str), (56, .v .bool)] 31 (x.1, x.2.2.1, a2, ()))))

noncomputable def porterlaw06_BoxBack_h4 (N : Nat) : Hd Bool := fun st K => (unS [(0, .v .str), (0, .v .str), (0, .v .str), (4, .v .str), (0, .v (.int .i64)), (0, .v .str), (0, .v (.int .i64))] 80 (restr [8, 10, 9, 1, 7, 0, 2] 0 st)).bind fun x => porterlaw06_BoxBack_g4 N x K

noncomputable def porterlaw06_BoxBack_t4 (N : Nat) : Tab Bool := []

theorem porterlaw06_BoxBack_ok4 {N : Nat} {c : Ctx} (hb : Base Go.Proofs.Tryd.prog (porterlaw06_BoxBack_E N) c) : CodeOk Go.Proofs.Tryd.prog c (nodeAt porterlaw06_BoxBack_body [0, 0, 1, 1, 1, 1]) (porterlaw06_BoxBack_h4 N) :=
  piece_ok (s := [(0, .v .str), (0, .v .str), (0, .v .str), (4, .v .str), (0, .v (.int .i64)), (0, .v .str), (0, .v (.int .i64))]) (m := 80) (g := porterlaw06_BoxBack_g4 N) [8, 10, 9, 1, 7, 0, 2] (evN_sound hb N (porterlaw06_BoxBack_t4 N) porterlaw06_BoxBack_L porterlaw06_BoxBack_body TabOk.nil [0, 0, 1, 1, 1, 1] _ rfl) (fun x K => by kernel_rfl)

noncomputable def porterlaw06_BoxBack_p3 (N : Nat) (key : (List UInt8)) (text : (List UInt8)) (s : (List UInt8)) (a : (List UInt8)) (e : Int) (b : (List UInt8)) (f : Int) (k0 : Bool → Option Bool) (k1 : Option Bool) : Option Bool :=
  porterlaw06_BoxBack_p4 N key text s a e b f
  (fun x59 => cond x59
    (k0 false)
    (k1))

noncomputable def porterlaw06_BoxBack_g3 (N : Nat) (x : denS [(0, .v .str), (0, .v .str), (0, .v .str), (4, .v .str), (0, .v (.int .i64)), (0, .v .str), (0, .v (.int .i64))]) (K : Ex → List A → Option Bool) : Option Bool :=
  porterlaw06_BoxBack_p3 N x.1 x.2.1 x.2.2.1 x.2.2.2.1 x.2.2.2.2.1 x.2.2.2.2.2.1 x.2.2.2.2.2.2.1 (fun a0 => (K .ret (mkS [(6, .v .bool)] 84 (a0, ())))) (K .normal (mkS [(0, .v .str), (1, .v .str)] 88 (x.1, x.2.2.1, ())))

noncomputable def porterlaw06_BoxBack_h3 (N : Nat) : Hd Bool := fun st K => (unS [(0, .v .str), (0, .v .str), (0, .v .str), (4, .v .str), (0, .v (.int .i64)), (0, .v .str), (0, .v (.int .i64))] 80 (restr [8, 10, 9, 1, 7, 0, 2] 0 st)).bind fun x => porterlaw06_BoxBack_g3 N x K

noncomputable def porterlaw06_BoxBack_t3 (N : Nat) : Tab Bool := [([0, 0, 1, 1, 1, 1], porterlaw06_BoxBack_h4 N)]

theorem porterlaw06_BoxBack_ok3 {N : Nat} {c : Ctx} (hb : Base Go.Proofs.Tryd.prog (porterlaw06_BoxBack_E N) c) : CodeOk Go.Proofs.Tryd.prog c (nodeAt porterlaw06_BoxBack_body [0, 1, 1, 1, 1]) (porterlaw06_BoxBack_h3 N) :=
  piece_ok (s := [(0, .v .str), (0, .v .str), (0, .v .str), (4, .v .str), (0, .v (.int .i64)), (0, .v .str), (0, .v (.int .i64))]) (m := 80) (g := porterlaw06_BoxBack_g3 N) [8, 10, 9, 1, 7, 0, 2] (evN_sound hb N (porterlaw06_BoxBack_t3 N) porterlaw06_BoxBack_L porterlaw06_BoxBack_body (TabOk.cons (porterlaw06_BoxBack_ok4 hb) TabOk.nil) [0, 1, 1, 1, 1] _ rfl) (fun x K => by kernel_rfl)

noncomputable def porterlaw06_BoxBack (N : Nat) (key : (List UInt8)) (text : (List UInt8)) (s : (List UInt8)) : Option Bool :=
  porterlaw06_BoxBack_p1 N key text s
  (fun x6 => some x6)
  ((box_Seal N key ([(48 : UInt8), (49 : UInt8), (50 : UInt8), (51 : UInt8), (52 : UInt8), (53 : UInt8), (54 : UInt8), (55 : UInt8), (56 : UInt8), (57 : UInt8), (97 : UInt8), (98 : UInt8), (99 : UInt8), (100 : UInt8), (101 : UInt8), (102 : UInt8)] : List UInt8) text).bind fun y =>
    (box_Open N key y.1).bind fun y1 =>
    porterlaw06_BoxBack_p3 N key text s y.1 y.2.1 y1.1 y1.2.1
    (fun x61 => some x61)
    ((box_Open N key s).bind fun y2 =>
      cond (y2.2.1 != (0 : Int))
      (cond (y2.1 == ([] : List UInt8))
        ((porterlaw06_works N).bind fun y3 =>
          some y3)
        (some false))
      ((box_Nonce N s).bind fun y4 =>
        (box_Seal N key y4 y2.1).bind fun y5 =>
        cond (y5.2.1 == (0 : Int))
        (cond (y5.1 == s)
          ((porterlaw06_works N).bind fun y6 =>
            some y6)
          (some false))
        (some false))))

noncomputable def porterlaw06_BoxBack_t (N : Nat) : Tab Bool := [([0, 1], porterlaw06_BoxBack_h1 N), ([0, 1, 1, 1, 1], porterlaw06_BoxBack_h3 N)]

theorem porterlaw06_BoxBack_link (N : Nat) (x : denS [(0, .v .str), (0, .v .str), (0, .v .str)]) : evFX (porterlaw06_BoxBack_E N) N (porterlaw06_BoxBack_t N) porterlaw06_BoxBack_L Go.Proofs.Tryd.f5 (mkS [(0, .v .str), (0, .v .str), (0, .v .str)] 0 x) (kRes (.v .bool) 3) = porterlaw06_BoxBack N x.1 x.2.1 x.2.2.1 := by kernel_rfl

noncomputable def porterlaw06_BoxBack_res (N : Nat) : List A → Res := resOf [(0, .v .str), (0, .v .str), (0, .v .str)] (fun x => porterlaw06_BoxBack N x.1 x.2.1 x.2.2.1) (oRes (.v .bool) 3)

theorem porterlaw06_BoxBack_ct (N : Nat) : Contract Go.Proofs.Tryd.prog glob 5 (porterlaw06_BoxBack_res N) :=
  Contract.of (E := porterlaw06_BoxBack_E N) (H := porterlaw06_BoxBack_t N) (L := porterlaw06_BoxBack_L) (N := N) (body := porterlaw06_BoxBack_body) (K := (kRes (.v .bool) 3)) (porterlaw06_BoxBack_Eok N) Go.Proofs.Tryd.func5 (by kernel_rfl) (by decide) (fun _ hb => (TabOk.cons (porterlaw06_BoxBack_ok1 hb) (TabOk.cons (porterlaw06_BoxBack_ok3 hb) TabOk.nil))) (fun x y h => by rw [porterlaw06_BoxBack_link]; exact h) (kRes_ok (s := (.v .bool)) (m := 3))

abbrev porterref06_Texts_R : Type := (List (List UInt8))

noncomputable def porterref06_Texts_body : Code := (Go.Proofs.Tryd.f21.body).getD .skip

noncomputable def porterref06_Texts_L : List (List Nat × List Nat) := [([0], [1, 0]), ([0, 0, 1], [13, 0, 1]), ([1, 0, 1], [0, 1]), ([0, 0, 1, 0, 1], [4]), ([1, 0, 1, 0, 1], [4]), ([0, 1, 1], [5, 0, 1]), ([0, 1, 1, 1], [4]), ([1, 1, 1, 1], [4])]

noncomputable def porterref06_Texts_E (N : Nat) : Env := mkEnv tys glob [(24, porterref04_Parts_res N), (60, porterref04_Texts_res N), (61, porterref04_Frame_res N)] [(4, .str), (5, .str)] [] [] true [] [(98, stream_blocks1_itr N), (106, hmac_framed1_itr N)]

theorem porterref06_Texts_Eok (N : Nat) : EnvOk Go.Proofs.Tryd.prog (porterref06_Texts_E N) := mkEnv_ok mixed tys_ok (FnsOk.cons (porterref04_Parts_ct N) (FnsOk.cons (porterref04_Texts_ct N) (FnsOk.cons (porterref04_Frame_ct N) (FnsOk.nil)))) (ItsOk.cons (stream_blocks1_it N) (ItsOk.cons (hmac_framed1_it N) (ItsOk.nil)))

noncomputable def porterref06_Texts_p2 (N : Nat) (key : (List UInt8)) (s : (List UInt8)) (k0 : Bool → Option (List (List UInt8))) : Option (List (List UInt8)) :=
  cond (decide ((((List.length s) : Nat) : Int) < (48 : Int)))
  (k0 true)
  (k0 (decide ((4144 : Int) < (((List.length s) : Nat) : Int))))

noncomputable def porterref06_Texts_g2 (N : Nat) (x : denS [(0, .v .str), (0, .v .str)]) (K : Ex → List A → Option (List (List UInt8))) : Option (List (List UInt8)) :=
  porterref06_Texts_p2 N x.1 x.2.1 (fun a2 => (K .normal (mkS [(0, .v .str), (0, .v .str), (11, .v .bool)] 15 (x.1, x.2.1, a2, ()))))

noncomputable def porterref06_Texts_h2 (N : Nat) : Hd (List (List UInt8)) := fun st K => (unS [(0, .v .str), (0, .v .str)] 27 (restr [1, 0] 0 st)).bind fun x => porterref06_Texts_g2 N x K

noncomputable def porterref06_Texts_t2 (N : Nat) : Tab (List (List UInt8)) := []

theorem porterref06_Texts_ok2 {N : Nat} {c : Ctx} (hb : Base Go.Proofs.Tryd.prog (porterref06_Texts_E N) c) : CodeOk Go.Proofs.Tryd.prog c (nodeAt porterref06_Texts_body [0, 0, 1]) (porterref06_Texts_h2 N) :=
  piece_ok (s := [(0, .v .str), (0, .v .str)]) (m := 27) (g := porterref06_Texts_g2 N) [1, 0] (evN_sound hb N (porterref06_Texts_t2 N) porterref06_Texts_L porterref06_Texts_body TabOk.nil [0, 0, 1] _ rfl) (fun x K => by kernel_rfl)

noncomputable def porterref06_Texts_p1 (N : Nat) (key : (List UInt8)) (s : (List UInt8)) (k0 : (List (List UInt8)) → Option (List (List UInt8))) (k1 : Option (List (List UInt8))) : Option (List (List UInt8)) :=
  porterref06_Texts_p2 N key s
  (fun x13 => cond x13
    (k0 ([] : List (List UInt8)))
    (k1))

noncomputable def porterref06_Texts_g1 (N : Nat) (x : denS [(0, .v .str), (0, .v .str)]) (K : Ex → List A → Option (List (List UInt8))) : Option (List (List UInt8)) :=
  porterref06_Texts_p1 N x.1 x.2.1 (fun a0 => (K .ret (mkS [(4, .row .str)] 24 (a0, ())))) (K .normal (mkS [(0, .v .str), (0, .v .str)] 27 (x.1, x.2.1, ())))

noncomputable def porterref06_Texts_h1 (N : Nat) : Hd (List (List UInt8)) := fun st K => (unS [(0, .v .str), (0, .v .str)] 27 (restr [1, 0] 0 st)).bind fun x => porterref06_Texts_g1 N x K

noncomputable def porterref06_Texts_t1 (N : Nat) : Tab (List (List UInt8)) := [([0, 0, 1], porterref06_Texts_h2 N)]

theorem porterref06_Texts_ok1 {N : Nat} {c : Ctx} (hb : Base Go.Proofs.Tryd.prog (porterref06_Texts_E N) c) : CodeOk Go.Proofs.Tryd.prog c (nodeAt porterref06_Texts_body [0, 1]) (porterref06_Texts_h1 N) :=
  piece_ok (s := [(0, .v .str), (0, .v .str)]) (m := 27) (g := porterref06_Texts_g1 N) [1, 0] (evN_sound hb N (porterref06_Texts_t1 N) porterref06_Texts_L porterref06_Texts_body (TabOk.cons (porterref06_Texts_ok2 hb) TabOk.nil) [0, 1] _ rfl) (fun x K => by kernel_rfl)

noncomputable def porterref06_Texts (N : Nat) (key : (List UInt8)) (s : (List UInt8)) : Option (List (List UInt8)) :=
  porterref06_Texts_p1 N key s
  (fun x4 => some x4)
  ((porterref04_Frame N ([([(116 : UInt8), (97 : UInt8), (103 : UInt8)] : List UInt8)] : List (List UInt8))).bind fun y =>
    (porterref04_Texts N key y).bind fun y1 =>
    (porterref04_Parts N key ([([(116 : UInt8), (97 : UInt8), (103 : UInt8)] : List UInt8)] : List (List UInt8))).bind fun y2 =>
    cond (decide (((0 : Int) ≤ (Go.IntKind.wrap Go.IntKind.i64 ((((List.length s) : Nat) : Int) - (32 : Int)))) ∧ ((Go.IntKind.wrap Go.IntKind.i64 ((((List.length s) : Nat) : Int) - (32 : Int))) ≤ (((List.length s) : Nat) : Int))))
    ((porterref04_Texts N y2 (Go.Lift.cut s 0 (Int.toNat (Go.IntKind.wrap Go.IntKind.i64 ((((List.length s) : Nat) : Int) - (32 : Int)))))).bind fun y3 =>
      cond (decide ((((List.length y1) + (List.length y3)) * 16) ≤ 70368744177664))
      (some (y1 ++ y3))
      (none))
    (none))

noncomputable def porterref06_Texts_t (N : Nat) : Tab (List (List UInt8)) := [([0, 1], porterref06_Texts_h1 N)]

theorem porterref06_Texts_link (N : Nat) (x : denS [(0, .v .str), (0, .v .str)]) : evFX (porterref06_Texts_E N) N (porterref06_Texts_t N) porterref06_Texts_L Go.Proofs.Tryd.f21 (mkS [(0, .v .str), (0, .v .str)] 0 x) (kRes (.row .str) 2) = porterref06_Texts N x.1 x.2.1 := by kernel_rfl

noncomputable def porterref06_Texts_res (N : Nat) : List A → Res := resOf [(0, .v .str), (0, .v .str)] (fun x => porterref06_Texts N x.1 x.2.1) (oRes (.row .str) 2)

theorem porterref06_Texts_ct (N : Nat) : Contract Go.Proofs.Tryd.prog glob 21 (porterref06_Texts_res N) :=
  Contract.of (E := porterref06_Texts_E N) (H := porterref06_Texts_t N) (L := porterref06_Texts_L) (N := N) (body := porterref06_Texts_body) (K := (kRes (.row .str) 2)) (porterref06_Texts_Eok N) Go.Proofs.Tryd.func21 (by kernel_rfl) (by decide) (fun _ hb => (TabOk.cons (porterref06_Texts_ok1 hb) TabOk.nil)) (fun x y h => by rw [porterref06_Texts_link]; exact h) (kRes_ok (s := (.row .str)) (m := 2))

abbrev porterref03_Clash_R : Type := Bool

noncomputable def porterref03_Clash_body : Code := (Go.Proofs.Tryd.f20.body).getD .skip

noncomputable def porterref03_Clash_L : List (List Nat × List Nat) := [([0], [0]), ([0, 1], [0, 3]), ([0, 0, 1, 1], [4, 0, 3]), ([0, 1, 0, 1, 1], [4, 0, 3]), ([0, 0, 0, 0, 1, 0, 1, 1], [9, 3, 0, 4]), ([1, 0, 0, 0, 1, 0, 1, 1], [3, 0, 4]), ([1, 1, 0, 0, 0, 1, 0, 1, 1], []), ([0, 0, 0, 1, 0, 0, 1, 0, 1, 1], [4, 3, 0]), ([0, 1, 0, 0, 1, 0, 0, 1, 0, 1, 1], [5, 4, 3, 0]), ([0, 1, 1, 0, 0, 1, 0, 0, 1, 0, 1, 1], [5, 4, 3, 0]), ([0, 0, 0, 0, 1, 1, 0, 0, 1, 0, 0, 1, 0, 1, 1], [22, 3, 5, 4, 0]), ([1, 0, 0, 0, 1, 1, 0, 0, 1, 0, 0, 1, 0, 1, 1], [3, 5, 4, 0]), ([1, 1, 0, 0, 0, 1, 1, 0, 0, 1, 0, 0, 1, 0, 1, 1], [4, 0, 3]), ([0, 0, 0, 1, 0, 0, 1, 1, 0, 0, 1, 0, 0, 1, 0, 1, 1], [44, 5, 4, 3, 0]), ([1, 0, 0, 1, 0, 0, 1, 1, 0, 0, 1, 0, 0, 1, 0, 1, 1], [5, 4, 3, 0]), ([0, 0, 1, 0, 0, 1, 0, 0, 1, 1, 0, 0, 1, 0, 0, 1, 0, 1, 1], [2]), ([1, 0, 1, 0, 0, 1, 0, 0, 1, 1, 0, 0, 1, 0, 0, 1, 0, 1, 1], [2]), ([0, 1, 0, 0, 1, 1, 0, 0, 1, 0, 0, 1, 0, 1, 1], [5, 4, 3, 0]), ([1, 1, 0, 0, 1, 1, 0, 0, 1, 0, 0, 1, 0, 1, 1], [5, 4, 3, 0]), ([1, 1, 0, 0, 1, 0, 0, 1, 0, 1, 1], [4, 0, 3]), ([0, 1, 0, 0, 1, 0, 1, 1], [4, 0, 3]), ([1, 1, 0, 0, 1, 0, 1, 1], [4, 0, 3]), ([1, 0, 1, 1], []), ([0, 1, 1, 1], [2]), ([1, 1, 1, 1], [2])]

noncomputable def porterref03_Clash_E (N : Nat) : Env := mkEnv tys glob [(59, porterref03_Sum_res N)] [(3, .str)] [] [] false [] [(98, stream_blocks1_itr N), (106, hmac_framed1_itr N)]

theorem porterref03_Clash_Eok (N : Nat) : EnvOk Go.Proofs.Tryd.prog (porterref03_Clash_E N) := mkEnv_ok mixed tys_ok (FnsOk.cons (porterref03_Sum_ct N) (FnsOk.nil)) (ItsOk.cons (stream_blocks1_it N) (ItsOk.cons (hmac_framed1_it N) (ItsOk.nil)))

noncomputable def porterref03_Clash_p4 (N : Nat) (l : (List (List UInt8))) (sums : (List (List UInt8))) (i : Int) (k : Int) (k0 : Bool → Option Bool) : Option Bool :=
  cond (Go.Lift.inR k (List.length sums))
  (cond (decide ((Int.toNat k) < (List.length sums)))
    (cond (Go.Lift.inR i (List.length sums))
      (cond (decide ((Int.toNat i) < (List.length sums)))
        (cond ((List.getD sums (Int.toNat k) ([] : List UInt8)) == (List.getD sums (Int.toNat i) ([] : List UInt8)))
          (cond (Go.Lift.inR k (List.length l))
            (cond (Go.Lift.inR i (List.length l))
              (k0 (!((List.getD l (Int.toNat k) ([] : List UInt8)) == (List.getD l (Int.toNat i) ([] : List UInt8)))))
              (none))
            (none))
          (k0 false))
        (none))
      (none))
    (none))
  (none)

noncomputable def porterref03_Clash_g4 (N : Nat) (x : denS [(0, .v (.sl .str)), (2, .row .str), (0, .v (.int .i64)), (0, .v (.int .i64))]) (K : Ex → List A → Option Bool) : Option Bool :=
  porterref03_Clash_p4 N x.1 x.2.1 x.2.2.1 x.2.2.2.1 (fun a4 => (K .normal (mkS [(0, .v (.sl .str)), (2, .row .str), (0, .v (.int .i64)), (0, .v (.int .i64)), (38, .v .bool)] 0 (x.1, x.2.1, x.2.2.1, x.2.2.2.1, a4, ()))))

noncomputable def porterref03_Clash_h4 (N : Nat) : Hd Bool := fun st K => (unS [(0, .v (.sl .str)), (2, .row .str), (0, .v (.int .i64)), (0, .v (.int .i64))] 39 (restr [3, 5, 4, 0] 0 st)).bind fun x => porterref03_Clash_g4 N x K

noncomputable def porterref03_Clash_t4 (N : Nat) : Tab Bool := []

theorem porterref03_Clash_ok4 {N : Nat} {c : Ctx} (hb : Base Go.Proofs.Tryd.prog (porterref03_Clash_E N) c) : CodeOk Go.Proofs.Tryd.prog c (nodeAt porterref03_Clash_body [0, 0, 0, 1, 0, 0, 1, 1, 0, 0, 1, 0, 0, 1, 0, 1, 1]) (porterref03_Clash_h4 N) :=
  piece_ok (s := [(0, .v (.sl .str)), (2, .row .str), (0, .v (.int .i64)), (0, .v (.int .i64))]) (m := 39) (g := porterref03_Clash_g4 N) [3, 5, 4, 0] (evN_sound hb N (porterref03_Clash_t4 N) porterref03_Clash_L porterref03_Clash_body TabOk.nil [0, 0, 0, 1, 0, 0, 1, 1, 0, 0, 1, 0, 0, 1, 0, 1, 1] _ rfl) (fun x K => by kernel_rfl)

noncomputable def porterref03_Clash_p3 (N : Nat) (l : (List (List UInt8))) (sums : (List (List UInt8))) (i : Int) (k : Int) (k0 : Bool → Option Bool) (k1 : Option Bool) : Option Bool :=
  porterref03_Clash_p4 N l sums i k
  (fun x44 => cond x44
    (k0 true)
    (k1))

noncomputable def porterref03_Clash_g3 (N : Nat) (x : denS [(0, .v (.sl .str)), (2, .row .str), (0, .v (.int .i64)), (0, .v (.int .i64))]) (K : Ex → List A → Option Bool) : Option Bool :=
  porterref03_Clash_p3 N x.1 x.2.1 x.2.2.1 x.2.2.2.1 (fun a0 => (K .ret (mkS [(2, .v .bool)] 42 (a0, ())))) (K .normal (mkS [(0, .v (.sl .str)), (2, .row .str), (0, .v (.int .i64)), (0, .v (.int .i64))] 39 (x.1, x.2.1, x.2.2.1, x.2.2.2.1, ())))

noncomputable def porterref03_Clash_h3 (N : Nat) : Hd Bool := fun st K => (unS [(0, .v (.sl .str)), (2, .row .str), (0, .v (.int .i64)), (0, .v (.int .i64))] 39 (restr [3, 5, 4, 0] 0 st)).bind fun x => porterref03_Clash_g3 N x K

noncomputable def porterref03_Clash_t3 (N : Nat) : Tab Bool := [([0, 0, 0, 1, 0, 0, 1, 1, 0, 0, 1, 0, 0, 1, 0, 1, 1], porterref03_Clash_h4 N)]

theorem porterref03_Clash_ok3 {N : Nat} {c : Ctx} (hb : Base Go.Proofs.Tryd.prog (porterref03_Clash_E N) c) : CodeOk Go.Proofs.Tryd.prog c (nodeAt porterref03_Clash_body [0, 1, 0, 0, 1, 1, 0, 0, 1, 0, 0, 1, 0, 1, 1]) (porterref03_Clash_h3 N) :=
  piece_ok (s := [(0, .v (.sl .str)), (2, .row .str), (0, .v (.int .i64)), (0, .v (.int .i64))]) (m := 39) (g := porterref03_Clash_g3 N) [3, 5, 4, 0] (evN_sound hb N (porterref03_Clash_t3 N) porterref03_Clash_L porterref03_Clash_body (TabOk.cons (porterref03_Clash_ok4 hb) TabOk.nil) [0, 1, 0, 0, 1, 1, 0, 0, 1, 0, 0, 1, 0, 1, 1] _ rfl) (fun x K => by kernel_rfl)

noncomputable def porterref03_Clash_s2 (N : Nat) (l : (List (List UInt8))) (sums : (List (List UInt8))) (i : Int) (k : Int) (rec : Int → Option Bool) (k0 : Bool → Option Bool) (k1 : Option Bool) : Option Bool :=
  cond (decide (k < i))
  (porterref03_Clash_p3 N l sums i k
    (fun x2 => k0 x2)
    (rec (Go.IntKind.wrap Go.IntKind.i64 (k + (1 : Int)))))
  (k1)

noncomputable def porterref03_Clash_p2 (N : Nat) (l : (List (List UInt8))) (sums : (List (List UInt8))) (i : Int) (k : Int) (k0 : Bool → Option Bool) (k1 : Option Bool) : Option Bool :=
  iter (fun (v : Int) r => porterref03_Clash_s2 N l sums i v (fun k => (r k)) k0 k1) N k

noncomputable def porterref03_Clash_g2 (N : Nat) (i : ((List (List UInt8)) × (List (List UInt8)) × Int)) (v : Int) (r : Int → Option Bool) (K : Ex → List A → Option Bool) : Option Bool :=
  porterref03_Clash_s2 N i.1 i.2.1 i.2.2 v (fun k => (r k)) (fun a0 => (K .ret (mkS [(2, .v .bool)] 42 (a0, ())))) (K (.exit 2) (mkS [(0, .v (.sl .str)), (2, .row .str), (0, .v (.int .i64))] 40 (i.1, i.2.1, i.2.2, ())))

noncomputable def porterref03_Clash_h2 (N : Nat) : Hd Bool := fun st K => (unS [(0, .v (.sl .str)), (2, .row .str), (0, .v (.int .i64)), (0, .v (.int .i64))] 39 (restr [5, 4, 3, 0] 0 st)).bind fun x => iter (fun v r => porterref03_Clash_g2 N ((fun x => (x.1, x.2.1, x.2.2.1)) x) v r K) N ((fun x => x.2.2.2.1) x)

noncomputable def porterref03_Clash_t2 (N : Nat) : Tab Bool := [([0, 1, 0, 0, 1, 1, 0, 0, 1, 0, 0, 1, 0, 1, 1], porterref03_Clash_h3 N)]

theorem porterref03_Clash_ok2 {N : Nat} {c : Ctx} (hb : Base Go.Proofs.Tryd.prog (porterref03_Clash_E N) c) : CodeOk Go.Proofs.Tryd.prog c (nodeAt porterref03_Clash_body [0, 1, 1, 0, 0, 1, 0, 0, 1, 0, 1, 1]) (porterref03_Clash_h2 N) :=
  loop_ok (s := [(0, .v (.sl .str)), (2, .row .str), (0, .v (.int .i64)), (0, .v (.int .i64))]) (m := 39) (porterref03_Clash_g2 N) [5, 4, 3, 0] N (fun x => (x.1, x.2.1, x.2.2.1)) (fun x => x.2.2.2.1) (fun i v => (i.1, i.2.1, i.2.2, v, ())) (fun _ => rfl) (evN_sound hb N (porterref03_Clash_t2 N) porterref03_Clash_L porterref03_Clash_body (TabOk.cons (porterref03_Clash_ok3 hb) TabOk.nil) [0, 0, 1, 1, 0, 0, 1, 0, 0, 1, 0, 1, 1] _ rfl) (fun i v r K => by kernel_rfl)

noncomputable def porterref03_Clash_s1 (N : Nat) (l : (List (List UInt8))) (sums : (List (List UInt8))) (i : Int) (rec : (List (List UInt8)) → Int → Option Bool) (k0 : Bool → Option Bool) (k1 : Option Bool) : Option Bool :=
  cond (decide (i < (((List.length l) : Nat) : Int)))
  (cond (Go.Lift.inR i (List.length l))
    ((porterref03_Sum N (List.getD l (Int.toNat i) ([] : List UInt8))).bind fun y =>
      cond (decide ((((List.length sums) + 1) * 16) ≤ 70368744177664))
      (porterref03_Clash_p2 N l (sums ++ ([y] : List (List UInt8))) i (0 : Int)
        (fun x2 => k0 x2)
        (rec (sums ++ ([y] : List (List UInt8))) (Go.IntKind.wrap Go.IntKind.i64 (i + (1 : Int)))))
      (none))
    (none))
  (k1)

noncomputable def porterref03_Clash_p1 (N : Nat) (l : (List (List UInt8))) (sums : (List (List UInt8))) (i : Int) (k0 : Bool → Option Bool) (k1 : Option Bool) : Option Bool :=
  iter (fun (v : ((List (List UInt8)) × Int)) r => porterref03_Clash_s1 N l v.1 v.2 (fun sums i => (r (sums, i))) k0 k1) N (sums, i)

noncomputable def porterref03_Clash_g1 (N : Nat) (i : (List (List UInt8))) (v : ((List (List UInt8)) × Int)) (r : ((List (List UInt8)) × Int) → Option Bool) (K : Ex → List A → Option Bool) : Option Bool :=
  porterref03_Clash_s1 N i v.1 v.2 (fun sums i => (r (sums, i))) (fun a0 => (K .ret (mkS [(2, .v .bool)] 42 (a0, ())))) (K (.exit 0) (mkS [] 45 ()))

noncomputable def porterref03_Clash_h1 (N : Nat) : Hd Bool := fun st K => (unS [(0, .v (.sl .str)), (2, .row .str), (0, .v (.int .i64))] 40 (restr [4, 0, 3] 0 st)).bind fun x => iter (fun v r => porterref03_Clash_g1 N ((fun x => x.1) x) v r K) N ((fun x => (x.2.1, x.2.2.1)) x)

noncomputable def porterref03_Clash_t1 (N : Nat) : Tab Bool := [([0, 1, 1, 0, 0, 1, 0, 0, 1, 0, 1, 1], porterref03_Clash_h2 N)]

theorem porterref03_Clash_ok1 {N : Nat} {c : Ctx} (hb : Base Go.Proofs.Tryd.prog (porterref03_Clash_E N) c) : CodeOk Go.Proofs.Tryd.prog c (nodeAt porterref03_Clash_body [0, 1, 0, 1, 1]) (porterref03_Clash_h1 N) :=
  loop_ok (s := [(0, .v (.sl .str)), (2, .row .str), (0, .v (.int .i64))]) (m := 40) (porterref03_Clash_g1 N) [4, 0, 3] N (fun x => x.1) (fun x => (x.2.1, x.2.2.1)) (fun i v => (i, v.1, v.2, ())) (fun _ => rfl) (evN_sound hb N (porterref03_Clash_t1 N) porterref03_Clash_L porterref03_Clash_body (TabOk.cons (porterref03_Clash_ok2 hb) TabOk.nil) [0, 0, 1, 0, 1, 1] _ rfl) (fun i v r K => by kernel_rfl)

noncomputable def porterref03_Clash (N : Nat) (l : (List (List UInt8))) : Option Bool :=
  porterref03_Clash_p1 N l ([] : List (List UInt8)) (0 : Int)
  (fun x2 => some x2)
  (some false)

noncomputable def porterref03_Clash_t (N : Nat) : Tab Bool := [([0, 1, 0, 1, 1], porterref03_Clash_h1 N)]

theorem porterref03_Clash_link (N : Nat) (x : denS [(0, .v (.sl .str))]) : evFX (porterref03_Clash_E N) N (porterref03_Clash_t N) porterref03_Clash_L Go.Proofs.Tryd.f20 (mkS [(0, .v (.sl .str))] 0 x) (kRes (.v .bool) 1) = porterref03_Clash N x.1 := by kernel_rfl

noncomputable def porterref03_Clash_res (N : Nat) : List A → Res := resOf [(0, .v (.sl .str))] (fun x => porterref03_Clash N x.1) (oRes (.v .bool) 1)

theorem porterref03_Clash_ct (N : Nat) : Contract Go.Proofs.Tryd.prog glob 20 (porterref03_Clash_res N) :=
  Contract.of (E := porterref03_Clash_E N) (H := porterref03_Clash_t N) (L := porterref03_Clash_L) (N := N) (body := porterref03_Clash_body) (K := (kRes (.v .bool) 1)) (porterref03_Clash_Eok N) Go.Proofs.Tryd.func20 (by kernel_rfl) (by decide) (fun _ hb => (TabOk.cons (porterref03_Clash_ok1 hb) TabOk.nil)) (fun x y h => by rw [porterref03_Clash_link]; exact h) (kRes_ok (s := (.v .bool)) (m := 1))

abbrev porterlaw06_BoxOther_R : Type := Bool

noncomputable def porterlaw06_BoxOther_body : Code := (Go.Proofs.Tryd.f6.body).getD .skip

noncomputable def porterlaw06_BoxOther_L : List (List Nat × List Nat) := [([0], [0, 1, 2]), ([0, 0, 1], [28, 0, 2, 1]), ([1, 0, 1], [0, 2, 1]), ([0, 0, 1, 0, 1], [6]), ([1, 0, 1, 0, 1], [6]), ([0, 1, 1], [1, 7, 8, 0]), ([0, 1, 1, 1], [8, 10, 0, 7, 1]), ([0, 0, 1, 1, 1, 1], [47, 8, 0, 7, 1]), ([1, 0, 1, 1, 1, 1], [8, 0, 7, 1]), ([0, 0, 1, 0, 1, 1, 1, 1], [6]), ([1, 0, 1, 0, 1, 1, 1, 1], [6]), ([0, 1, 1, 1, 1, 1], [6]), ([1, 1, 1, 1, 1, 1], [6])]

noncomputable def porterlaw06_BoxOther_E (N : Nat) : Env := mkEnv tys glob [(20, porterref03_Clash_res N), (21, porterref06_Texts_res N), (14, porterlaw06_works_res N), (17, box_Open_res N), (15, box_Seal_res N)] [] [] [] false [] [(98, stream_blocks1_itr N), (106, hmac_framed1_itr N)]

theorem porterlaw06_BoxOther_Eok (N : Nat) : EnvOk Go.Proofs.Tryd.prog (porterlaw06_BoxOther_E N) := mkEnv_ok mixed tys_ok (FnsOk.cons (porterref03_Clash_ct N) (FnsOk.cons (porterref06_Texts_ct N) (FnsOk.cons (porterlaw06_works_ct N) (FnsOk.cons (box_Open_ct N) (FnsOk.cons (box_Seal_ct N) (FnsOk.nil)))))) (ItsOk.cons (stream_blocks1_it N) (ItsOk.cons (hmac_framed1_it N) (ItsOk.nil)))

noncomputable def porterlaw06_BoxOther_p2 (N : Nat) (k : (List UInt8)) (m : (List UInt8)) (text : (List UInt8)) (k0 : Bool → Option Bool) : Option Bool :=
  cond ((((List.length k) : Nat) : Int) != (32 : Int))
  (k0 true)
  (cond ((((List.length m) : Nat) : Int) != (32 : Int))
    (k0 true)
    (cond (k == m)
      (k0 true)
      (k0 (decide ((500 : Int) < (((List.length text) : Nat) : Int))))))

noncomputable def porterlaw06_BoxOther_g2 (N : Nat) (x : denS [(0, .v .str), (0, .v .str), (0, .v .str)]) (K : Ex → List A → Option Bool) : Option Bool :=
  porterlaw06_BoxOther_p2 N x.1 x.2.1 x.2.2.1 (fun a3 => (K .normal (mkS [(0, .v .str), (0, .v .str), (0, .v .str), (25, .v .bool)] 32 (x.1, x.2.1, x.2.2.1, a3, ()))))

noncomputable def porterlaw06_BoxOther_h2 (N : Nat) : Hd Bool := fun st K => (unS [(0, .v .str), (0, .v .str), (0, .v .str)] 58 (restr [0, 1, 2] 0 st)).bind fun x => porterlaw06_BoxOther_g2 N x K

noncomputable def porterlaw06_BoxOther_t2 (N : Nat) : Tab Bool := []

theorem porterlaw06_BoxOther_ok2 {N : Nat} {c : Ctx} (hb : Base Go.Proofs.Tryd.prog (porterlaw06_BoxOther_E N) c) : CodeOk Go.Proofs.Tryd.prog c (nodeAt porterlaw06_BoxOther_body [0, 0, 1]) (porterlaw06_BoxOther_h2 N) :=
  piece_ok (s := [(0, .v .str), (0, .v .str), (0, .v .str)]) (m := 58) (g := porterlaw06_BoxOther_g2 N) [0, 1, 2] (evN_sound hb N (porterlaw06_BoxOther_t2 N) porterlaw06_BoxOther_L porterlaw06_BoxOther_body TabOk.nil [0, 0, 1] _ rfl) (fun x K => by kernel_rfl)

noncomputable def porterlaw06_BoxOther_p1 (N : Nat) (k : (List UInt8)) (m : (List UInt8)) (text : (List UInt8)) (k0 : Bool → Option Bool) (k1 : Option Bool) : Option Bool :=
  porterlaw06_BoxOther_p2 N k m text
  (fun x28 => cond x28
    ((porterlaw06_works N).bind fun y =>
      k0 y)
    (k1))

noncomputable def porterlaw06_BoxOther_g1 (N : Nat) (x : denS [(0, .v .str), (0, .v .str), (0, .v .str)]) (K : Ex → List A → Option Bool) : Option Bool :=
  porterlaw06_BoxOther_p1 N x.1 x.2.1 x.2.2.1 (fun a0 => (K .ret (mkS [(6, .v .bool)] 54 (a0, ())))) (K .normal (mkS [(0, .v .str), (0, .v .str), (0, .v .str)] 58 (x.1, x.2.1, x.2.2.1, ())))

noncomputable def porterlaw06_BoxOther_h1 (N : Nat) : Hd Bool := fun st K => (unS [(0, .v .str), (0, .v .str), (0, .v .str)] 58 (restr [0, 1, 2] 0 st)).bind fun x => porterlaw06_BoxOther_g1 N x K

noncomputable def porterlaw06_BoxOther_t1 (N : Nat) : Tab Bool := [([0, 0, 1], porterlaw06_BoxOther_h2 N)]

theorem porterlaw06_BoxOther_ok1 {N : Nat} {c : Ctx} (hb : Base Go.Proofs.Tryd.prog (porterlaw06_BoxOther_E N) c) : CodeOk Go.Proofs.Tryd.prog c (nodeAt porterlaw06_BoxOther_body [0, 1]) (porterlaw06_BoxOther_h1 N) :=
  piece_ok (s := [(0, .v .str), (0, .v .str), (0, .v .str)]) (m := 58) (g := porterlaw06_BoxOther_g1 N) [0, 1, 2] (evN_sound hb N (porterlaw06_BoxOther_t1 N) porterlaw06_BoxOther_L porterlaw06_BoxOther_body (TabOk.cons (porterlaw06_BoxOther_ok2 hb) TabOk.nil) [0, 1] _ rfl) (fun x K => by kernel_rfl)

noncomputable def porterlaw06_BoxOther_p4 (N : Nat) (k : (List UInt8)) (m : (List UInt8)) (s : (List UInt8)) (e : Int) (f : Int) (k0 : Bool → Option Bool) : Option Bool :=
  cond (e == (0 : Int))
  (k0 (f == (8 : Int)))
  (k0 false)

noncomputable def porterlaw06_BoxOther_g4 (N : Nat) (x : denS [(0, .v .str), (0, .v .str), (5, .v .str), (0, .v (.int .i64)), (1, .v (.int .i64))]) (K : Ex → List A → Option Bool) : Option Bool :=
  porterlaw06_BoxOther_p4 N x.1 x.2.1 x.2.2.1 x.2.2.2.1 x.2.2.2.2.1 (fun a4 => (K .normal (mkS [(0, .v .str), (0, .v .str), (5, .v .str), (0, .v (.int .i64)), (38, .v .bool)] 13 (x.1, x.2.1, x.2.2.1, x.2.2.2.1, a4, ()))))

noncomputable def porterlaw06_BoxOther_h4 (N : Nat) : Hd Bool := fun st K => (unS [(0, .v .str), (0, .v .str), (5, .v .str), (0, .v (.int .i64)), (1, .v (.int .i64))] 50 (restr [8, 10, 0, 7, 1] 0 st)).bind fun x => porterlaw06_BoxOther_g4 N x K

noncomputable def porterlaw06_BoxOther_t4 (N : Nat) : Tab Bool := []

theorem porterlaw06_BoxOther_ok4 {N : Nat} {c : Ctx} (hb : Base Go.Proofs.Tryd.prog (porterlaw06_BoxOther_E N) c) : CodeOk Go.Proofs.Tryd.prog c (nodeAt porterlaw06_BoxOther_body [0, 0, 1, 1, 1, 1]) (porterlaw06_BoxOther_h4 N) :=
  piece_ok (s := [(0, .v .str), (0, .v .str), (5, .v .str), (0, .v (.int .i64)), (1, .v (.int .i64))]) (m := 50) (g := porterlaw06_BoxOther_g4 N) [8, 10, 0, 7, 1] (evN_sound hb N (porterlaw06_BoxOther_t4 N) porterlaw06_BoxOther_L porterlaw06_BoxOther_body TabOk.nil [0, 0, 1, 1, 1, 1] _ rfl) (fun x K => by kernel_rfl)

noncomputable def porterlaw06_BoxOther_p3 (N : Nat) (k : (List UInt8)) (m : (List UInt8)) (s : (List UInt8)) (e : Int) (f : Int) (k0 : Bool → Option Bool) (k1 : Option Bool) : Option Bool :=
  porterlaw06_BoxOther_p4 N k m s e f
  (fun x47 => cond x47
    ((porterlaw06_works N).bind fun y =>
      k0 y)
    (k1))

noncomputable def porterlaw06_BoxOther_g3 (N : Nat) (x : denS [(0, .v .str), (0, .v .str), (5, .v .str), (0, .v (.int .i64)), (1, .v (.int .i64))]) (K : Ex → List A → Option Bool) : Option Bool :=
  porterlaw06_BoxOther_p3 N x.1 x.2.1 x.2.2.1 x.2.2.2.1 x.2.2.2.2.1 (fun a0 => (K .ret (mkS [(6, .v .bool)] 54 (a0, ())))) (K .normal (mkS [(0, .v .str), (0, .v .str), (5, .v .str), (0, .v (.int .i64))] 52 (x.1, x.2.1, x.2.2.1, x.2.2.2.1, ())))

noncomputable def porterlaw06_BoxOther_h3 (N : Nat) : Hd Bool := fun st K => (unS [(0, .v .str), (0, .v .str), (5, .v .str), (0, .v (.int .i64)), (1, .v (.int .i64))] 50 (restr [8, 10, 0, 7, 1] 0 st)).bind fun x => porterlaw06_BoxOther_g3 N x K

noncomputable def porterlaw06_BoxOther_t3 (N : Nat) : Tab Bool := [([0, 0, 1, 1, 1, 1], porterlaw06_BoxOther_h4 N)]

theorem porterlaw06_BoxOther_ok3 {N : Nat} {c : Ctx} (hb : Base Go.Proofs.Tryd.prog (porterlaw06_BoxOther_E N) c) : CodeOk Go.Proofs.Tryd.prog c (nodeAt porterlaw06_BoxOther_body [0, 1, 1, 1, 1]) (porterlaw06_BoxOther_h3 N) :=
  piece_ok (s := [(0, .v .str), (0, .v .str), (5, .v .str), (0, .v (.int .i64)), (1, .v (.int .i64))]) (m := 50) (g := porterlaw06_BoxOther_g3 N) [8, 10, 0, 7, 1] (evN_sound hb N (porterlaw06_BoxOther_t3 N) porterlaw06_BoxOther_L porterlaw06_BoxOther_body (TabOk.cons (porterlaw06_BoxOther_ok4 hb) TabOk.nil) [0, 1, 1, 1, 1] _ rfl) (fun x K => by kernel_rfl)

noncomputable def porterlaw06_BoxOther (N : Nat) (k : (List UInt8)) (m : (List UInt8)) (text : (List UInt8)) : Option Bool :=
  porterlaw06_BoxOther_p1 N k m text
  (fun x6 => some x6)
  ((box_Seal N k ([(48 : UInt8), (49 : UInt8), (50 : UInt8), (51 : UInt8), (52 : UInt8), (53 : UInt8), (54 : UInt8), (55 : UInt8), (56 : UInt8), (57 : UInt8), (97 : UInt8), (98 : UInt8), (99 : UInt8), (100 : UInt8), (101 : UInt8), (102 : UInt8)] : List UInt8) text).bind fun y =>
    (box_Open N m y.1).bind fun y1 =>
    porterlaw06_BoxOther_p3 N k m y.1 y.2.1 y1.2.1
    (fun x61 => some x61)
    (cond (y.2.1 == (0 : Int))
      ((porterref06_Texts N k y.1).bind fun y2 =>
        (porterref06_Texts N m y.1).bind fun y3 =>
        cond (decide ((((List.length y2) + (List.length y3)) * 16) ≤ 70368744177664))
        ((porterref03_Clash N (y2 ++ y3)).bind fun y4 =>
          some y4)
        (none))
      (some false)))

noncomputable def porterlaw06_BoxOther_t (N : Nat) : Tab Bool := [([0, 1], porterlaw06_BoxOther_h1 N), ([0, 1, 1, 1, 1], porterlaw06_BoxOther_h3 N)]

theorem porterlaw06_BoxOther_link (N : Nat) (x : denS [(0, .v .str), (0, .v .str), (0, .v .str)]) : evFX (porterlaw06_BoxOther_E N) N (porterlaw06_BoxOther_t N) porterlaw06_BoxOther_L Go.Proofs.Tryd.f6 (mkS [(0, .v .str), (0, .v .str), (0, .v .str)] 0 x) (kRes (.v .bool) 3) = porterlaw06_BoxOther N x.1 x.2.1 x.2.2.1 := by kernel_rfl

noncomputable def porterlaw06_BoxOther_res (N : Nat) : List A → Res := resOf [(0, .v .str), (0, .v .str), (0, .v .str)] (fun x => porterlaw06_BoxOther N x.1 x.2.1 x.2.2.1) (oRes (.v .bool) 3)

theorem porterlaw06_BoxOther_ct (N : Nat) : Contract Go.Proofs.Tryd.prog glob 6 (porterlaw06_BoxOther_res N) :=
  Contract.of (E := porterlaw06_BoxOther_E N) (H := porterlaw06_BoxOther_t N) (L := porterlaw06_BoxOther_L) (N := N) (body := porterlaw06_BoxOther_body) (K := (kRes (.v .bool) 3)) (porterlaw06_BoxOther_Eok N) Go.Proofs.Tryd.func6 (by kernel_rfl) (by decide) (fun _ hb => (TabOk.cons (porterlaw06_BoxOther_ok1 hb) (TabOk.cons (porterlaw06_BoxOther_ok3 hb) TabOk.nil))) (fun x y h => by rw [porterlaw06_BoxOther_link]; exact h) (kRes_ok (s := (.v .bool)) (m := 3))

abbrev chain_Root_R : Type := (List UInt8)

noncomputable def chain_Root_body : Code := (Go.Proofs.Tryd.f23.body).getD .skip

noncomputable def chain_Root_L : List (List Nat × List Nat) := [([0], [0, 1]), ([0, 1], [4]), ([1, 1], [4])]

noncomputable def chain_Root_E (N : Nat) : Env := mkEnv tys glob [(62, hmac_Parts_res N)] [] [] [] false [] [(98, stream_blocks1_itr N), (106, hmac_framed1_itr N)]

theorem chain_Root_Eok (N : Nat) : EnvOk Go.Proofs.Tryd.prog (chain_Root_E N) := mkEnv_ok mixed tys_ok (FnsOk.cons (hmac_Parts_ct N) (FnsOk.nil)) (ItsOk.cons (stream_blocks1_it N) (ItsOk.cons (hmac_framed1_it N) (ItsOk.nil)))

noncomputable def chain_Root (N : Nat) (key : (List UInt8)) (id_ : (List UInt8)) : Option (List UInt8) :=
  (hmac_Parts N key ([([(114 : UInt8), (111 : UInt8), (111 : UInt8), (116 : UInt8)] : List UInt8), id_] : List (List UInt8))).bind fun y =>
  some y

noncomputable def chain_Root_t (N : Nat) : Tab (List UInt8) := []

theorem chain_Root_link (N : Nat) (x : denS [(0, .v .str), (0, .v .str)]) : evFX (chain_Root_E N) N (chain_Root_t N) chain_Root_L Go.Proofs.Tryd.f23 (mkS [(0, .v .str), (0, .v .str)] 0 x) (kRes (.v .str) 2) = chain_Root N x.1 x.2.1 := by kernel_rfl

noncomputable def chain_Root_res (N : Nat) : List A → Res := resOf [(0, .v .str), (0, .v .str)] (fun x => chain_Root N x.1 x.2.1) (oRes (.v .str) 2)

theorem chain_Root_ct (N : Nat) : Contract Go.Proofs.Tryd.prog glob 23 (chain_Root_res N) :=
  Contract.of (E := chain_Root_E N) (H := chain_Root_t N) (L := chain_Root_L) (N := N) (body := chain_Root_body) (K := (kRes (.v .str) 2)) (chain_Root_Eok N) Go.Proofs.Tryd.func23 (by kernel_rfl) (by decide) (fun _ hb => TabOk.nil) (fun x y h => by rw [chain_Root_link]; exact h) (kRes_ok (s := (.v .str)) (m := 2))

abbrev chain_tag_next_R : Type := (List UInt8)

noncomputable def chain_tag_next_body : Code := (Go.Proofs.Tryd.f63.body).getD .skip

noncomputable def chain_tag_next_L : List (List Nat × List Nat) := [([0], [3, 0]), ([0, 0, 1], [7, 0, 3]), ([1, 0, 1], [0, 3]), ([0, 0, 1, 0, 1], [4]), ([1, 0, 1, 0, 1], [4]), ([0, 1, 1], [4]), ([1, 1, 1], [4])]

noncomputable def chain_tag_next_E (N : Nat) : Env := mkEnv tys glob [(62, hmac_Parts_res N)] [] [] [] false [] [(98, stream_blocks1_itr N), (106, hmac_framed1_itr N)]

theorem chain_tag_next_Eok (N : Nat) : EnvOk Go.Proofs.Tryd.prog (chain_tag_next_E N) := mkEnv_ok mixed tys_ok (FnsOk.cons (hmac_Parts_ct N) (FnsOk.nil)) (ItsOk.cons (stream_blocks1_it N) (ItsOk.cons (hmac_framed1_it N) (ItsOk.nil)))

noncomputable def chain_tag_next (N : Nat) (t : (List UInt8)) (l : ((List UInt8) × ((List UInt8) × Unit))) : Option (List UInt8) :=
  cond (l.2.1 == ([] : List UInt8))
  ((hmac_Parts N t ([([(102 : UInt8), (105 : UInt8), (114 : UInt8), (115 : UInt8), (116 : UInt8)] : List UInt8), l.1] : List (List UInt8))).bind fun y =>
    some y)
  ((hmac_Parts N t ([([(116 : UInt8), (104 : UInt8), (105 : UInt8), (114 : UInt8), (100 : UInt8)] : List UInt8), l.2.1, l.1] : List (List UInt8))).bind fun y1 =>
    some y1)

noncomputable def chain_tag_next_t (N : Nat) : Tab (List UInt8) := []

theorem chain_tag_next_link (N : Nat) (x : denS [(0, .v .str), (0, .v (.pair .str (.pair .str .unit)))]) : evFX (chain_tag_next_E N) N (chain_tag_next_t N) chain_tag_next_L Go.Proofs.Tryd.f63 (mkS [(0, .v .str), (0, .v (.pair .str (.pair .str .unit)))] 0 x) (kRes (.v .str) 2) = chain_tag_next N x.1 x.2.1 := by kernel_rfl

noncomputable def chain_tag_next_res (N : Nat) : List A → Res := resOf [(0, .v .str), (0, .v (.pair .str (.pair .str .unit)))] (fun x => chain_tag_next N x.1 x.2.1) (oRes (.v .str) 2)

theorem chain_tag_next_ct (N : Nat) : Contract Go.Proofs.Tryd.prog glob 63 (chain_tag_next_res N) :=
  Contract.of (E := chain_tag_next_E N) (H := chain_tag_next_t N) (L := chain_tag_next_L) (N := N) (body := chain_tag_next_body) (K := (kRes (.v .str) 2)) (chain_tag_next_Eok N) Go.Proofs.Tryd.func63 (by kernel_rfl) (by decide) (fun _ hb => TabOk.nil) (fun x y h => by rw [chain_tag_next_link]; exact h) (kRes_ok (s := (.v .str)) (m := 2))

abbrev chain_along1_R : Type := (List ((List UInt8) × Unit))

noncomputable def chain_along1_body : Code := (Go.Proofs.Tryd.f84.body).getD .skip

noncomputable def chain_along1_L : List (List Nat × List Nat) := [([0], [0, 5, 2, 3]), ([0, 0, 1], [12, 0, 2, 3, 5]), ([1, 0, 1], [2, 3, 5, 0]), ([0, 1, 0, 1], [0]), ([0, 1, 1], [15, 14, 13, 3, 5, 0]), ([0, 1, 1, 1], [15, 14, 13, 3, 5, 0]), ([0, 0, 0, 1, 1, 1], [16, 13, 15, 3, 5, 0, 14]), ([0, 1, 0, 0, 1, 1, 1], [13, 15, 3, 5, 0, 14]), ([1, 0, 1, 0, 0, 1, 1, 1], [0]), ([0, 0, 0, 1, 1, 0, 0, 1, 1, 1], [3, 5, 7, 0, 15, 14, 13]), ([0, 1, 0, 0, 1, 1, 0, 0, 1, 1, 1], [0, 5, 15, 14, 13, 3]), ([0, 1, 1, 0, 0, 1, 1, 0, 0, 1, 1, 1], [26, 0, 15, 14, 13, 3, 5]), ([1, 1, 1, 0, 0, 1, 1, 0, 0, 1, 1, 1], [15, 14, 13, 3, 5, 0]), ([0, 1, 1, 1, 0, 0, 1, 1, 0, 0, 1, 1, 1], [0]), ([0, 1, 1, 0, 0, 1, 1, 1], [15, 14, 13, 3, 5, 0]), ([1, 1, 1, 0, 0, 1, 1, 1], [15, 14, 13, 3, 5, 0]), ([1, 1, 1], [0])]

noncomputable def chain_along1_E (N : Nat) : Env := mkEnv tys glob [(63, chain_tag_next_res N)] [] [] [0] false [] []

theorem chain_along1_Eok (N : Nat) : EnvOk Go.Proofs.Tryd.prog (chain_along1_E N) := mkEnv_ok mixed tys_ok (FnsOk.cons (chain_tag_next_ct N) (FnsOk.nil)) ItsOk.nil

noncomputable def chain_along1_s1 (N : Nat) (x3 : Unit) (x13 : (List ((List UInt8) × ((List UInt8) × Unit)))) (x14 : Int) (t : (List UInt8)) (x15 : Int) (rec : (List UInt8) → Int → Option (List ((List UInt8) × Unit))) (k0 : Option (List ((List UInt8) × Unit))) (k1 : Option (List ((List UInt8) × Unit))) : Option (List ((List UInt8) × Unit)) :=
  cond (decide (x15 < x14))
  (cond (Go.Lift.inR x15 (List.length x13))
    ((chain_tag_next N t (List.getD x13 (Int.toNat x15) (([] : List UInt8), (([] : List UInt8), ())))).bind fun y =>
      comb (y, ())
      (rec y (Go.IntKind.wrap Go.IntKind.i64 (x15 + (1 : Int))))
      (k0))
    (none))
  (k1)

noncomputable def chain_along1_p1 (N : Nat) (x3 : Unit) (t : (List UInt8)) (x13 : (List ((List UInt8) × ((List UInt8) × Unit)))) (x14 : Int) (x15 : Int) (k0 : Option (List ((List UInt8) × Unit))) (k1 : Option (List ((List UInt8) × Unit))) : Option (List ((List UInt8) × Unit)) :=
  iter (fun (v : ((List UInt8) × Int)) r => chain_along1_s1 N x3 x13 x14 v.1 v.2 (fun t x15 => (r (t, x15))) k0 k1) N (t, x15)

noncomputable def chain_along1_g1 (N : Nat) (i : (Unit × (List ((List UInt8) × ((List UInt8) × Unit))) × Int)) (v : ((List UInt8) × Int)) (r : ((List UInt8) × Int) → Option (List ((List UInt8) × Unit))) (K : Ex → List A → Option (List ((List UInt8) × Unit))) : Option (List ((List UInt8) × Unit)) :=
  chain_along1_s1 N i.1 i.2.1 i.2.2 v.1 v.2 (fun t x15 => (r (t, x15))) (K .ret (mkS [(0, .yld)] 27 ((), ()))) (K (.exit 0) (mkS [(0, .yld)] 27 ((), ())))

noncomputable def chain_along1_h1 (N : Nat) : Hd (List ((List UInt8) × Unit)) := fun st K => (unS [(0, .yld), (2, .v (.ptr (.fn 63 .unit))), (1, .v .str), (7, .v (.sl (.pair .str (.pair .str .unit)))), (0, .v (.int .i64)), (0, .v (.int .i64))] 12 (restr [15, 14, 13, 3, 5, 0] 0 st)).bind fun x => iter (fun v r => chain_along1_g1 N ((fun x => (x.2.1, x.2.2.2.1, x.2.2.2.2.1)) x) v r K) N ((fun x => (x.2.2.1, x.2.2.2.2.2.1)) x)

noncomputable def chain_along1_t1 (N : Nat) : Tab (List ((List UInt8) × Unit)) := []

theorem chain_along1_ok1 {N : Nat} {G : GY [.str]} (hG : RestrOk G) (hev : EvOk G Go.Proofs.Tryd.prog (chain_along1_E N) N chain_along1_L chain_along1_body) : YOk G Go.Proofs.Tryd.prog (nodeAt chain_along1_body [0, 1, 1, 1]) (chain_along1_h1 N) :=
  loopY_ok hG (s := [(0, .yld), (2, .v (.ptr (.fn 63 .unit))), (1, .v .str), (7, .v (.sl (.pair .str (.pair .str .unit)))), (0, .v (.int .i64)), (0, .v (.int .i64))]) (m := 12) (chain_along1_g1 N) [15, 14, 13, 3, 5, 0] N (fun x => (x.2.1, x.2.2.2.1, x.2.2.2.2.1)) (fun x => (x.2.2.1, x.2.2.2.2.2.1)) (fun i v => ((), i.1, v.1, i.2.1, i.2.2, v.2, ())) (fun _ => rfl) (hev (chain_along1_t1 N) TabOkY.nil [0, 0, 1, 1, 1]) (fun i v r K => by kernel_rfl)

noncomputable def chain_along1 (N : Nat) (x1 : (List UInt8)) (x2 : (List ((List UInt8) × ((List UInt8) × Unit)))) (x3 : Unit) : Option (List ((List UInt8) × Unit)) :=
  comb (x1, ())
  (chain_along1_p1 N x3 x1 x2 (((List.length x2) : Nat) : Int) (0 : Int)
    (some ([] : List ((List UInt8) × Unit)))
    (some ([] : List ((List UInt8) × Unit))))
  (some ([] : List ((List UInt8) × Unit)))

noncomputable def chain_along1_t (N : Nat) : Tab (List ((List UInt8) × Unit)) := [([0, 1, 1, 1], chain_along1_h1 N)]

theorem chain_along1_link (N : Nat) (x : T.den (.pair (.ptr .str) (.pair (.ptr (.sl (.pair .str (.pair .str .unit)))) (.pair (.ptr (.fn 63 .unit)) .unit)))) : evYX (chain_along1_E N) [.str] comb N (chain_along1_t N) chain_along1_L Go.Proofs.Tryd.f84 [.v (.ptr .str) x.1, .v (.ptr (.sl (.pair .str (.pair .str .unit)))) x.2.1, .v (.ptr (.fn 63 .unit)) x.2.2.1] = chain_along1 N x.1 x.2.1 x.2.2.1 := by kernel_rfl

noncomputable def chain_along1_itr (N : Nat) : Dat → ItRes := itRes (ts := [.str]) (.pair (.ptr .str) (.pair (.ptr (.sl (.pair .str (.pair .str .unit)))) (.pair (.ptr (.fn 63 .unit)) .unit))) (fun x => chain_along1 N x.1 x.2.1 x.2.2.1)

theorem chain_along1_it (N : Nat) : ItOk Go.Proofs.Tryd.prog glob 84 (chain_along1_itr N) := ItOk.of (ts := [.str]) (E := chain_along1_E N) (H := chain_along1_t N) (L := chain_along1_L) (N := N) (body := chain_along1_body) (chain_along1_Eok N) rfl Go.Proofs.Tryd.func84 (by kernel_rfl) (by decide) (fun G hG hev => (TabOkY.cons (chain_along1_ok1 hG hev) TabOkY.nil)) (fun x y h => ⟨_, rfl, by rw [chain_along1_link]; exact h⟩)

abbrev chain_along_R : Type := ((List UInt8) × ((List ((List UInt8) × ((List UInt8) × Unit))) × (Unit × Unit)))

noncomputable def chain_along_body : Code := (Go.Proofs.Tryd.f64.body).getD .skip

noncomputable def chain_along_L : List (List Nat × List Nat) := [([0], [3, 4, 5]), ([0, 1], [6]), ([1, 1], [6])]

noncomputable def chain_along_E (N : Nat) : Env := mkEnv tys glob [(63, chain_tag_next_res N)] [] [] [] false [(5, (.fn 63 .unit))] [(84, chain_along1_itr N), (98, stream_blocks1_itr N), (106, hmac_framed1_itr N)]

theorem chain_along_Eok (N : Nat) : EnvOk Go.Proofs.Tryd.prog (chain_along_E N) := mkEnv_ok mixed tys_ok (FnsOk.cons (chain_tag_next_ct N) (FnsOk.nil)) (ItsOk.cons (chain_along1_it N) (ItsOk.cons (stream_blocks1_it N) (ItsOk.cons (hmac_framed1_it N) (ItsOk.nil))))

noncomputable def chain_along (N : Nat) (first : (List UInt8)) (links : (List ((List UInt8) × ((List UInt8) × Unit)))) : Option ((List UInt8) × ((List ((List UInt8) × ((List UInt8) × Unit))) × (Unit × Unit))) :=
  some (first, (links, ((), ())))

noncomputable def chain_along_t (N : Nat) : Tab ((List UInt8) × ((List ((List UInt8) × ((List UInt8) × Unit))) × (Unit × Unit))) := []

theorem chain_along_link (N : Nat) (x : denS [(0, .v .str), (0, .v (.sl (.pair .str (.pair .str .unit)))), (0, .fnc 63)]) : evFX (chain_along_E N) N (chain_along_t N) chain_along_L Go.Proofs.Tryd.f64 (mkS [(0, .v .str), (0, .v (.sl (.pair .str (.pair .str .unit)))), (0, .fnc 63)] 0 x) (kRes (.v (.fn 84 (.pair (.ptr .str) (.pair (.ptr (.sl (.pair .str (.pair .str .unit)))) (.pair (.ptr (.fn 63 .unit)) .unit))))) 3) = chain_along N x.1 x.2.1 := by kernel_rfl

noncomputable def chain_along_res (N : Nat) : List A → Res := resOf [(0, .v .str), (0, .v (.sl (.pair .str (.pair .str .unit)))), (0, .fnc 63)] (fun x => chain_along N x.1 x.2.1) (oRes (.v (.fn 84 (.pair (.ptr .str) (.pair (.ptr (.sl (.pair .str (.pair .str .unit)))) (.pair (.ptr (.fn 63 .unit)) .unit))))) 3)

theorem chain_along_ct (N : Nat) : Contract Go.Proofs.Tryd.prog glob 64 (chain_along_res N) :=
  Contract.of (E := chain_along_E N) (H := chain_along_t N) (L := chain_along_L) (N := N) (body := chain_along_body) (K := (kRes (.v (.fn 84 (.pair (.ptr .str) (.pair (.ptr (.sl (.pair .str (.pair .str .unit)))) (.pair (.ptr (.fn 63 .unit)) .unit))))) 3)) (chain_along_Eok N) Go.Proofs.Tryd.func64 (by kernel_rfl) (by decide) (fun _ hb => TabOk.nil) (fun x y h => by rw [chain_along_link]; exact h) (kRes_ok (s := (.v (.fn 84 (.pair (.ptr .str) (.pair (.ptr (.sl (.pair .str (.pair .str .unit)))) (.pair (.ptr (.fn 63 .unit)) .unit)))))) (m := 3))

abbrev chain_Tags_R : Type := (List (List UInt8))

noncomputable def chain_Tags_body : Code := (Go.Proofs.Tryd.f33.body).getD .skip

noncomputable def chain_Tags_L : List (List Nat × List Nat) := [([0], [3, 0]), ([0, 1], [0, 3, 5]), ([0, 0, 1, 1], [18, 5]), ([0, 1, 0, 1, 1], [5]), ([0, 0, 1, 0, 1, 1], [5, 6]), ([0, 1, 0, 1, 0, 1, 1], [5]), ([1, 0, 1, 0, 1, 1], [5]), ([1, 0, 1, 1], [5]), ([0, 1, 1, 1], [4]), ([1, 1, 1, 1], [4])]

noncomputable def chain_Tags_E (N : Nat) : Env := mkEnv tys glob [(64, chain_along_res N), (63, chain_tag_next_res N), (23, chain_Root_res N)] [(4, .str)] [] [] false [(5, (.own .str))] [(84, chain_along1_itr N), (98, stream_blocks1_itr N), (106, hmac_framed1_itr N)]

theorem chain_Tags_Eok (N : Nat) : EnvOk Go.Proofs.Tryd.prog (chain_Tags_E N) := mkEnv_ok mixed tys_ok (FnsOk.cons (chain_along_ct N) (FnsOk.cons (chain_tag_next_ct N) (FnsOk.cons (chain_Root_ct N) (FnsOk.nil)))) (ItsOk.cons (chain_along1_it N) (ItsOk.cons (stream_blocks1_it N) (ItsOk.cons (hmac_framed1_it N) (ItsOk.nil))))

noncomputable def chain_Tags_s1 (N : Nat) (tags_1 : (List (List UInt8))) (y : ((List UInt8) × Unit)) (rec : (List (List UInt8)) → Option (List (List UInt8))) (k0 : (List (List UInt8)) → Option (List (List UInt8))) : Option (List (List UInt8)) :=
  cond (decide ((((List.length tags_1) + 1) * 16) ≤ 70368744177664))
  (rec (tags_1 ++ ([y.1] : List (List UInt8))))
  (none)

noncomputable def chain_Tags_fit1 (N : Nat) (tags : (List (List UInt8))) (x18 : ((List UInt8) × ((List ((List UInt8) × ((List UInt8) × Unit))) × (Unit × Unit)))) : Option (List ((List UInt8) × Unit)) := (chain_along1 N x18.1 x18.2.1 x18.2.2.1)

noncomputable def chain_Tags_i1 (N : Nat) (tags : (List (List UInt8))) (x18 : ((List UInt8) × ((List ((List UInt8) × ((List UInt8) × Unit))) × (Unit × Unit)))) : Unit := ()

noncomputable def chain_Tags_v1 (N : Nat) (tags : (List (List UInt8))) (x18 : ((List UInt8) × ((List ((List UInt8) × ((List UInt8) × Unit))) × (Unit × Unit)))) : (List (List UInt8)) := tags

noncomputable def chain_Tags_p1 (N : Nat) (tags : (List (List UInt8))) (x18 : ((List UInt8) × ((List ((List UInt8) × ((List UInt8) × Unit))) × (Unit × Unit)))) (k0 : (List (List UInt8)) → Option (List (List UInt8))) : Option (List (List UInt8)) :=
  (chain_Tags_fit1 N tags x18).bind fun ys => iterL (fun (y : ((List UInt8) × Unit)) (v : (List (List UInt8))) r => chain_Tags_s1 N v y (fun tags_1 => (r tags_1)) k0) (fun (v : (List (List UInt8))) => k0 v) ys tags

noncomputable def chain_Tags_g1 (N : Nat) (y : ((List UInt8) × Unit)) (i : Unit) (v : (List (List UInt8))) (r : (List (List UInt8)) → Option (List (List UInt8))) (K : Ex → List A → Option (List (List UInt8))) : Option (List (List UInt8)) :=
  chain_Tags_s1 N v y (fun tags_1 => (r tags_1)) (fun a0 => (K .normal (mkS [(5, .box (.own .str))] 19 (a0, ()))))

noncomputable def chain_Tags_h1 (N : Nat) : Hd (List (List UInt8)) := fun st K => (unS [(5, .box (.own .str)), (12, .v (.fn 84 (.pair (.ptr .str) (.pair (.ptr (.sl (.pair .str (.pair .str .unit)))) (.pair (.ptr (.fn 63 .unit)) .unit)))))] 6 (restr [18, 5] 0 st)).bind fun x => ((fun x => chain_Tags_fit1 N x.1 x.2.1) x).bind fun xs => iterL (fun y v r => chain_Tags_g1 N y ((fun x => chain_Tags_i1 N x.1 x.2.1) x) v r K) (fun v => K .normal (mkS [(5, .box (.own .str))] 19 ((fun i v => (v, ())) ((fun x => chain_Tags_i1 N x.1 x.2.1) x) v))) xs ((fun x => chain_Tags_v1 N x.1 x.2.1) x)

noncomputable def chain_Tags_t1 (N : Nat) : Tab (List (List UInt8)) := []

theorem chain_Tags_ok1 {N : Nat} {c : Ctx} (hb : Base Go.Proofs.Tryd.prog (chain_Tags_E N) c) : CodeOk Go.Proofs.Tryd.prog c (nodeAt chain_Tags_body [0, 1, 0, 1, 1]) (chain_Tags_h1 N) :=
  rf_ok (ts := [.str]) (s := [(5, .box (.own .str)), (12, .v (.fn 84 (.pair (.ptr .str) (.pair (.ptr (.sl (.pair .str (.pair .str .unit)))) (.pair (.ptr (.fn 63 .unit)) .unit)))))]) (m := 6) (s2 := [(5, .box (.own .str))]) (m2 := 19) [18, 5] (fun x => chain_Tags_fit1 N x.1 x.2.1) (fun x => chain_Tags_i1 N x.1 x.2.1) (fun x => chain_Tags_v1 N x.1 x.2.1) (fun i v => (v, ())) (rfF (chain_Tags_E N) N [.str] (nodeAt chain_Tags_body [0, 1, 0, 1, 1])) (chain_Tags_g1 N) (evN_sound hb N [] chain_Tags_L chain_Tags_body TabOk.nil [0, 1, 0, 1, 1] _ rfl) (fun x K => by kernel_rfl) (fun y i v r K => by kernel_rfl)

noncomputable def chain_Tags (N : Nat) (key : (List UInt8)) (t : ((List UInt8) × ((List ((List UInt8) × ((List UInt8) × Unit))) × ((List UInt8) × Unit)))) : Option (List (List UInt8)) :=
  cond (decide (((0 : Int) ≤ (0 : Int)) ∧ (((0 : Int) ≤ (Go.IntKind.wrap Go.IntKind.i64 ((1 : Int) + (((List.length t.2.1) : Nat) : Int)))) ∧ ((((Go.IntKind.wrap Go.IntKind.i64 ((1 : Int) + (((List.length t.2.1) : Nat) : Int))) * (16 : Int)) ≤ (281474976710656 : Int)) ∧ ((Go.IntKind.wrap Go.IntKind.i64 ((1 : Int) + (((List.length t.2.1) : Nat) : Int))) ≤ (9223372036854775807 : Int))))))
  ((chain_Root N key t.1).bind fun y =>
    chain_Tags_p1 N ([] : List (List UInt8)) (y, (t.2.1, ((), ())))
    (fun tags_1 => some tags_1))
  (none)

noncomputable def chain_Tags_t (N : Nat) : Tab (List (List UInt8)) := [([0, 1, 0, 1, 1], chain_Tags_h1 N)]

theorem chain_Tags_link (N : Nat) (x : denS [(0, .v .str), (0, .v (.pair .str (.pair (.sl (.pair .str (.pair .str .unit))) (.pair .str .unit))))]) : evFX (chain_Tags_E N) N (chain_Tags_t N) chain_Tags_L Go.Proofs.Tryd.f33 (mkS [(0, .v .str), (0, .v (.pair .str (.pair (.sl (.pair .str (.pair .str .unit))) (.pair .str .unit))))] 0 x) (kRes (.v (.sl .str)) 2) = chain_Tags N x.1 x.2.1 := by kernel_rfl

noncomputable def chain_Tags_res (N : Nat) : List A → Res := resOf [(0, .v .str), (0, .v (.pair .str (.pair (.sl (.pair .str (.pair .str .unit))) (.pair .str .unit))))] (fun x => chain_Tags N x.1 x.2.1) (oRes (.v (.sl .str)) 2)

theorem chain_Tags_ct (N : Nat) : Contract Go.Proofs.Tryd.prog glob 33 (chain_Tags_res N) :=
  Contract.of (E := chain_Tags_E N) (H := chain_Tags_t N) (L := chain_Tags_L) (N := N) (body := chain_Tags_body) (K := (kRes (.v (.sl .str)) 2)) (chain_Tags_Eok N) Go.Proofs.Tryd.func33 (by kernel_rfl) (by decide) (fun _ hb => (TabOk.cons (chain_Tags_ok1 hb) TabOk.nil)) (fun x y h => by rw [chain_Tags_link]; exact h) (kRes_ok (s := (.v (.sl .str))) (m := 2))

abbrev chain_Last_R : Type := (List UInt8)

noncomputable def chain_Last_body : Code := (Go.Proofs.Tryd.f36.body).getD .skip

noncomputable def chain_Last_L : List (List Nat × List Nat) := [([0], [0, 3]), ([0, 1], [0, 3, 5]), ([0, 0, 1, 1], [13, 5]), ([0, 1, 0, 1, 1], [5]), ([0, 0, 1, 0, 1, 1], [6, 5]), ([0, 1, 0, 1, 0, 1, 1], [5]), ([1, 0, 1, 0, 1, 1], [5]), ([1, 0, 1, 1], [5]), ([0, 1, 1, 1], [4]), ([1, 1, 1, 1], [4])]

noncomputable def chain_Last_E (N : Nat) : Env := mkEnv tys glob [(64, chain_along_res N), (63, chain_tag_next_res N), (23, chain_Root_res N)] [] [] [] false [] [(84, chain_along1_itr N), (98, stream_blocks1_itr N), (106, hmac_framed1_itr N)]

theorem chain_Last_Eok (N : Nat) : EnvOk Go.Proofs.Tryd.prog (chain_Last_E N) := mkEnv_ok mixed tys_ok (FnsOk.cons (chain_along_ct N) (FnsOk.cons (chain_tag_next_ct N) (FnsOk.cons (chain_Root_ct N) (FnsOk.nil)))) (ItsOk.cons (chain_along1_it N) (ItsOk.cons (stream_blocks1_it N) (ItsOk.cons (hmac_framed1_it N) (ItsOk.nil))))

noncomputable def chain_Last_s1 (N : Nat) (last_1 : (List UInt8)) (y : ((List UInt8) × Unit)) (rec : (List UInt8) → Option (List UInt8)) (k0 : (List UInt8) → Option (List UInt8)) : Option (List UInt8) :=
  rec y.1

noncomputable def chain_Last_fit1 (N : Nat) (last : (List UInt8)) (x13 : ((List UInt8) × ((List ((List UInt8) × ((List UInt8) × Unit))) × (Unit × Unit)))) : Option (List ((List UInt8) × Unit)) := (chain_along1 N x13.1 x13.2.1 x13.2.2.1)

noncomputable def chain_Last_i1 (N : Nat) (last : (List UInt8)) (x13 : ((List UInt8) × ((List ((List UInt8) × ((List UInt8) × Unit))) × (Unit × Unit)))) : Unit := ()

noncomputable def chain_Last_v1 (N : Nat) (last : (List UInt8)) (x13 : ((List UInt8) × ((List ((List UInt8) × ((List UInt8) × Unit))) × (Unit × Unit)))) : (List UInt8) := last

noncomputable def chain_Last_p1 (N : Nat) (last : (List UInt8)) (x13 : ((List UInt8) × ((List ((List UInt8) × ((List UInt8) × Unit))) × (Unit × Unit)))) (k0 : (List UInt8) → Option (List UInt8)) : Option (List UInt8) :=
  (chain_Last_fit1 N last x13).bind fun ys => iterL (fun (y : ((List UInt8) × Unit)) (v : (List UInt8)) r => chain_Last_s1 N v y (fun last_1 => (r last_1)) k0) (fun (v : (List UInt8)) => k0 v) ys last

noncomputable def chain_Last_g1 (N : Nat) (y : ((List UInt8) × Unit)) (i : Unit) (v : (List UInt8)) (r : (List UInt8) → Option (List UInt8)) (K : Ex → List A → Option (List UInt8)) : Option (List UInt8) :=
  chain_Last_s1 N v y (fun last_1 => (r last_1)) (fun a0 => (K .normal (mkS [(5, .box .str)] 11 (a0, ()))))

noncomputable def chain_Last_h1 (N : Nat) : Hd (List UInt8) := fun st K => (unS [(5, .box .str), (7, .v (.fn 84 (.pair (.ptr .str) (.pair (.ptr (.sl (.pair .str (.pair .str .unit)))) (.pair (.ptr (.fn 63 .unit)) .unit)))))] 3 (restr [13, 5] 0 st)).bind fun x => ((fun x => chain_Last_fit1 N x.1 x.2.1) x).bind fun xs => iterL (fun y v r => chain_Last_g1 N y ((fun x => chain_Last_i1 N x.1 x.2.1) x) v r K) (fun v => K .normal (mkS [(5, .box .str)] 11 ((fun i v => (v, ())) ((fun x => chain_Last_i1 N x.1 x.2.1) x) v))) xs ((fun x => chain_Last_v1 N x.1 x.2.1) x)

noncomputable def chain_Last_t1 (N : Nat) : Tab (List UInt8) := []

theorem chain_Last_ok1 {N : Nat} {c : Ctx} (hb : Base Go.Proofs.Tryd.prog (chain_Last_E N) c) : CodeOk Go.Proofs.Tryd.prog c (nodeAt chain_Last_body [0, 1, 0, 1, 1]) (chain_Last_h1 N) :=
  rf_ok (ts := [.str]) (s := [(5, .box .str), (7, .v (.fn 84 (.pair (.ptr .str) (.pair (.ptr (.sl (.pair .str (.pair .str .unit)))) (.pair (.ptr (.fn 63 .unit)) .unit)))))]) (m := 3) (s2 := [(5, .box .str)]) (m2 := 11) [13, 5] (fun x => chain_Last_fit1 N x.1 x.2.1) (fun x => chain_Last_i1 N x.1 x.2.1) (fun x => chain_Last_v1 N x.1 x.2.1) (fun i v => (v, ())) (rfF (chain_Last_E N) N [.str] (nodeAt chain_Last_body [0, 1, 0, 1, 1])) (chain_Last_g1 N) (evN_sound hb N [] chain_Last_L chain_Last_body TabOk.nil [0, 1, 0, 1, 1] _ rfl) (fun x K => by kernel_rfl) (fun y i v r K => by kernel_rfl)

noncomputable def chain_Last (N : Nat) (key : (List UInt8)) (t : ((List UInt8) × ((List ((List UInt8) × ((List UInt8) × Unit))) × ((List UInt8) × Unit)))) : Option (List UInt8) :=
  (chain_Root N key t.1).bind fun y =>
  chain_Last_p1 N ([] : List UInt8) (y, (t.2.1, ((), ())))
  (fun last_1 => some last_1)

noncomputable def chain_Last_t (N : Nat) : Tab (List UInt8) := [([0, 1, 0, 1, 1], chain_Last_h1 N)]

theorem chain_Last_link (N : Nat) (x : denS [(0, .v .str), (0, .v (.pair .str (.pair (.sl (.pair .str (.pair .str .unit))) (.pair .str .unit))))]) : evFX (chain_Last_E N) N (chain_Last_t N) chain_Last_L Go.Proofs.Tryd.f36 (mkS [(0, .v .str), (0, .v (.pair .str (.pair (.sl (.pair .str (.pair .str .unit))) (.pair .str .unit))))] 0 x) (kRes (.v .str) 2) = chain_Last N x.1 x.2.1 := by kernel_rfl

noncomputable def chain_Last_res (N : Nat) : List A → Res := resOf [(0, .v .str), (0, .v (.pair .str (.pair (.sl (.pair .str (.pair .str .unit))) (.pair .str .unit))))] (fun x => chain_Last N x.1 x.2.1) (oRes (.v .str) 2)

theorem chain_Last_ct (N : Nat) : Contract Go.Proofs.Tryd.prog glob 36 (chain_Last_res N) :=
  Contract.of (E := chain_Last_E N) (H := chain_Last_t N) (L := chain_Last_L) (N := N) (body := chain_Last_body) (K := (kRes (.v .str) 2)) (chain_Last_Eok N) Go.Proofs.Tryd.func36 (by kernel_rfl) (by decide) (fun _ hb => (TabOk.cons (chain_Last_ok1 hb) TabOk.nil)) (fun x y h => by rw [chain_Last_link]; exact h) (kRes_ok (s := (.v .str)) (m := 2))

abbrev chain_Seal_R : Type := (List UInt8)

noncomputable def chain_Seal_body : Code := (Go.Proofs.Tryd.f30.body).getD .skip

noncomputable def chain_Seal_L : List (List Nat × List Nat) := [([0], [0]), ([0, 1], [2]), ([1, 1], [2])]

noncomputable def chain_Seal_E (N : Nat) : Env := mkEnv tys glob [(62, hmac_Parts_res N)] [] [] [] false [] [(84, chain_along1_itr N), (98, stream_blocks1_itr N), (106, hmac_framed1_itr N)]

theorem chain_Seal_Eok (N : Nat) : EnvOk Go.Proofs.Tryd.prog (chain_Seal_E N) := mkEnv_ok mixed tys_ok (FnsOk.cons (hmac_Parts_ct N) (FnsOk.nil)) (ItsOk.cons (chain_along1_it N) (ItsOk.cons (stream_blocks1_it N) (ItsOk.cons (hmac_framed1_it N) (ItsOk.nil))))

noncomputable def chain_Seal (N : Nat) (of : (List UInt8)) : Option (List UInt8) :=
  (hmac_Parts N of ([([(115 : UInt8), (101 : UInt8), (97 : UInt8), (108 : UInt8)] : List UInt8)] : List (List UInt8))).bind fun y =>
  some y

noncomputable def chain_Seal_t (N : Nat) : Tab (List UInt8) := []

theorem chain_Seal_link (N : Nat) (x : denS [(0, .v .str)]) : evFX (chain_Seal_E N) N (chain_Seal_t N) chain_Seal_L Go.Proofs.Tryd.f30 (mkS [(0, .v .str)] 0 x) (kRes (.v .str) 1) = chain_Seal N x.1 := by kernel_rfl

noncomputable def chain_Seal_res (N : Nat) : List A → Res := resOf [(0, .v .str)] (fun x => chain_Seal N x.1) (oRes (.v .str) 1)

theorem chain_Seal_ct (N : Nat) : Contract Go.Proofs.Tryd.prog glob 30 (chain_Seal_res N) :=
  Contract.of (E := chain_Seal_E N) (H := chain_Seal_t N) (L := chain_Seal_L) (N := N) (body := chain_Seal_body) (K := (kRes (.v .str) 1)) (chain_Seal_Eok N) Go.Proofs.Tryd.func30 (by kernel_rfl) (by decide) (fun _ hb => TabOk.nil) (fun x y h => by rw [chain_Seal_link]; exact h) (kRes_ok (s := (.v .str)) (m := 1))

abbrev porterlaw34_works_R : Type := Bool

noncomputable def porterlaw34_works_body : Code := (Go.Proofs.Tryd.f22.body).getD .skip

noncomputable def porterlaw34_works_L : List (List Nat × List Nat) := [([0], []), ([0, 1], [1]), ([0, 1, 1], [2, 1]), ([0, 1, 1, 1], [0]), ([1, 1, 1, 1], [0])]

noncomputable def porterlaw34_works_E (N : Nat) : Env := mkEnv tys glob [(30, chain_Seal_res N), (36, chain_Last_res N), (33, chain_Tags_res N), (62, hmac_Parts_res N)] [(2, .str)] [] [] false [] [(84, chain_along1_itr N), (98, stream_blocks1_itr N), (106, hmac_framed1_itr N)]

theorem porterlaw34_works_Eok (N : Nat) : EnvOk Go.Proofs.Tryd.prog (porterlaw34_works_E N) := mkEnv_ok mixed tys_ok (FnsOk.cons (chain_Seal_ct N) (FnsOk.cons (chain_Last_ct N) (FnsOk.cons (chain_Tags_ct N) (FnsOk.cons (hmac_Parts_ct N) (FnsOk.nil))))) (ItsOk.cons (chain_along1_it N) (ItsOk.cons (stream_blocks1_it N) (ItsOk.cons (hmac_framed1_it N) (ItsOk.nil))))

noncomputable def porterlaw34_works (N : Nat) : Option Bool :=
  (chain_Tags N ([(107 : UInt8)] : List UInt8) (([(97 : UInt8)] : List UInt8), (([(([(98 : UInt8)] : List UInt8), (([] : List UInt8), ()))] : List ((List UInt8) × ((List UInt8) × Unit))), (([] : List UInt8), ())))).bind fun y =>
  cond ((((List.length y) : Nat) : Int) == (2 : Int))
  (cond (Go.Lift.inR (0 : Int) (List.length y))
    ((hmac_Parts N ([(107 : UInt8)] : List UInt8) ([([(114 : UInt8), (111 : UInt8), (111 : UInt8), (116 : UInt8)] : List UInt8), ([(97 : UInt8)] : List UInt8)] : List (List UInt8))).bind fun y1 =>
      cond ((List.getD y 0 ([] : List UInt8)) == y1)
      (cond (Go.Lift.inR (1 : Int) (List.length y))
        (cond (Go.Lift.inR (0 : Int) (List.length y))
          ((hmac_Parts N (List.getD y 0 ([] : List UInt8)) ([([(102 : UInt8), (105 : UInt8), (114 : UInt8), (115 : UInt8), (116 : UInt8)] : List UInt8), ([(98 : UInt8)] : List UInt8)] : List (List UInt8))).bind fun y2 =>
            cond ((List.getD y 1 ([] : List UInt8)) == y2)
            ((chain_Last N ([(107 : UInt8)] : List UInt8) (([(97 : UInt8)] : List UInt8), (([(([(98 : UInt8)] : List UInt8), (([] : List UInt8), ()))] : List ((List UInt8) × ((List UInt8) × Unit))), (([] : List UInt8), ())))).bind fun y3 =>
              cond (Go.Lift.inR (1 : Int) (List.length y))
              (cond (y3 == (List.getD y 1 ([] : List UInt8)))
                ((chain_Seal N ([(107 : UInt8)] : List UInt8)).bind fun y4 =>
                  (hmac_Parts N ([(107 : UInt8)] : List UInt8) ([([(115 : UInt8), (101 : UInt8), (97 : UInt8), (108 : UInt8)] : List UInt8)] : List (List UInt8))).bind fun y5 =>
                  some (y4 == y5))
                (some false))
              (none))
            (some false))
          (none))
        (none))
      (some false))
    (none))
  (some false)

noncomputable def porterlaw34_works_t (N : Nat) : Tab Bool := []

theorem porterlaw34_works_link (N : Nat) (x : denS []) : evFX (porterlaw34_works_E N) N (porterlaw34_works_t N) porterlaw34_works_L Go.Proofs.Tryd.f22 (mkS [] 0 x) (kRes (.v .bool) 0) = porterlaw34_works N := by kernel_rfl

noncomputable def porterlaw34_works_res (N : Nat) : List A → Res := resOf [] (fun x => porterlaw34_works N) (oRes (.v .bool) 0)

theorem porterlaw34_works_ct (N : Nat) : Contract Go.Proofs.Tryd.prog glob 22 (porterlaw34_works_res N) :=
  Contract.of (E := porterlaw34_works_E N) (H := porterlaw34_works_t N) (L := porterlaw34_works_L) (N := N) (body := porterlaw34_works_body) (K := (kRes (.v .bool) 0)) (porterlaw34_works_Eok N) Go.Proofs.Tryd.func22 (by kernel_rfl) (by decide) (fun _ hb => TabOk.nil) (fun x y h => by rw [porterlaw34_works_link]; exact h) (kRes_ok (s := (.v .bool)) (m := 0))

abbrev porterref34_RootParts_R : Type := (List (List UInt8))

noncomputable def porterref34_RootParts_body : Code := (Go.Proofs.Tryd.f25.body).getD .skip

noncomputable def porterref34_RootParts_L : List (List Nat × List Nat) := [([0], [0]), ([0, 1], [2]), ([1, 1], [2])]

noncomputable def porterref34_RootParts_E (N : Nat) : Env := mkEnv tys glob [] [] [] [] false [] [(84, chain_along1_itr N), (98, stream_blocks1_itr N), (106, hmac_framed1_itr N)]

theorem porterref34_RootParts_Eok (N : Nat) : EnvOk Go.Proofs.Tryd.prog (porterref34_RootParts_E N) := mkEnv_ok mixed tys_ok (FnsOk.nil) (ItsOk.cons (chain_along1_it N) (ItsOk.cons (stream_blocks1_it N) (ItsOk.cons (hmac_framed1_it N) (ItsOk.nil))))

noncomputable def porterref34_RootParts (N : Nat) (id_ : (List UInt8)) : Option (List (List UInt8)) :=
  some ([([(114 : UInt8), (111 : UInt8), (111 : UInt8), (116 : UInt8)] : List UInt8), id_] : List (List UInt8))

noncomputable def porterref34_RootParts_t (N : Nat) : Tab (List (List UInt8)) := []

theorem porterref34_RootParts_link (N : Nat) (x : denS [(0, .v .str)]) : evFX (porterref34_RootParts_E N) N (porterref34_RootParts_t N) porterref34_RootParts_L Go.Proofs.Tryd.f25 (mkS [(0, .v .str)] 0 x) (kRes (.v (.sl .str)) 1) = porterref34_RootParts N x.1 := by kernel_rfl

noncomputable def porterref34_RootParts_res (N : Nat) : List A → Res := resOf [(0, .v .str)] (fun x => porterref34_RootParts N x.1) (oRes (.v (.sl .str)) 1)

theorem porterref34_RootParts_ct (N : Nat) : Contract Go.Proofs.Tryd.prog glob 25 (porterref34_RootParts_res N) :=
  Contract.of (E := porterref34_RootParts_E N) (H := porterref34_RootParts_t N) (L := porterref34_RootParts_L) (N := N) (body := porterref34_RootParts_body) (K := (kRes (.v (.sl .str)) 1)) (porterref34_RootParts_Eok N) Go.Proofs.Tryd.func25 (by kernel_rfl) (by decide) (fun _ hb => TabOk.nil) (fun x y h => by rw [porterref34_RootParts_link]; exact h) (kRes_ok (s := (.v (.sl .str))) (m := 1))

abbrev chain_Next_R : Type := (List UInt8)

noncomputable def chain_Next_body : Code := (Go.Proofs.Tryd.f26.body).getD .skip

noncomputable def chain_Next_L : List (List Nat × List Nat) := [([0], [0, 3]), ([0, 1], [4]), ([1, 1], [4])]

noncomputable def chain_Next_E (N : Nat) : Env := mkEnv tys glob [(63, chain_tag_next_res N)] [] [] [] false [] [(84, chain_along1_itr N), (98, stream_blocks1_itr N), (106, hmac_framed1_itr N)]

theorem chain_Next_Eok (N : Nat) : EnvOk Go.Proofs.Tryd.prog (chain_Next_E N) := mkEnv_ok mixed tys_ok (FnsOk.cons (chain_tag_next_ct N) (FnsOk.nil)) (ItsOk.cons (chain_along1_it N) (ItsOk.cons (stream_blocks1_it N) (ItsOk.cons (hmac_framed1_it N) (ItsOk.nil))))

noncomputable def chain_Next (N : Nat) (before : (List UInt8)) (l : ((List UInt8) × ((List UInt8) × Unit))) : Option (List UInt8) :=
  (chain_tag_next N before l).bind fun y =>
  some y

noncomputable def chain_Next_t (N : Nat) : Tab (List UInt8) := []

theorem chain_Next_link (N : Nat) (x : denS [(0, .v .str), (0, .v (.pair .str (.pair .str .unit)))]) : evFX (chain_Next_E N) N (chain_Next_t N) chain_Next_L Go.Proofs.Tryd.f26 (mkS [(0, .v .str), (0, .v (.pair .str (.pair .str .unit)))] 0 x) (kRes (.v .str) 2) = chain_Next N x.1 x.2.1 := by kernel_rfl

noncomputable def chain_Next_res (N : Nat) : List A → Res := resOf [(0, .v .str), (0, .v (.pair .str (.pair .str .unit)))] (fun x => chain_Next N x.1 x.2.1) (oRes (.v .str) 2)

theorem chain_Next_ct (N : Nat) : Contract Go.Proofs.Tryd.prog glob 26 (chain_Next_res N) :=
  Contract.of (E := chain_Next_E N) (H := chain_Next_t N) (L := chain_Next_L) (N := N) (body := chain_Next_body) (K := (kRes (.v .str) 2)) (chain_Next_Eok N) Go.Proofs.Tryd.func26 (by kernel_rfl) (by decide) (fun _ hb => TabOk.nil) (fun x y h => by rw [chain_Next_link]; exact h) (kRes_ok (s := (.v .str)) (m := 2))

abbrev porterref34_NextParts_R : Type := (List (List UInt8))

noncomputable def porterref34_NextParts_body : Code := (Go.Proofs.Tryd.f27.body).getD .skip

noncomputable def porterref34_NextParts_L : List (List Nat × List Nat) := [([0], [1]), ([0, 0, 1], [5, 1]), ([1, 0, 1], [1]), ([0, 0, 1, 0, 1], [2]), ([1, 0, 1, 0, 1], [2]), ([0, 1, 1], [2]), ([1, 1, 1], [2])]

noncomputable def porterref34_NextParts_E (N : Nat) : Env := mkEnv tys glob [] [] [] [] false [] [(84, chain_along1_itr N), (98, stream_blocks1_itr N), (106, hmac_framed1_itr N)]

theorem porterref34_NextParts_Eok (N : Nat) : EnvOk Go.Proofs.Tryd.prog (porterref34_NextParts_E N) := mkEnv_ok mixed tys_ok (FnsOk.nil) (ItsOk.cons (chain_along1_it N) (ItsOk.cons (stream_blocks1_it N) (ItsOk.cons (hmac_framed1_it N) (ItsOk.nil))))

noncomputable def porterref34_NextParts (N : Nat) (l : ((List UInt8) × ((List UInt8) × Unit))) : Option (List (List UInt8)) :=
  cond (l.2.1 == ([] : List UInt8))
  (some ([([(102 : UInt8), (105 : UInt8), (114 : UInt8), (115 : UInt8), (116 : UInt8)] : List UInt8), l.1] : List (List UInt8)))
  (some ([([(116 : UInt8), (104 : UInt8), (105 : UInt8), (114 : UInt8), (100 : UInt8)] : List UInt8), l.2.1, l.1] : List (List UInt8)))

noncomputable def porterref34_NextParts_t (N : Nat) : Tab (List (List UInt8)) := []

theorem porterref34_NextParts_link (N : Nat) (x : denS [(0, .v (.pair .str (.pair .str .unit)))]) : evFX (porterref34_NextParts_E N) N (porterref34_NextParts_t N) porterref34_NextParts_L Go.Proofs.Tryd.f27 (mkS [(0, .v (.pair .str (.pair .str .unit)))] 0 x) (kRes (.v (.sl .str)) 1) = porterref34_NextParts N x.1 := by kernel_rfl

noncomputable def porterref34_NextParts_res (N : Nat) : List A → Res := resOf [(0, .v (.pair .str (.pair .str .unit)))] (fun x => porterref34_NextParts N x.1) (oRes (.v (.sl .str)) 1)

theorem porterref34_NextParts_ct (N : Nat) : Contract Go.Proofs.Tryd.prog glob 27 (porterref34_NextParts_res N) :=
  Contract.of (E := porterref34_NextParts_E N) (H := porterref34_NextParts_t N) (L := porterref34_NextParts_L) (N := N) (body := porterref34_NextParts_body) (K := (kRes (.v (.sl .str)) 1)) (porterref34_NextParts_Eok N) Go.Proofs.Tryd.func27 (by kernel_rfl) (by decide) (fun _ hb => TabOk.nil) (fun x y h => by rw [porterref34_NextParts_link]; exact h) (kRes_ok (s := (.v (.sl .str))) (m := 1))

abbrev chain_Bind_R : Type := (List UInt8)

noncomputable def chain_Bind_body : Code := (Go.Proofs.Tryd.f28.body).getD .skip

noncomputable def chain_Bind_L : List (List Nat × List Nat) := [([0], [0, 1]), ([0, 1], [4]), ([1, 1], [4])]

noncomputable def chain_Bind_E (N : Nat) : Env := mkEnv tys glob [(62, hmac_Parts_res N)] [] [] [] false [] [(84, chain_along1_itr N), (98, stream_blocks1_itr N), (106, hmac_framed1_itr N)]

theorem chain_Bind_Eok (N : Nat) : EnvOk Go.Proofs.Tryd.prog (chain_Bind_E N) := mkEnv_ok mixed tys_ok (FnsOk.cons (hmac_Parts_ct N) (FnsOk.nil)) (ItsOk.cons (chain_along1_it N) (ItsOk.cons (stream_blocks1_it N) (ItsOk.cons (hmac_framed1_it N) (ItsOk.nil))))

noncomputable def chain_Bind (N : Nat) (of : (List UInt8)) (other : (List UInt8)) : Option (List UInt8) :=
  (hmac_Parts N of ([([(98 : UInt8), (105 : UInt8), (110 : UInt8), (100 : UInt8)] : List UInt8), other] : List (List UInt8))).bind fun y =>
  some y

noncomputable def chain_Bind_t (N : Nat) : Tab (List UInt8) := []

theorem chain_Bind_link (N : Nat) (x : denS [(0, .v .str), (0, .v .str)]) : evFX (chain_Bind_E N) N (chain_Bind_t N) chain_Bind_L Go.Proofs.Tryd.f28 (mkS [(0, .v .str), (0, .v .str)] 0 x) (kRes (.v .str) 2) = chain_Bind N x.1 x.2.1 := by kernel_rfl

noncomputable def chain_Bind_res (N : Nat) : List A → Res := resOf [(0, .v .str), (0, .v .str)] (fun x => chain_Bind N x.1 x.2.1) (oRes (.v .str) 2)

theorem chain_Bind_ct (N : Nat) : Contract Go.Proofs.Tryd.prog glob 28 (chain_Bind_res N) :=
  Contract.of (E := chain_Bind_E N) (H := chain_Bind_t N) (L := chain_Bind_L) (N := N) (body := chain_Bind_body) (K := (kRes (.v .str) 2)) (chain_Bind_Eok N) Go.Proofs.Tryd.func28 (by kernel_rfl) (by decide) (fun _ hb => TabOk.nil) (fun x y h => by rw [chain_Bind_link]; exact h) (kRes_ok (s := (.v .str)) (m := 2))

abbrev porterref34_BindParts_R : Type := (List (List UInt8))

noncomputable def porterref34_BindParts_body : Code := (Go.Proofs.Tryd.f29.body).getD .skip

noncomputable def porterref34_BindParts_L : List (List Nat × List Nat) := [([0], [0]), ([0, 1], [2]), ([1, 1], [2])]

noncomputable def porterref34_BindParts_E (N : Nat) : Env := mkEnv tys glob [] [] [] [] false [] [(84, chain_along1_itr N), (98, stream_blocks1_itr N), (106, hmac_framed1_itr N)]

theorem porterref34_BindParts_Eok (N : Nat) : EnvOk Go.Proofs.Tryd.prog (porterref34_BindParts_E N) := mkEnv_ok mixed tys_ok (FnsOk.nil) (ItsOk.cons (chain_along1_it N) (ItsOk.cons (stream_blocks1_it N) (ItsOk.cons (hmac_framed1_it N) (ItsOk.nil))))

noncomputable def porterref34_BindParts (N : Nat) (other : (List UInt8)) : Option (List (List UInt8)) :=
  some ([([(98 : UInt8), (105 : UInt8), (110 : UInt8), (100 : UInt8)] : List UInt8), other] : List (List UInt8))

noncomputable def porterref34_BindParts_t (N : Nat) : Tab (List (List UInt8)) := []

theorem porterref34_BindParts_link (N : Nat) (x : denS [(0, .v .str)]) : evFX (porterref34_BindParts_E N) N (porterref34_BindParts_t N) porterref34_BindParts_L Go.Proofs.Tryd.f29 (mkS [(0, .v .str)] 0 x) (kRes (.v (.sl .str)) 1) = porterref34_BindParts N x.1 := by kernel_rfl

noncomputable def porterref34_BindParts_res (N : Nat) : List A → Res := resOf [(0, .v .str)] (fun x => porterref34_BindParts N x.1) (oRes (.v (.sl .str)) 1)

theorem porterref34_BindParts_ct (N : Nat) : Contract Go.Proofs.Tryd.prog glob 29 (porterref34_BindParts_res N) :=
  Contract.of (E := porterref34_BindParts_E N) (H := porterref34_BindParts_t N) (L := porterref34_BindParts_L) (N := N) (body := porterref34_BindParts_body) (K := (kRes (.v (.sl .str)) 1)) (porterref34_BindParts_Eok N) Go.Proofs.Tryd.func29 (by kernel_rfl) (by decide) (fun _ hb => TabOk.nil) (fun x y h => by rw [porterref34_BindParts_link]; exact h) (kRes_ok (s := (.v (.sl .str))) (m := 1))

abbrev porterref34_SealParts_R : Type := (List (List UInt8))

noncomputable def porterref34_SealParts_body : Code := (Go.Proofs.Tryd.f31.body).getD .skip

noncomputable def porterref34_SealParts_L : List (List Nat × List Nat) := [([0], []), ([0, 1], [0]), ([1, 1], [0])]

noncomputable def porterref34_SealParts_E (N : Nat) : Env := mkEnv tys glob [] [] [] [] false [] [(84, chain_along1_itr N), (98, stream_blocks1_itr N), (106, hmac_framed1_itr N)]

theorem porterref34_SealParts_Eok (N : Nat) : EnvOk Go.Proofs.Tryd.prog (porterref34_SealParts_E N) := mkEnv_ok mixed tys_ok (FnsOk.nil) (ItsOk.cons (chain_along1_it N) (ItsOk.cons (stream_blocks1_it N) (ItsOk.cons (hmac_framed1_it N) (ItsOk.nil))))

noncomputable def porterref34_SealParts (N : Nat) : Option (List (List UInt8)) :=
  some ([([(115 : UInt8), (101 : UInt8), (97 : UInt8), (108 : UInt8)] : List UInt8)] : List (List UInt8))

noncomputable def porterref34_SealParts_t (N : Nat) : Tab (List (List UInt8)) := []

theorem porterref34_SealParts_link (N : Nat) (x : denS []) : evFX (porterref34_SealParts_E N) N (porterref34_SealParts_t N) porterref34_SealParts_L Go.Proofs.Tryd.f31 (mkS [] 0 x) (kRes (.v (.sl .str)) 0) = porterref34_SealParts N := by kernel_rfl

noncomputable def porterref34_SealParts_res (N : Nat) : List A → Res := resOf [] (fun x => porterref34_SealParts N) (oRes (.v (.sl .str)) 0)

theorem porterref34_SealParts_ct (N : Nat) : Contract Go.Proofs.Tryd.prog glob 31 (porterref34_SealParts_res N) :=
  Contract.of (E := porterref34_SealParts_E N) (H := porterref34_SealParts_t N) (L := porterref34_SealParts_L) (N := N) (body := porterref34_SealParts_body) (K := (kRes (.v (.sl .str)) 0)) (porterref34_SealParts_Eok N) Go.Proofs.Tryd.func31 (by kernel_rfl) (by decide) (fun _ hb => TabOk.nil) (fun x y h => by rw [porterref34_SealParts_link]; exact h) (kRes_ok (s := (.v (.sl .str))) (m := 0))

abbrev porterlaw34_ChainMakes_R : Type := Bool

noncomputable def porterlaw34_ChainMakes_body : Code := (Go.Proofs.Tryd.f7.body).getD .skip

noncomputable def porterlaw34_ChainMakes_L : List (List Nat × List Nat) := [([0], [0, 1, 5]), ([0, 0, 1], [26, 0, 1, 5]), ([1, 0, 1], [0, 1, 5]), ([0, 0, 1, 0, 1], [6]), ([1, 0, 1, 0, 1], [6]), ([0, 1, 1], [6]), ([1, 1, 1], [6])]

noncomputable def porterlaw34_ChainMakes_E (N : Nat) : Env := mkEnv tys glob [(31, porterref34_SealParts_res N), (29, porterref34_BindParts_res N), (28, chain_Bind_res N), (27, porterref34_NextParts_res N), (26, chain_Next_res N), (25, porterref34_RootParts_res N), (22, porterlaw34_works_res N), (30, chain_Seal_res N), (23, chain_Root_res N), (24, porterref04_Parts_res N)] [] [] [] false [] [(84, chain_along1_itr N), (98, stream_blocks1_itr N), (106, hmac_framed1_itr N)]

theorem porterlaw34_ChainMakes_Eok (N : Nat) : EnvOk Go.Proofs.Tryd.prog (porterlaw34_ChainMakes_E N) := mkEnv_ok mixed tys_ok (FnsOk.cons (porterref34_SealParts_ct N) (FnsOk.cons (porterref34_BindParts_ct N) (FnsOk.cons (chain_Bind_ct N) (FnsOk.cons (porterref34_NextParts_ct N) (FnsOk.cons (chain_Next_ct N) (FnsOk.cons (porterref34_RootParts_ct N) (FnsOk.cons (porterlaw34_works_ct N) (FnsOk.cons (chain_Seal_ct N) (FnsOk.cons (chain_Root_ct N) (FnsOk.cons (porterref04_Parts_ct N) (FnsOk.nil))))))))))) (ItsOk.cons (chain_along1_it N) (ItsOk.cons (stream_blocks1_it N) (ItsOk.cons (hmac_framed1_it N) (ItsOk.nil))))

noncomputable def porterlaw34_ChainMakes_p2 (N : Nat) (key : (List UInt8)) (id_ : (List UInt8)) (l : ((List UInt8) × ((List UInt8) × Unit))) (k0 : Bool → Option Bool) : Option Bool :=
  cond (decide ((200 : Int) < (((List.length key) : Nat) : Int)))
  (k0 true)
  (cond (decide ((500 : Int) < (((List.length id_) : Nat) : Int)))
    (k0 true)
    (cond (decide ((500 : Int) < (((List.length l.1) : Nat) : Int)))
      (k0 true)
      (k0 (decide ((500 : Int) < (((List.length l.2.1) : Nat) : Int))))))

noncomputable def porterlaw34_ChainMakes_g2 (N : Nat) (x : denS [(0, .v .str), (0, .v .str), (3, .box (.pair .str (.pair .str .unit)))]) (K : Ex → List A → Option Bool) : Option Bool :=
  porterlaw34_ChainMakes_p2 N x.1 x.2.1 x.2.2.1 (fun a3 => (K .normal (mkS [(0, .v .str), (0, .v .str), (3, .box (.pair .str (.pair .str .unit))), (20, .v .bool)] 40 (x.1, x.2.1, x.2.2.1, a3, ()))))

noncomputable def porterlaw34_ChainMakes_h2 (N : Nat) : Hd Bool := fun st K => (unS [(0, .v .str), (0, .v .str), (3, .box (.pair .str (.pair .str .unit)))] 61 (restr [0, 1, 5] 0 st)).bind fun x => porterlaw34_ChainMakes_g2 N x K

noncomputable def porterlaw34_ChainMakes_t2 (N : Nat) : Tab Bool := []

theorem porterlaw34_ChainMakes_ok2 {N : Nat} {c : Ctx} (hb : Base Go.Proofs.Tryd.prog (porterlaw34_ChainMakes_E N) c) : CodeOk Go.Proofs.Tryd.prog c (nodeAt porterlaw34_ChainMakes_body [0, 0, 1]) (porterlaw34_ChainMakes_h2 N) :=
  piece_ok (s := [(0, .v .str), (0, .v .str), (3, .box (.pair .str (.pair .str .unit)))]) (m := 61) (g := porterlaw34_ChainMakes_g2 N) [0, 1, 5] (evN_sound hb N (porterlaw34_ChainMakes_t2 N) porterlaw34_ChainMakes_L porterlaw34_ChainMakes_body TabOk.nil [0, 0, 1] _ rfl) (fun x K => by kernel_rfl)

noncomputable def porterlaw34_ChainMakes_p1 (N : Nat) (key : (List UInt8)) (id_ : (List UInt8)) (l : ((List UInt8) × ((List UInt8) × Unit))) (k0 : Bool → Option Bool) (k1 : Option Bool) : Option Bool :=
  porterlaw34_ChainMakes_p2 N key id_ l
  (fun x26 => cond x26
    ((porterlaw34_works N).bind fun y =>
      k0 y)
    (k1))

noncomputable def porterlaw34_ChainMakes_g1 (N : Nat) (x : denS [(0, .v .str), (0, .v .str), (3, .box (.pair .str (.pair .str .unit)))]) (K : Ex → List A → Option Bool) : Option Bool :=
  porterlaw34_ChainMakes_p1 N x.1 x.2.1 x.2.2.1 (fun a0 => (K .ret (mkS [(6, .v .bool)] 60 (a0, ())))) (K .normal (mkS [(0, .v .str), (0, .v .str), (3, .box (.pair .str (.pair .str .unit)))] 61 (x.1, x.2.1, x.2.2.1, ())))

noncomputable def porterlaw34_ChainMakes_h1 (N : Nat) : Hd Bool := fun st K => (unS [(0, .v .str), (0, .v .str), (3, .box (.pair .str (.pair .str .unit)))] 61 (restr [0, 1, 5] 0 st)).bind fun x => porterlaw34_ChainMakes_g1 N x K

noncomputable def porterlaw34_ChainMakes_t1 (N : Nat) : Tab Bool := [([0, 0, 1], porterlaw34_ChainMakes_h2 N)]

theorem porterlaw34_ChainMakes_ok1 {N : Nat} {c : Ctx} (hb : Base Go.Proofs.Tryd.prog (porterlaw34_ChainMakes_E N) c) : CodeOk Go.Proofs.Tryd.prog c (nodeAt porterlaw34_ChainMakes_body [0, 1]) (porterlaw34_ChainMakes_h1 N) :=
  piece_ok (s := [(0, .v .str), (0, .v .str), (3, .box (.pair .str (.pair .str .unit)))]) (m := 61) (g := porterlaw34_ChainMakes_g1 N) [0, 1, 5] (evN_sound hb N (porterlaw34_ChainMakes_t1 N) porterlaw34_ChainMakes_L porterlaw34_ChainMakes_body (TabOk.cons (porterlaw34_ChainMakes_ok2 hb) TabOk.nil) [0, 1] _ rfl) (fun x K => by kernel_rfl)

noncomputable def porterlaw34_ChainMakes (N : Nat) (key : (List UInt8)) (id_ : (List UInt8)) (l : ((List UInt8) × ((List UInt8) × Unit))) : Option Bool :=
  porterlaw34_ChainMakes_p1 N key id_ l
  (fun x6 => some x6)
  ((chain_Root N key id_).bind fun y =>
    (porterref04_Parts N key ([([(114 : UInt8), (111 : UInt8), (111 : UInt8), (116 : UInt8)] : List UInt8), id_] : List (List UInt8))).bind fun y1 =>
    cond (y == y1)
    ((chain_Next N key l).bind fun y2 =>
      (porterref34_NextParts N l).bind fun y3 =>
      (porterref04_Parts N key y3).bind fun y4 =>
      cond (y2 == y4)
      ((chain_Bind N key id_).bind fun y5 =>
        (porterref04_Parts N key ([([(98 : UInt8), (105 : UInt8), (110 : UInt8), (100 : UInt8)] : List UInt8), id_] : List (List UInt8))).bind fun y6 =>
        cond (y5 == y6)
        ((chain_Seal N key).bind fun y7 =>
          (porterref04_Parts N key ([([(115 : UInt8), (101 : UInt8), (97 : UInt8), (108 : UInt8)] : List UInt8)] : List (List UInt8))).bind fun y8 =>
          cond (y7 == y8)
          ((porterlaw34_works N).bind fun y9 =>
            some y9)
          (some false))
        (some false))
      (some false))
    (some false))

noncomputable def porterlaw34_ChainMakes_t (N : Nat) : Tab Bool := [([0, 1], porterlaw34_ChainMakes_h1 N)]

theorem porterlaw34_ChainMakes_link (N : Nat) (x : denS [(0, .v .str), (0, .v .str), (0, .v (.pair .str (.pair .str .unit)))]) : evFX (porterlaw34_ChainMakes_E N) N (porterlaw34_ChainMakes_t N) porterlaw34_ChainMakes_L Go.Proofs.Tryd.f7 (mkS [(0, .v .str), (0, .v .str), (0, .v (.pair .str (.pair .str .unit)))] 0 x) (kRes (.v .bool) 3) = porterlaw34_ChainMakes N x.1 x.2.1 x.2.2.1 := by kernel_rfl

noncomputable def porterlaw34_ChainMakes_res (N : Nat) : List A → Res := resOf [(0, .v .str), (0, .v .str), (0, .v (.pair .str (.pair .str .unit)))] (fun x => porterlaw34_ChainMakes N x.1 x.2.1 x.2.2.1) (oRes (.v .bool) 3)

theorem porterlaw34_ChainMakes_ct (N : Nat) : Contract Go.Proofs.Tryd.prog glob 7 (porterlaw34_ChainMakes_res N) :=
  Contract.of (E := porterlaw34_ChainMakes_E N) (H := porterlaw34_ChainMakes_t N) (L := porterlaw34_ChainMakes_L) (N := N) (body := porterlaw34_ChainMakes_body) (K := (kRes (.v .bool) 3)) (porterlaw34_ChainMakes_Eok N) Go.Proofs.Tryd.func7 (by kernel_rfl) (by decide) (fun _ hb => (TabOk.cons (porterlaw34_ChainMakes_ok1 hb) TabOk.nil)) (fun x y h => by rw [porterlaw34_ChainMakes_link]; exact h) (kRes_ok (s := (.v .bool)) (m := 3))

abbrev porterref30_Great_R : Type := Bool

noncomputable def porterref30_Great_body : Code := (Go.Proofs.Tryd.f50.body).getD .skip

noncomputable def porterref30_Great_L : List (List Nat × List Nat) := [([0], [1]), ([0, 0, 1], [20, 1]), ([1, 0, 1], [1]), ([0, 0, 1, 0, 1], [2]), ([1, 0, 1, 0, 1], [2]), ([0, 1, 1], [1, 3]), ([0, 0, 1, 1, 1], [4, 1, 3]), ([0, 1, 0, 1, 1, 1], [4, 1, 3]), ([0, 0, 0, 0, 1, 0, 1, 1, 1], [25, 1, 4, 3]), ([1, 0, 0, 0, 1, 0, 1, 1, 1], [1, 4, 3]), ([1, 1, 0, 0, 0, 1, 0, 1, 1, 1], [3]), ([0, 0, 0, 0, 1, 0, 0, 1, 0, 1, 1, 1], [45, 3, 1, 4]), ([1, 0, 0, 0, 1, 0, 0, 1, 0, 1, 1, 1], [3, 1, 4]), ([0, 0, 1, 0, 0, 0, 1, 0, 0, 1, 0, 1, 1, 1], [2]), ([1, 0, 1, 0, 0, 0, 1, 0, 0, 1, 0, 1, 1, 1], [2]), ([1, 0, 0, 1, 0, 0, 1, 0, 1, 1, 1], [4, 1, 3]), ([0, 1, 0, 0, 1, 0, 1, 1, 1], [4, 1, 3]), ([1, 1, 0, 0, 1, 0, 1, 1, 1], [4, 1, 3]), ([1, 0, 1, 1, 1], [3]), ([0, 1, 1, 1, 1], [2]), ([1, 1, 1, 1, 1], [2])]

noncomputable def porterref30_Great_E (N : Nat) : Env := mkEnv tys glob [] [] [] [] false [] [(84, chain_along1_itr N), (98, stream_blocks1_itr N), (106, hmac_framed1_itr N)]

theorem porterref30_Great_Eok (N : Nat) : EnvOk Go.Proofs.Tryd.prog (porterref30_Great_E N) := mkEnv_ok mixed tys_ok (FnsOk.nil) (ItsOk.cons (chain_along1_it N) (ItsOk.cons (stream_blocks1_it N) (ItsOk.cons (hmac_framed1_it N) (ItsOk.nil))))

noncomputable def porterref30_Great_p2 (N : Nat) (t : ((List UInt8) × ((List ((List UInt8) × ((List UInt8) × Unit))) × ((List UInt8) × Unit)))) (k0 : Bool → Option Bool) : Option Bool :=
  cond (decide ((4200 : Int) < (((List.length t.1) : Nat) : Int)))
  (k0 true)
  (cond (decide ((100 : Int) < (((List.length t.2.2.1) : Nat) : Int)))
    (k0 true)
    (k0 (decide ((70 : Int) < (((List.length t.2.1) : Nat) : Int)))))

noncomputable def porterref30_Great_g2 (N : Nat) (x : denS [(1, .box (.pair .str (.pair (.sl (.pair .str (.pair .str .unit))) (.pair .str .unit))))]) (K : Ex → List A → Option Bool) : Option Bool :=
  porterref30_Great_p2 N x.1 (fun a1 => (K .normal (mkS [(1, .box (.pair .str (.pair (.sl (.pair .str (.pair .str .unit))) (.pair .str .unit)))), (18, .v .bool)] 44 (x.1, a1, ()))))

noncomputable def porterref30_Great_h2 (N : Nat) : Hd Bool := fun st K => (unS [(1, .box (.pair .str (.pair (.sl (.pair .str (.pair .str .unit))) (.pair .str .unit))))] 63 (restr [1] 0 st)).bind fun x => porterref30_Great_g2 N x K

noncomputable def porterref30_Great_t2 (N : Nat) : Tab Bool := []

theorem porterref30_Great_ok2 {N : Nat} {c : Ctx} (hb : Base Go.Proofs.Tryd.prog (porterref30_Great_E N) c) : CodeOk Go.Proofs.Tryd.prog c (nodeAt porterref30_Great_body [0, 0, 1]) (porterref30_Great_h2 N) :=
  piece_ok (s := [(1, .box (.pair .str (.pair (.sl (.pair .str (.pair .str .unit))) (.pair .str .unit))))]) (m := 63) (g := porterref30_Great_g2 N) [1] (evN_sound hb N (porterref30_Great_t2 N) porterref30_Great_L porterref30_Great_body TabOk.nil [0, 0, 1] _ rfl) (fun x K => by kernel_rfl)

noncomputable def porterref30_Great_p1 (N : Nat) (t : ((List UInt8) × ((List ((List UInt8) × ((List UInt8) × Unit))) × ((List UInt8) × Unit)))) (k0 : Bool → Option Bool) (k1 : Option Bool) : Option Bool :=
  porterref30_Great_p2 N t
  (fun x20 => cond x20
    (k0 true)
    (k1))

noncomputable def porterref30_Great_g1 (N : Nat) (x : denS [(1, .box (.pair .str (.pair (.sl (.pair .str (.pair .str .unit))) (.pair .str .unit))))]) (K : Ex → List A → Option Bool) : Option Bool :=
  porterref30_Great_p1 N x.1 (fun a0 => (K .ret (mkS [(2, .v .bool)] 62 (a0, ())))) (K .normal (mkS [(1, .box (.pair .str (.pair (.sl (.pair .str (.pair .str .unit))) (.pair .str .unit))))] 63 (x.1, ())))

noncomputable def porterref30_Great_h1 (N : Nat) : Hd Bool := fun st K => (unS [(1, .box (.pair .str (.pair (.sl (.pair .str (.pair .str .unit))) (.pair .str .unit))))] 63 (restr [1] 0 st)).bind fun x => porterref30_Great_g1 N x K

noncomputable def porterref30_Great_t1 (N : Nat) : Tab Bool := [([0, 0, 1], porterref30_Great_h2 N)]

theorem porterref30_Great_ok1 {N : Nat} {c : Ctx} (hb : Base Go.Proofs.Tryd.prog (porterref30_Great_E N) c) : CodeOk Go.Proofs.Tryd.prog c (nodeAt porterref30_Great_body [0, 1]) (porterref30_Great_h1 N) :=
  piece_ok (s := [(1, .box (.pair .str (.pair (.sl (.pair .str (.pair .str .unit))) (.pair .str .unit))))]) (m := 63) (g := porterref30_Great_g1 N) [1] (evN_sound hb N (porterref30_Great_t1 N) porterref30_Great_L porterref30_Great_body (TabOk.cons (porterref30_Great_ok2 hb) TabOk.nil) [0, 1] _ rfl) (fun x K => by kernel_rfl)

noncomputable def porterref30_Great_p6 (N : Nat) (t : ((List UInt8) × ((List ((List UInt8) × ((List UInt8) × Unit))) × ((List UInt8) × Unit)))) (all : Int) (i : Int) (k0 : Bool → Option Bool) : Option Bool :=
  cond (Go.Lift.inR i (List.length t.2.1))
  (cond (decide ((4200 : Int) < (((List.length (List.getD t.2.1 (Int.toNat i) (([] : List UInt8), (([] : List UInt8), ()))).1) : Nat) : Int)))
    (k0 true)
    (cond (Go.Lift.inR i (List.length t.2.1))
      (k0 (decide ((4200 : Int) < (((List.length (List.getD t.2.1 (Int.toNat i) (([] : List UInt8), (([] : List UInt8), ()))).2.1) : Nat) : Int))))
      (none)))
  (none)

noncomputable def porterref30_Great_g6 (N : Nat) (x : denS [(1, .box (.pair .str (.pair (.sl (.pair .str (.pair .str .unit))) (.pair .str .unit)))), (1, .v (.int .i64)), (0, .v (.int .i64))]) (K : Ex → List A → Option Bool) : Option Bool :=
  porterref30_Great_p6 N x.1 x.2.1 x.2.2.1 (fun a3 => (K .normal (mkS [(1, .box (.pair .str (.pair (.sl (.pair .str (.pair .str .unit))) (.pair .str .unit)))), (1, .v (.int .i64)), (0, .v (.int .i64)), (40, .v .bool)] 19 (x.1, x.2.1, x.2.2.1, a3, ()))))

noncomputable def porterref30_Great_h6 (N : Nat) : Hd Bool := fun st K => (unS [(1, .box (.pair .str (.pair (.sl (.pair .str (.pair .str .unit))) (.pair .str .unit)))), (1, .v (.int .i64)), (0, .v (.int .i64))] 60 (restr [1, 4, 3] 0 st)).bind fun x => porterref30_Great_g6 N x K

noncomputable def porterref30_Great_t6 (N : Nat) : Tab Bool := []

theorem porterref30_Great_ok6 {N : Nat} {c : Ctx} (hb : Base Go.Proofs.Tryd.prog (porterref30_Great_E N) c) : CodeOk Go.Proofs.Tryd.prog c (nodeAt porterref30_Great_body [0, 0, 0, 0, 1, 0, 0, 1, 0, 1, 1, 1]) (porterref30_Great_h6 N) :=
  piece_ok (s := [(1, .box (.pair .str (.pair (.sl (.pair .str (.pair .str .unit))) (.pair .str .unit)))), (1, .v (.int .i64)), (0, .v (.int .i64))]) (m := 60) (g := porterref30_Great_g6 N) [1, 4, 3] (evN_sound hb N (porterref30_Great_t6 N) porterref30_Great_L porterref30_Great_body TabOk.nil [0, 0, 0, 0, 1, 0, 0, 1, 0, 1, 1, 1] _ rfl) (fun x K => by kernel_rfl)

noncomputable def porterref30_Great_p5 (N : Nat) (t : ((List UInt8) × ((List ((List UInt8) × ((List UInt8) × Unit))) × ((List UInt8) × Unit)))) (all : Int) (i : Int) (k0 : Bool → Option Bool) (k1 : Option Bool) : Option Bool :=
  porterref30_Great_p6 N t all i
  (fun x45 => cond x45
    (k0 true)
    (k1))

noncomputable def porterref30_Great_g5 (N : Nat) (x : denS [(1, .box (.pair .str (.pair (.sl (.pair .str (.pair .str .unit))) (.pair .str .unit)))), (1, .v (.int .i64)), (0, .v (.int .i64))]) (K : Ex → List A → Option Bool) : Option Bool :=
  porterref30_Great_p5 N x.1 x.2.1 x.2.2.1 (fun a0 => (K .ret (mkS [(2, .v .bool)] 62 (a0, ())))) (K .normal (mkS [(1, .box (.pair .str (.pair (.sl (.pair .str (.pair .str .unit))) (.pair .str .unit)))), (1, .v (.int .i64)), (0, .v (.int .i64))] 60 (x.1, x.2.1, x.2.2.1, ())))

noncomputable def porterref30_Great_h5 (N : Nat) : Hd Bool := fun st K => (unS [(1, .box (.pair .str (.pair (.sl (.pair .str (.pair .str .unit))) (.pair .str .unit)))), (1, .v (.int .i64)), (0, .v (.int .i64))] 60 (restr [1, 4, 3] 0 st)).bind fun x => porterref30_Great_g5 N x K

noncomputable def porterref30_Great_t5 (N : Nat) : Tab Bool := [([0, 0, 0, 0, 1, 0, 0, 1, 0, 1, 1, 1], porterref30_Great_h6 N)]

theorem porterref30_Great_ok5 {N : Nat} {c : Ctx} (hb : Base Go.Proofs.Tryd.prog (porterref30_Great_E N) c) : CodeOk Go.Proofs.Tryd.prog c (nodeAt porterref30_Great_body [0, 0, 0, 1, 0, 0, 1, 0, 1, 1, 1]) (porterref30_Great_h5 N) :=
  piece_ok (s := [(1, .box (.pair .str (.pair (.sl (.pair .str (.pair .str .unit))) (.pair .str .unit)))), (1, .v (.int .i64)), (0, .v (.int .i64))]) (m := 60) (g := porterref30_Great_g5 N) [1, 4, 3] (evN_sound hb N (porterref30_Great_t5 N) porterref30_Great_L porterref30_Great_body (TabOk.cons (porterref30_Great_ok6 hb) TabOk.nil) [0, 0, 0, 1, 0, 0, 1, 0, 1, 1, 1] _ rfl) (fun x K => by kernel_rfl)

noncomputable def porterref30_Great_p4 (N : Nat) (t : ((List UInt8) × ((List ((List UInt8) × ((List UInt8) × Unit))) × ((List UInt8) × Unit)))) (all : Int) (i : Int) (k0 : Bool → Option Bool) (k1 : Int → Option Bool) : Option Bool :=
  porterref30_Great_p5 N t all i
  (fun x2 => k0 x2)
  (cond (Go.Lift.inR i (List.length t.2.1))
    (cond (Go.Lift.inR i (List.length t.2.1))
      (k1 (Go.IntKind.wrap Go.IntKind.i64 ((Go.IntKind.wrap Go.IntKind.i64 (all + (((List.length (List.getD t.2.1 (Int.toNat i) (([] : List UInt8), (([] : List UInt8), ()))).1) : Nat) : Int))) + (((List.length (List.getD t.2.1 (Int.toNat i) (([] : List UInt8), (([] : List UInt8), ()))).2.1) : Nat) : Int))))
      (none))
    (none))

noncomputable def porterref30_Great_g4 (N : Nat) (x : denS [(1, .box (.pair .str (.pair (.sl (.pair .str (.pair .str .unit))) (.pair .str .unit)))), (1, .v (.int .i64)), (0, .v (.int .i64))]) (K : Ex → List A → Option Bool) : Option Bool :=
  porterref30_Great_p4 N x.1 x.2.1 x.2.2.1 (fun a0 => (K .ret (mkS [(2, .v .bool)] 62 (a0, ())))) (fun a1 => (K .normal (mkS [(1, .box (.pair .str (.pair (.sl (.pair .str (.pair .str .unit))) (.pair .str .unit)))), (1, .v (.int .i64)), (0, .v (.int .i64))] 60 (x.1, a1, x.2.2.1, ()))))

noncomputable def porterref30_Great_h4 (N : Nat) : Hd Bool := fun st K => (unS [(1, .box (.pair .str (.pair (.sl (.pair .str (.pair .str .unit))) (.pair .str .unit)))), (1, .v (.int .i64)), (0, .v (.int .i64))] 60 (restr [1, 4, 3] 0 st)).bind fun x => porterref30_Great_g4 N x K

noncomputable def porterref30_Great_t4 (N : Nat) : Tab Bool := [([0, 0, 0, 1, 0, 0, 1, 0, 1, 1, 1], porterref30_Great_h5 N)]

theorem porterref30_Great_ok4 {N : Nat} {c : Ctx} (hb : Base Go.Proofs.Tryd.prog (porterref30_Great_E N) c) : CodeOk Go.Proofs.Tryd.prog c (nodeAt porterref30_Great_body [0, 1, 0, 0, 1, 0, 1, 1, 1]) (porterref30_Great_h4 N) :=
  piece_ok (s := [(1, .box (.pair .str (.pair (.sl (.pair .str (.pair .str .unit))) (.pair .str .unit)))), (1, .v (.int .i64)), (0, .v (.int .i64))]) (m := 60) (g := porterref30_Great_g4 N) [1, 4, 3] (evN_sound hb N (porterref30_Great_t4 N) porterref30_Great_L porterref30_Great_body (TabOk.cons (porterref30_Great_ok5 hb) TabOk.nil) [0, 1, 0, 0, 1, 0, 1, 1, 1] _ rfl) (fun x K => by kernel_rfl)

noncomputable def porterref30_Great_s3 (N : Nat) (t : ((List UInt8) × ((List ((List UInt8) × ((List UInt8) × Unit))) × ((List UInt8) × Unit)))) (all : Int) (i : Int) (rec : Int → Int → Option Bool) (k0 : Bool → Option Bool) (k1 : Int → Option Bool) : Option Bool :=
  cond (decide (i < (((List.length t.2.1) : Nat) : Int)))
  (porterref30_Great_p4 N t all i
    (fun x2 => k0 x2)
    (fun all1 => rec all1 (Go.IntKind.wrap Go.IntKind.i64 (i + (1 : Int)))))
  (k1 all)

noncomputable def porterref30_Great_p3 (N : Nat) (t : ((List UInt8) × ((List ((List UInt8) × ((List UInt8) × Unit))) × ((List UInt8) × Unit)))) (all : Int) (i : Int) (k0 : Bool → Option Bool) (k1 : Int → Option Bool) : Option Bool :=
  iter (fun (v : (Int × Int)) r => porterref30_Great_s3 N t v.1 v.2 (fun all i => (r (all, i))) k0 k1) N (all, i)

noncomputable def porterref30_Great_g3 (N : Nat) (i : ((List UInt8) × ((List ((List UInt8) × ((List UInt8) × Unit))) × ((List UInt8) × Unit)))) (v : (Int × Int)) (r : (Int × Int) → Option Bool) (K : Ex → List A → Option Bool) : Option Bool :=
  porterref30_Great_s3 N i v.1 v.2 (fun all i => (r (all, i))) (fun a0 => (K .ret (mkS [(2, .v .bool)] 62 (a0, ())))) (fun a0 => (K (.exit 0) (mkS [(3, .v (.int .i64))] 61 (a0, ()))))

noncomputable def porterref30_Great_h3 (N : Nat) : Hd Bool := fun st K => (unS [(1, .box (.pair .str (.pair (.sl (.pair .str (.pair .str .unit))) (.pair .str .unit)))), (1, .v (.int .i64)), (0, .v (.int .i64))] 60 (restr [4, 1, 3] 0 st)).bind fun x => iter (fun v r => porterref30_Great_g3 N ((fun x => x.1) x) v r K) N ((fun x => (x.2.1, x.2.2.1)) x)

noncomputable def porterref30_Great_t3 (N : Nat) : Tab Bool := [([0, 1, 0, 0, 1, 0, 1, 1, 1], porterref30_Great_h4 N)]

theorem porterref30_Great_ok3 {N : Nat} {c : Ctx} (hb : Base Go.Proofs.Tryd.prog (porterref30_Great_E N) c) : CodeOk Go.Proofs.Tryd.prog c (nodeAt porterref30_Great_body [0, 1, 0, 1, 1, 1]) (porterref30_Great_h3 N) :=
  loop_ok (s := [(1, .box (.pair .str (.pair (.sl (.pair .str (.pair .str .unit))) (.pair .str .unit)))), (1, .v (.int .i64)), (0, .v (.int .i64))]) (m := 60) (porterref30_Great_g3 N) [4, 1, 3] N (fun x => x.1) (fun x => (x.2.1, x.2.2.1)) (fun i v => (i, v.1, v.2, ())) (fun _ => rfl) (evN_sound hb N (porterref30_Great_t3 N) porterref30_Great_L porterref30_Great_body (TabOk.cons (porterref30_Great_ok4 hb) TabOk.nil) [0, 0, 1, 0, 1, 1, 1] _ rfl) (fun i v r K => by kernel_rfl)

noncomputable def porterref30_Great (N : Nat) (t : ((List UInt8) × ((List ((List UInt8) × ((List UInt8) × Unit))) × ((List UInt8) × Unit)))) : Option Bool :=
  porterref30_Great_p1 N t
  (fun x2 => some x2)
  (porterref30_Great_p3 N t (0 : Int) (0 : Int)
    (fun x21 => some x21)
    (fun all => some (decide ((20000 : Int) < all))))

noncomputable def porterref30_Great_t (N : Nat) : Tab Bool := [([0, 1], porterref30_Great_h1 N), ([0, 1, 0, 1, 1, 1], porterref30_Great_h3 N)]

theorem porterref30_Great_link (N : Nat) (x : denS [(0, .v (.pair .str (.pair (.sl (.pair .str (.pair .str .unit))) (.pair .str .unit))))]) : evFX (porterref30_Great_E N) N (porterref30_Great_t N) porterref30_Great_L Go.Proofs.Tryd.f50 (mkS [(0, .v (.pair .str (.pair (.sl (.pair .str (.pair .str .unit))) (.pair .str .unit))))] 0 x) (kRes (.v .bool) 1) = porterref30_Great N x.1 := by kernel_rfl

noncomputable def porterref30_Great_res (N : Nat) : List A → Res := resOf [(0, .v (.pair .str (.pair (.sl (.pair .str (.pair .str .unit))) (.pair .str .unit))))] (fun x => porterref30_Great N x.1) (oRes (.v .bool) 1)

theorem porterref30_Great_ct (N : Nat) : Contract Go.Proofs.Tryd.prog glob 50 (porterref30_Great_res N) :=
  Contract.of (E := porterref30_Great_E N) (H := porterref30_Great_t N) (L := porterref30_Great_L) (N := N) (body := porterref30_Great_body) (K := (kRes (.v .bool) 1)) (porterref30_Great_Eok N) Go.Proofs.Tryd.func50 (by kernel_rfl) (by decide) (fun _ hb => (TabOk.cons (porterref30_Great_ok1 hb) (TabOk.cons (porterref30_Great_ok3 hb) TabOk.nil))) (fun x y h => by rw [porterref30_Great_link]; exact h) (kRes_ok (s := (.v .bool)) (m := 1))

abbrev porterlaw34_great_R : Type := Bool

noncomputable def porterlaw34_great_body : Code := (Go.Proofs.Tryd.f32.body).getD .skip

noncomputable def porterlaw34_great_L : List (List Nat × List Nat) := [([0], [1]), ([0, 1], [2]), ([1, 1], [2])]

noncomputable def porterlaw34_great_E (N : Nat) : Env := mkEnv tys glob [(50, porterref30_Great_res N)] [] [] [] false [] [(84, chain_along1_itr N), (98, stream_blocks1_itr N), (106, hmac_framed1_itr N)]

theorem porterlaw34_great_Eok (N : Nat) : EnvOk Go.Proofs.Tryd.prog (porterlaw34_great_E N) := mkEnv_ok mixed tys_ok (FnsOk.cons (porterref30_Great_ct N) (FnsOk.nil)) (ItsOk.cons (chain_along1_it N) (ItsOk.cons (stream_blocks1_it N) (ItsOk.cons (hmac_framed1_it N) (ItsOk.nil))))

noncomputable def porterlaw34_great (N : Nat) (t : ((List UInt8) × ((List ((List UInt8) × ((List UInt8) × Unit))) × ((List UInt8) × Unit)))) : Option Bool :=
  cond (decide ((10 : Int) < (((List.length t.2.1) : Nat) : Int)))
  (some true)
  ((porterref30_Great N t).bind fun y =>
    some y)

noncomputable def porterlaw34_great_t (N : Nat) : Tab Bool := []

theorem porterlaw34_great_link (N : Nat) (x : denS [(0, .v (.pair .str (.pair (.sl (.pair .str (.pair .str .unit))) (.pair .str .unit))))]) : evFX (porterlaw34_great_E N) N (porterlaw34_great_t N) porterlaw34_great_L Go.Proofs.Tryd.f32 (mkS [(0, .v (.pair .str (.pair (.sl (.pair .str (.pair .str .unit))) (.pair .str .unit))))] 0 x) (kRes (.v .bool) 1) = porterlaw34_great N x.1 := by kernel_rfl

noncomputable def porterlaw34_great_res (N : Nat) : List A → Res := resOf [(0, .v (.pair .str (.pair (.sl (.pair .str (.pair .str .unit))) (.pair .str .unit))))] (fun x => porterlaw34_great N x.1) (oRes (.v .bool) 1)

theorem porterlaw34_great_ct (N : Nat) : Contract Go.Proofs.Tryd.prog glob 32 (porterlaw34_great_res N) :=
  Contract.of (E := porterlaw34_great_E N) (H := porterlaw34_great_t N) (L := porterlaw34_great_L) (N := N) (body := porterlaw34_great_body) (K := (kRes (.v .bool) 1)) (porterlaw34_great_Eok N) Go.Proofs.Tryd.func32 (by kernel_rfl) (by decide) (fun _ hb => TabOk.nil) (fun x y h => by rw [porterlaw34_great_link]; exact h) (kRes_ok (s := (.v .bool)) (m := 1))

abbrev porterref34_Tags_R : Type := (List (List UInt8))

noncomputable def porterref34_Tags_body : Code := (Go.Proofs.Tryd.f35.body).getD .skip

noncomputable def porterref34_Tags_L : List (List Nat × List Nat) := [([0], [0, 3]), ([0, 1], [5, 3]), ([0, 1, 1], [3, 5, 6]), ([0, 0, 1, 1, 1], [7, 3, 5, 6]), ([0, 1, 0, 1, 1, 1], [7, 3, 5, 6]), ([0, 0, 0, 0, 1, 0, 1, 1, 1], [19, 5, 3, 7, 6]), ([1, 0, 0, 0, 1, 0, 1, 1, 1], [5, 3, 7, 6]), ([1, 1, 0, 0, 0, 1, 0, 1, 1, 1], [6]), ([0, 0, 0, 1, 0, 0, 1, 0, 1, 1, 1], [6, 5, 7, 3]), ([1, 0, 0, 1, 0, 0, 1, 0, 1, 1, 1], [7, 3, 5, 6]), ([0, 1, 0, 0, 1, 0, 1, 1, 1], [7, 3, 5, 6]), ([1, 1, 0, 0, 1, 0, 1, 1, 1], [7, 3, 5, 6]), ([1, 0, 1, 1, 1], [6]), ([0, 1, 1, 1, 1], [4]), ([1, 1, 1, 1, 1], [4])]

noncomputable def porterref34_Tags_E (N : Nat) : Env := mkEnv tys glob [(27, porterref34_NextParts_res N), (25, porterref34_RootParts_res N), (24, porterref04_Parts_res N)] [(6, .str), (4, .str)] [] [] false [] [(84, chain_along1_itr N), (98, stream_blocks1_itr N), (106, hmac_framed1_itr N)]

theorem porterref34_Tags_Eok (N : Nat) : EnvOk Go.Proofs.Tryd.prog (porterref34_Tags_E N) := mkEnv_ok mixed tys_ok (FnsOk.cons (porterref34_NextParts_ct N) (FnsOk.cons (porterref34_RootParts_ct N) (FnsOk.cons (porterref04_Parts_ct N) (FnsOk.nil)))) (ItsOk.cons (chain_along1_it N) (ItsOk.cons (stream_blocks1_it N) (ItsOk.cons (hmac_framed1_it N) (ItsOk.nil))))

noncomputable def porterref34_Tags_s1 (N : Nat) (t : ((List UInt8) × ((List ((List UInt8) × ((List UInt8) × Unit))) × ((List UInt8) × Unit)))) (tag : (List UInt8)) (out : (List (List UInt8))) (i : Int) (rec : (List UInt8) → (List (List UInt8)) → Int → Option (List (List UInt8))) (k0 : (List (List UInt8)) → Option (List (List UInt8))) : Option (List (List UInt8)) :=
  cond (decide (i < (((List.length t.2.1) : Nat) : Int)))
  (cond (Go.Lift.inR i (List.length t.2.1))
    ((porterref34_NextParts N (List.getD t.2.1 (Int.toNat i) (([] : List UInt8), (([] : List UInt8), ())))).bind fun y =>
      (porterref04_Parts N tag y).bind fun y1 =>
      cond (decide ((((List.length out) + 1) * 16) ≤ 70368744177664))
      (rec y1 (out ++ ([y1] : List (List UInt8))) (Go.IntKind.wrap Go.IntKind.i64 (i + (1 : Int))))
      (none))
    (none))
  (k0 out)

noncomputable def porterref34_Tags_p1 (N : Nat) (t : ((List UInt8) × ((List ((List UInt8) × ((List UInt8) × Unit))) × ((List UInt8) × Unit)))) (tag : (List UInt8)) (out : (List (List UInt8))) (i : Int) (k0 : (List (List UInt8)) → Option (List (List UInt8))) : Option (List (List UInt8)) :=
  iter (fun (v : ((List UInt8) × (List (List UInt8)) × Int)) r => porterref34_Tags_s1 N t v.1 v.2.1 v.2.2 (fun tag out i => (r (tag, out, i))) k0) N (tag, out, i)

noncomputable def porterref34_Tags_g1 (N : Nat) (i : ((List UInt8) × ((List ((List UInt8) × ((List UInt8) × Unit))) × ((List UInt8) × Unit)))) (v : ((List UInt8) × (List (List UInt8)) × Int)) (r : ((List UInt8) × (List (List UInt8)) × Int) → Option (List (List UInt8))) (K : Ex → List A → Option (List (List UInt8))) : Option (List (List UInt8)) :=
  porterref34_Tags_s1 N i v.1 v.2.1 v.2.2 (fun tag out i => (r (tag, out, i))) (fun a0 => (K (.exit 0) (mkS [(6, .row .str)] 28 (a0, ()))))

noncomputable def porterref34_Tags_h1 (N : Nat) : Hd (List (List UInt8)) := fun st K => (unS [(3, .box (.pair .str (.pair (.sl (.pair .str (.pair .str .unit))) (.pair .str .unit)))), (1, .v .str), (0, .row .str), (0, .v (.int .i64))] 27 (restr [7, 3, 5, 6] 0 st)).bind fun x => iter (fun v r => porterref34_Tags_g1 N ((fun x => x.1) x) v r K) N ((fun x => (x.2.1, x.2.2.1, x.2.2.2.1)) x)

noncomputable def porterref34_Tags_t1 (N : Nat) : Tab (List (List UInt8)) := []

theorem porterref34_Tags_ok1 {N : Nat} {c : Ctx} (hb : Base Go.Proofs.Tryd.prog (porterref34_Tags_E N) c) : CodeOk Go.Proofs.Tryd.prog c (nodeAt porterref34_Tags_body [0, 1, 0, 1, 1, 1]) (porterref34_Tags_h1 N) :=
  loop_ok (s := [(3, .box (.pair .str (.pair (.sl (.pair .str (.pair .str .unit))) (.pair .str .unit)))), (1, .v .str), (0, .row .str), (0, .v (.int .i64))]) (m := 27) (porterref34_Tags_g1 N) [7, 3, 5, 6] N (fun x => x.1) (fun x => (x.2.1, x.2.2.1, x.2.2.2.1)) (fun i v => (i, v.1, v.2.1, v.2.2, ())) (fun _ => rfl) (evN_sound hb N (porterref34_Tags_t1 N) porterref34_Tags_L porterref34_Tags_body TabOk.nil [0, 0, 1, 0, 1, 1, 1] _ rfl) (fun i v r K => by kernel_rfl)

noncomputable def porterref34_Tags (N : Nat) (key : (List UInt8)) (t : ((List UInt8) × ((List ((List UInt8) × ((List UInt8) × Unit))) × ((List UInt8) × Unit)))) : Option (List (List UInt8)) :=
  (porterref04_Parts N key ([([(114 : UInt8), (111 : UInt8), (111 : UInt8), (116 : UInt8)] : List UInt8), t.1] : List (List UInt8))).bind fun y =>
  porterref34_Tags_p1 N t y ([y] : List (List UInt8)) (0 : Int)
  (fun out => some out)

noncomputable def porterref34_Tags_t (N : Nat) : Tab (List (List UInt8)) := [([0, 1, 0, 1, 1, 1], porterref34_Tags_h1 N)]

theorem porterref34_Tags_link (N : Nat) (x : denS [(0, .v .str), (0, .v (.pair .str (.pair (.sl (.pair .str (.pair .str .unit))) (.pair .str .unit))))]) : evFX (porterref34_Tags_E N) N (porterref34_Tags_t N) porterref34_Tags_L Go.Proofs.Tryd.f35 (mkS [(0, .v .str), (0, .v (.pair .str (.pair (.sl (.pair .str (.pair .str .unit))) (.pair .str .unit))))] 0 x) (kRes (.v (.sl .str)) 2) = porterref34_Tags N x.1 x.2.1 := by kernel_rfl

noncomputable def porterref34_Tags_res (N : Nat) : List A → Res := resOf [(0, .v .str), (0, .v (.pair .str (.pair (.sl (.pair .str (.pair .str .unit))) (.pair .str .unit))))] (fun x => porterref34_Tags N x.1 x.2.1) (oRes (.v (.sl .str)) 2)

theorem porterref34_Tags_ct (N : Nat) : Contract Go.Proofs.Tryd.prog glob 35 (porterref34_Tags_res N) :=
  Contract.of (E := porterref34_Tags_E N) (H := porterref34_Tags_t N) (L := porterref34_Tags_L) (N := N) (body := porterref34_Tags_body) (K := (kRes (.v (.sl .str)) 2)) (porterref34_Tags_Eok N) Go.Proofs.Tryd.func35 (by kernel_rfl) (by decide) (fun _ hb => (TabOk.cons (porterref34_Tags_ok1 hb) TabOk.nil)) (fun x y h => by rw [porterref34_Tags_link]; exact h) (kRes_ok (s := (.v (.sl .str))) (m := 2))

abbrev porterbase_SameTexts_R : Type := Bool

noncomputable def porterbase_SameTexts_body : Code := (Go.Proofs.Tryd.f34.body).getD .skip

noncomputable def porterbase_SameTexts_L : List (List Nat × List Nat) := [([0], [0, 1]), ([0, 0, 1], [10, 0, 1]), ([1, 0, 1], [0, 1]), ([0, 0, 1, 0, 1], [4]), ([1, 0, 1, 0, 1], [4]), ([0, 0, 1, 1], [5, 0, 1]), ([0, 1, 0, 1, 1], [5, 0, 1]), ([0, 0, 0, 0, 1, 0, 1, 1], [14, 0, 5, 1]), ([1, 0, 0, 0, 1, 0, 1, 1], [0, 5, 1]), ([1, 1, 0, 0, 0, 1, 0, 1, 1], []), ([0, 0, 0, 1, 0, 0, 1, 0, 1, 1], [25, 5, 0, 1]), ([1, 0, 0, 1, 0, 0, 1, 0, 1, 1], [5, 0, 1]), ([0, 0, 1, 0, 0, 1, 0, 0, 1, 0, 1, 1], [4]), ([1, 0, 1, 0, 0, 1, 0, 0, 1, 0, 1, 1], [4]), ([0, 1, 0, 0, 1, 0, 1, 1], [5, 0, 1]), ([1, 1, 0, 0, 1, 0, 1, 1], [5, 0, 1]), ([1, 0, 1, 1], []), ([0, 1, 1, 1], [4]), ([1, 1, 1, 1], [4])]

noncomputable def porterbase_SameTexts_E (N : Nat) : Env := mkEnv tys glob [] [] [] [] false [] [(84, chain_along1_itr N), (98, stream_blocks1_itr N), (106, hmac_framed1_itr N)]

theorem porterbase_SameTexts_Eok (N : Nat) : EnvOk Go.Proofs.Tryd.prog (porterbase_SameTexts_E N) := mkEnv_ok mixed tys_ok (FnsOk.nil) (ItsOk.cons (chain_along1_it N) (ItsOk.cons (stream_blocks1_it N) (ItsOk.cons (hmac_framed1_it N) (ItsOk.nil))))

noncomputable def porterbase_SameTexts_s1 (N : Nat) (a : (List (List UInt8))) (b : (List (List UInt8))) (i : Int) (rec : Int → Option Bool) (k0 : Bool → Option Bool) (k1 : Option Bool) : Option Bool :=
  cond (decide (i < (((List.length a) : Nat) : Int)))
  (cond (Go.Lift.inR i (List.length a))
    (cond (Go.Lift.inR i (List.length b))
      (cond (!((List.getD a (Int.toNat i) ([] : List UInt8)) == (List.getD b (Int.toNat i) ([] : List UInt8))))
        (k0 false)
        (rec (Go.IntKind.wrap Go.IntKind.i64 (i + (1 : Int)))))
      (none))
    (none))
  (k1)

noncomputable def porterbase_SameTexts_p1 (N : Nat) (a : (List (List UInt8))) (b : (List (List UInt8))) (i : Int) (k0 : Bool → Option Bool) (k1 : Option Bool) : Option Bool :=
  iter (fun (v : Int) r => porterbase_SameTexts_s1 N a b v (fun i => (r i)) k0 k1) N i

noncomputable def porterbase_SameTexts_g1 (N : Nat) (i : ((List (List UInt8)) × (List (List UInt8)))) (v : Int) (r : Int → Option Bool) (K : Ex → List A → Option Bool) : Option Bool :=
  porterbase_SameTexts_s1 N i.1 i.2 v (fun i => (r i)) (fun a0 => (K .ret (mkS [(4, .v .bool)] 21 (a0, ())))) (K (.exit 0) (mkS [] 26 ()))

noncomputable def porterbase_SameTexts_h1 (N : Nat) : Hd Bool := fun st K => (unS [(0, .v (.sl .str)), (0, .v (.sl .str)), (3, .v (.int .i64))] 20 (restr [5, 0, 1] 0 st)).bind fun x => iter (fun v r => porterbase_SameTexts_g1 N ((fun x => (x.1, x.2.1)) x) v r K) N ((fun x => x.2.2.1) x)

noncomputable def porterbase_SameTexts_t1 (N : Nat) : Tab Bool := []

theorem porterbase_SameTexts_ok1 {N : Nat} {c : Ctx} (hb : Base Go.Proofs.Tryd.prog (porterbase_SameTexts_E N) c) : CodeOk Go.Proofs.Tryd.prog c (nodeAt porterbase_SameTexts_body [0, 1, 0, 1, 1]) (porterbase_SameTexts_h1 N) :=
  loop_ok (s := [(0, .v (.sl .str)), (0, .v (.sl .str)), (3, .v (.int .i64))]) (m := 20) (porterbase_SameTexts_g1 N) [5, 0, 1] N (fun x => (x.1, x.2.1)) (fun x => x.2.2.1) (fun i v => (i.1, i.2, v, ())) (fun _ => rfl) (evN_sound hb N (porterbase_SameTexts_t1 N) porterbase_SameTexts_L porterbase_SameTexts_body TabOk.nil [0, 0, 1, 0, 1, 1] _ rfl) (fun i v r K => by kernel_rfl)

noncomputable def porterbase_SameTexts (N : Nat) (a : (List (List UInt8))) (b : (List (List UInt8))) : Option Bool :=
  cond ((((List.length a) : Nat) : Int) != (((List.length b) : Nat) : Int))
  (some false)
  (porterbase_SameTexts_p1 N a b (0 : Int)
    (fun x4 => some x4)
    (some true))

noncomputable def porterbase_SameTexts_t (N : Nat) : Tab Bool := [([0, 1, 0, 1, 1], porterbase_SameTexts_h1 N)]

theorem porterbase_SameTexts_link (N : Nat) (x : denS [(0, .v (.sl .str)), (0, .v (.sl .str))]) : evFX (porterbase_SameTexts_E N) N (porterbase_SameTexts_t N) porterbase_SameTexts_L Go.Proofs.Tryd.f34 (mkS [(0, .v (.sl .str)), (0, .v (.sl .str))] 0 x) (kRes (.v .bool) 2) = porterbase_SameTexts N x.1 x.2.1 := by kernel_rfl

noncomputable def porterbase_SameTexts_res (N : Nat) : List A → Res := resOf [(0, .v (.sl .str)), (0, .v (.sl .str))] (fun x => porterbase_SameTexts N x.1 x.2.1) (oRes (.v .bool) 2)

theorem porterbase_SameTexts_ct (N : Nat) : Contract Go.Proofs.Tryd.prog glob 34 (porterbase_SameTexts_res N) :=
  Contract.of (E := porterbase_SameTexts_E N) (H := porterbase_SameTexts_t N) (L := porterbase_SameTexts_L) (N := N) (body := porterbase_SameTexts_body) (K := (kRes (.v .bool) 2)) (porterbase_SameTexts_Eok N) Go.Proofs.Tryd.func34 (by kernel_rfl) (by decide) (fun _ hb => (TabOk.cons (porterbase_SameTexts_ok1 hb) TabOk.nil)) (fun x y h => by rw [porterbase_SameTexts_link]; exact h) (kRes_ok (s := (.v .bool)) (m := 2))

abbrev porterlaw34_ChainTags_R : Type := Bool

noncomputable def porterlaw34_ChainTags_body : Code := (Go.Proofs.Tryd.f8.body).getD .skip

noncomputable def porterlaw34_ChainTags_L : List (List Nat × List Nat) := [([0], [0, 3]), ([0, 0, 1], [12, 0, 3]), ([1, 0, 1], [0, 3]), ([0, 0, 1, 0, 1], [4]), ([1, 0, 1, 0, 1], [4]), ([0, 1, 1], [5, 0, 3]), ([0, 1, 1, 1], [4]), ([1, 1, 1, 1], [4])]

noncomputable def porterlaw34_ChainTags_E (N : Nat) : Env := mkEnv tys glob [(34, porterbase_SameTexts_res N), (35, porterref34_Tags_res N), (32, porterlaw34_great_res N), (22, porterlaw34_works_res N), (36, chain_Last_res N), (33, chain_Tags_res N)] [] [] [] false [] [(84, chain_along1_itr N), (98, stream_blocks1_itr N), (106, hmac_framed1_itr N)]

theorem porterlaw34_ChainTags_Eok (N : Nat) : EnvOk Go.Proofs.Tryd.prog (porterlaw34_ChainTags_E N) := mkEnv_ok mixed tys_ok (FnsOk.cons (porterbase_SameTexts_ct N) (FnsOk.cons (porterref34_Tags_ct N) (FnsOk.cons (porterlaw34_great_ct N) (FnsOk.cons (porterlaw34_works_ct N) (FnsOk.cons (chain_Last_ct N) (FnsOk.cons (chain_Tags_ct N) (FnsOk.nil))))))) (ItsOk.cons (chain_along1_it N) (ItsOk.cons (stream_blocks1_it N) (ItsOk.cons (hmac_framed1_it N) (ItsOk.nil))))

noncomputable def porterlaw34_ChainTags_p2 (N : Nat) (key : (List UInt8)) (t : ((List UInt8) × ((List ((List UInt8) × ((List UInt8) × Unit))) × ((List UInt8) × Unit)))) (k0 : Bool → Option Bool) : Option Bool :=
  cond (decide ((200 : Int) < (((List.length key) : Nat) : Int)))
  (k0 true)
  ((porterlaw34_great N t).bind fun y =>
    k0 y)

noncomputable def porterlaw34_ChainTags_g2 (N : Nat) (x : denS [(0, .v .str), (2, .box (.pair .str (.pair (.sl (.pair .str (.pair .str .unit))) (.pair .str .unit))))]) (K : Ex → List A → Option Bool) : Option Bool :=
  porterlaw34_ChainTags_p2 N x.1 x.2.1 (fun a2 => (K .normal (mkS [(0, .v .str), (2, .box (.pair .str (.pair (.sl (.pair .str (.pair .str .unit))) (.pair .str .unit)))), (8, .v .bool)] 33 (x.1, x.2.1, a2, ()))))

noncomputable def porterlaw34_ChainTags_h2 (N : Nat) : Hd Bool := fun st K => (unS [(0, .v .str), (2, .box (.pair .str (.pair (.sl (.pair .str (.pair .str .unit))) (.pair .str .unit))))] 42 (restr [0, 3] 0 st)).bind fun x => porterlaw34_ChainTags_g2 N x K

noncomputable def porterlaw34_ChainTags_t2 (N : Nat) : Tab Bool := []

theorem porterlaw34_ChainTags_ok2 {N : Nat} {c : Ctx} (hb : Base Go.Proofs.Tryd.prog (porterlaw34_ChainTags_E N) c) : CodeOk Go.Proofs.Tryd.prog c (nodeAt porterlaw34_ChainTags_body [0, 0, 1]) (porterlaw34_ChainTags_h2 N) :=
  piece_ok (s := [(0, .v .str), (2, .box (.pair .str (.pair (.sl (.pair .str (.pair .str .unit))) (.pair .str .unit))))]) (m := 42) (g := porterlaw34_ChainTags_g2 N) [0, 3] (evN_sound hb N (porterlaw34_ChainTags_t2 N) porterlaw34_ChainTags_L porterlaw34_ChainTags_body TabOk.nil [0, 0, 1] _ rfl) (fun x K => by kernel_rfl)

noncomputable def porterlaw34_ChainTags_p1 (N : Nat) (key : (List UInt8)) (t : ((List UInt8) × ((List ((List UInt8) × ((List UInt8) × Unit))) × ((List UInt8) × Unit)))) (k0 : Bool → Option Bool) (k1 : Option Bool) : Option Bool :=
  porterlaw34_ChainTags_p2 N key t
  (fun x12 => cond x12
    ((porterlaw34_works N).bind fun y =>
      k0 y)
    (k1))

noncomputable def porterlaw34_ChainTags_g1 (N : Nat) (x : denS [(0, .v .str), (2, .box (.pair .str (.pair (.sl (.pair .str (.pair .str .unit))) (.pair .str .unit))))]) (K : Ex → List A → Option Bool) : Option Bool :=
  porterlaw34_ChainTags_p1 N x.1 x.2.1 (fun a0 => (K .ret (mkS [(4, .v .bool)] 41 (a0, ())))) (K .normal (mkS [(0, .v .str), (2, .box (.pair .str (.pair (.sl (.pair .str (.pair .str .unit))) (.pair .str .unit))))] 42 (x.1, x.2.1, ())))

noncomputable def porterlaw34_ChainTags_h1 (N : Nat) : Hd Bool := fun st K => (unS [(0, .v .str), (2, .box (.pair .str (.pair (.sl (.pair .str (.pair .str .unit))) (.pair .str .unit))))] 42 (restr [0, 3] 0 st)).bind fun x => porterlaw34_ChainTags_g1 N x K

noncomputable def porterlaw34_ChainTags_t1 (N : Nat) : Tab Bool := [([0, 0, 1], porterlaw34_ChainTags_h2 N)]

theorem porterlaw34_ChainTags_ok1 {N : Nat} {c : Ctx} (hb : Base Go.Proofs.Tryd.prog (porterlaw34_ChainTags_E N) c) : CodeOk Go.Proofs.Tryd.prog c (nodeAt porterlaw34_ChainTags_body [0, 1]) (porterlaw34_ChainTags_h1 N) :=
  piece_ok (s := [(0, .v .str), (2, .box (.pair .str (.pair (.sl (.pair .str (.pair .str .unit))) (.pair .str .unit))))]) (m := 42) (g := porterlaw34_ChainTags_g1 N) [0, 3] (evN_sound hb N (porterlaw34_ChainTags_t1 N) porterlaw34_ChainTags_L porterlaw34_ChainTags_body (TabOk.cons (porterlaw34_ChainTags_ok2 hb) TabOk.nil) [0, 1] _ rfl) (fun x K => by kernel_rfl)

noncomputable def porterlaw34_ChainTags (N : Nat) (key : (List UInt8)) (t : ((List UInt8) × ((List ((List UInt8) × ((List UInt8) × Unit))) × ((List UInt8) × Unit)))) : Option Bool :=
  porterlaw34_ChainTags_p1 N key t
  (fun x4 => some x4)
  ((chain_Tags N key t).bind fun y =>
    (porterref34_Tags N key t).bind fun y1 =>
    (porterbase_SameTexts N y y1).bind fun y2 =>
    cond y2
    (cond ((((List.length y) : Nat) : Int) == (Go.IntKind.wrap Go.IntKind.i64 ((((List.length t.2.1) : Nat) : Int) + (1 : Int))))
      ((chain_Last N key t).bind fun y3 =>
        cond (Go.Lift.inR (Go.IntKind.wrap Go.IntKind.i64 ((((List.length y) : Nat) : Int) - (1 : Int))) (List.length y))
        (cond (y3 == (List.getD y (Int.toNat (Go.IntKind.wrap Go.IntKind.i64 ((((List.length y) : Nat) : Int) - (1 : Int)))) ([] : List UInt8)))
          ((porterlaw34_works N).bind fun y4 =>
            some y4)
          (some false))
        (none))
      (some false))
    (some false))

noncomputable def porterlaw34_ChainTags_t (N : Nat) : Tab Bool := [([0, 1], porterlaw34_ChainTags_h1 N)]

theorem porterlaw34_ChainTags_link (N : Nat) (x : denS [(0, .v .str), (0, .v (.pair .str (.pair (.sl (.pair .str (.pair .str .unit))) (.pair .str .unit))))]) : evFX (porterlaw34_ChainTags_E N) N (porterlaw34_ChainTags_t N) porterlaw34_ChainTags_L Go.Proofs.Tryd.f8 (mkS [(0, .v .str), (0, .v (.pair .str (.pair (.sl (.pair .str (.pair .str .unit))) (.pair .str .unit))))] 0 x) (kRes (.v .bool) 2) = porterlaw34_ChainTags N x.1 x.2.1 := by kernel_rfl

noncomputable def porterlaw34_ChainTags_res (N : Nat) : List A → Res := resOf [(0, .v .str), (0, .v (.pair .str (.pair (.sl (.pair .str (.pair .str .unit))) (.pair .str .unit))))] (fun x => porterlaw34_ChainTags N x.1 x.2.1) (oRes (.v .bool) 2)

theorem porterlaw34_ChainTags_ct (N : Nat) : Contract Go.Proofs.Tryd.prog glob 8 (porterlaw34_ChainTags_res N) :=
  Contract.of (E := porterlaw34_ChainTags_E N) (H := porterlaw34_ChainTags_t N) (L := porterlaw34_ChainTags_L) (N := N) (body := porterlaw34_ChainTags_body) (K := (kRes (.v .bool) 2)) (porterlaw34_ChainTags_Eok N) Go.Proofs.Tryd.func8 (by kernel_rfl) (by decide) (fun _ hb => (TabOk.cons (porterlaw34_ChainTags_ok1 hb) TabOk.nil)) (fun x y h => by rw [porterlaw34_ChainTags_link]; exact h) (kRes_ok (s := (.v .bool)) (m := 2))

abbrev porterlaw34_ChainOn_R : Type := Bool

noncomputable def porterlaw34_ChainOn_body : Code := (Go.Proofs.Tryd.f9.body).getD .skip

noncomputable def porterlaw34_ChainOn_L : List (List Nat × List Nat) := [([0], [0, 4, 2]), ([0, 0, 1], [16, 2, 4, 0]), ([1, 0, 1], [2, 4, 0]), ([0, 0, 1, 0, 1], [6]), ([1, 0, 1, 0, 1], [6]), ([0, 1, 1], [0, 4, 7]), ([0, 1, 1, 1], [7, 4, 8, 0]), ([0, 0, 1, 1, 1, 1], [9, 4, 8, 0]), ([0, 1, 0, 1, 1, 1, 1], [9, 4, 8, 0]), ([0, 0, 0, 0, 1, 0, 1, 1, 1, 1], [39, 8, 4, 9, 0]), ([1, 0, 0, 0, 1, 0, 1, 1, 1, 1], [8, 4, 9, 0]), ([1, 1, 0, 0, 0, 1, 0, 1, 1, 1, 1], [8, 0, 4]), ([0, 0, 1, 0, 0, 1, 0, 1, 1, 1, 1], [9, 4, 8, 0]), ([0, 1, 0, 0, 1, 0, 1, 1, 1, 1], [9, 4, 8, 0]), ([1, 1, 0, 0, 1, 0, 1, 1, 1, 1], [9, 4, 8, 0]), ([1, 0, 1, 1, 1, 1], [8, 0, 4]), ([0, 1, 1, 1, 1, 1], [6]), ([1, 1, 1, 1, 1, 1], [6])]

noncomputable def porterlaw34_ChainOn_E (N : Nat) : Env := mkEnv tys glob [(32, porterlaw34_great_res N), (26, chain_Next_res N), (22, porterlaw34_works_res N), (36, chain_Last_res N)] [] [] [] false [] [(84, chain_along1_itr N), (98, stream_blocks1_itr N), (106, hmac_framed1_itr N)]

theorem porterlaw34_ChainOn_Eok (N : Nat) : EnvOk Go.Proofs.Tryd.prog (porterlaw34_ChainOn_E N) := mkEnv_ok mixed tys_ok (FnsOk.cons (porterlaw34_great_ct N) (FnsOk.cons (chain_Next_ct N) (FnsOk.cons (porterlaw34_works_ct N) (FnsOk.cons (chain_Last_ct N) (FnsOk.nil))))) (ItsOk.cons (chain_along1_it N) (ItsOk.cons (stream_blocks1_it N) (ItsOk.cons (hmac_framed1_it N) (ItsOk.nil))))

noncomputable def porterlaw34_ChainOn_p2 (N : Nat) (key : (List UInt8)) (n : Int) (t : ((List UInt8) × ((List ((List UInt8) × ((List UInt8) × Unit))) × ((List UInt8) × Unit)))) (k0 : Bool → Option Bool) : Option Bool :=
  cond (decide ((200 : Int) < (((List.length key) : Nat) : Int)))
  (k0 true)
  ((porterlaw34_great N t).bind fun y =>
    k0 y)

noncomputable def porterlaw34_ChainOn_g2 (N : Nat) (x : denS [(0, .v .str), (1, .v (.int .u8)), (1, .box (.pair .str (.pair (.sl (.pair .str (.pair .str .unit))) (.pair .str .unit))))]) (K : Ex → List A → Option Bool) : Option Bool :=
  porterlaw34_ChainOn_p2 N x.1 x.2.1 x.2.2.1 (fun a3 => (K .normal (mkS [(0, .v .str), (1, .v (.int .u8)), (1, .box (.pair .str (.pair (.sl (.pair .str (.pair .str .unit))) (.pair .str .unit)))), (11, .v .bool)] 40 (x.1, x.2.1, x.2.2.1, a3, ()))))

noncomputable def porterlaw34_ChainOn_h2 (N : Nat) : Hd Bool := fun st K => (unS [(0, .v .str), (1, .v (.int .u8)), (1, .box (.pair .str (.pair (.sl (.pair .str (.pair .str .unit))) (.pair .str .unit))))] 52 (restr [0, 4, 2] 0 st)).bind fun x => porterlaw34_ChainOn_g2 N x K

noncomputable def porterlaw34_ChainOn_t2 (N : Nat) : Tab Bool := []

theorem porterlaw34_ChainOn_ok2 {N : Nat} {c : Ctx} (hb : Base Go.Proofs.Tryd.prog (porterlaw34_ChainOn_E N) c) : CodeOk Go.Proofs.Tryd.prog c (nodeAt porterlaw34_ChainOn_body [0, 0, 1]) (porterlaw34_ChainOn_h2 N) :=
  piece_ok (s := [(0, .v .str), (1, .v (.int .u8)), (1, .box (.pair .str (.pair (.sl (.pair .str (.pair .str .unit))) (.pair .str .unit))))]) (m := 52) (g := porterlaw34_ChainOn_g2 N) [0, 4, 2] (evN_sound hb N (porterlaw34_ChainOn_t2 N) porterlaw34_ChainOn_L porterlaw34_ChainOn_body TabOk.nil [0, 0, 1] _ rfl) (fun x K => by kernel_rfl)

noncomputable def porterlaw34_ChainOn_p1 (N : Nat) (key : (List UInt8)) (n : Int) (t : ((List UInt8) × ((List ((List UInt8) × ((List UInt8) × Unit))) × ((List UInt8) × Unit)))) (k0 : Bool → Option Bool) (k1 : Option Bool) : Option Bool :=
  porterlaw34_ChainOn_p2 N key n t
  (fun x16 => cond x16
    ((porterlaw34_works N).bind fun y =>
      k0 y)
    (k1))

noncomputable def porterlaw34_ChainOn_g1 (N : Nat) (x : denS [(0, .v .str), (1, .v (.int .u8)), (1, .box (.pair .str (.pair (.sl (.pair .str (.pair .str .unit))) (.pair .str .unit))))]) (K : Ex → List A → Option Bool) : Option Bool :=
  porterlaw34_ChainOn_p1 N x.1 x.2.1 x.2.2.1 (fun a0 => (K .ret (mkS [(6, .v .bool)] 50 (a0, ())))) (K .normal (mkS [(0, .v .str), (1, .v (.int .u8)), (1, .box (.pair .str (.pair (.sl (.pair .str (.pair .str .unit))) (.pair .str .unit))))] 52 (x.1, x.2.1, x.2.2.1, ())))

noncomputable def porterlaw34_ChainOn_h1 (N : Nat) : Hd Bool := fun st K => (unS [(0, .v .str), (1, .v (.int .u8)), (1, .box (.pair .str (.pair (.sl (.pair .str (.pair .str .unit))) (.pair .str .unit))))] 52 (restr [0, 4, 2] 0 st)).bind fun x => porterlaw34_ChainOn_g1 N x K

noncomputable def porterlaw34_ChainOn_t1 (N : Nat) : Tab Bool := [([0, 0, 1], porterlaw34_ChainOn_h2 N)]

theorem porterlaw34_ChainOn_ok1 {N : Nat} {c : Ctx} (hb : Base Go.Proofs.Tryd.prog (porterlaw34_ChainOn_E N) c) : CodeOk Go.Proofs.Tryd.prog c (nodeAt porterlaw34_ChainOn_body [0, 1]) (porterlaw34_ChainOn_h1 N) :=
  piece_ok (s := [(0, .v .str), (1, .v (.int .u8)), (1, .box (.pair .str (.pair (.sl (.pair .str (.pair .str .unit))) (.pair .str .unit))))]) (m := 52) (g := porterlaw34_ChainOn_g1 N) [0, 4, 2] (evN_sound hb N (porterlaw34_ChainOn_t1 N) porterlaw34_ChainOn_L porterlaw34_ChainOn_body (TabOk.cons (porterlaw34_ChainOn_ok2 hb) TabOk.nil) [0, 1] _ rfl) (fun x K => by kernel_rfl)

noncomputable def porterlaw34_ChainOn_s3 (N : Nat) (key : (List UInt8)) (t : ((List UInt8) × ((List ((List UInt8) × ((List UInt8) × Unit))) × ((List UInt8) × Unit)))) (tag : (List UInt8)) (i : Int) (rec : (List UInt8) → Int → Option Bool) (k0 : (List UInt8) → Option Bool) : Option Bool :=
  cond (decide (i < (((List.length t.2.1) : Nat) : Int)))
  (cond (Go.Lift.inR i (List.length t.2.1))
    ((chain_Next N tag (List.getD t.2.1 (Int.toNat i) (([] : List UInt8), (([] : List UInt8), ())))).bind fun y =>
      rec y (Go.IntKind.wrap Go.IntKind.i64 (i + (1 : Int))))
    (none))
  (k0 tag)

noncomputable def porterlaw34_ChainOn_p3 (N : Nat) (key : (List UInt8)) (t : ((List UInt8) × ((List ((List UInt8) × ((List UInt8) × Unit))) × ((List UInt8) × Unit)))) (tag : (List UInt8)) (i : Int) (k0 : (List UInt8) → Option Bool) : Option Bool :=
  iter (fun (v : ((List UInt8) × Int)) r => porterlaw34_ChainOn_s3 N key t v.1 v.2 (fun tag i => (r (tag, i))) k0) N (tag, i)

noncomputable def porterlaw34_ChainOn_g3 (N : Nat) (i : ((List UInt8) × ((List UInt8) × ((List ((List UInt8) × ((List UInt8) × Unit))) × ((List UInt8) × Unit))))) (v : ((List UInt8) × Int)) (r : ((List UInt8) × Int) → Option Bool) (K : Ex → List A → Option Bool) : Option Bool :=
  porterlaw34_ChainOn_s3 N i.1 i.2 v.1 v.2 (fun tag i => (r (tag, i))) (fun a2 => (K (.exit 0) (mkS [(0, .v .str), (3, .box (.pair .str (.pair (.sl (.pair .str (.pair .str .unit))) (.pair .str .unit)))), (3, .v .str)] 48 (i.1, i.2, a2, ()))))

noncomputable def porterlaw34_ChainOn_h3 (N : Nat) : Hd Bool := fun st K => (unS [(0, .v .str), (3, .box (.pair .str (.pair (.sl (.pair .str (.pair .str .unit))) (.pair .str .unit)))), (3, .v .str), (0, .v (.int .i64))] 47 (restr [9, 4, 8, 0] 0 st)).bind fun x => iter (fun v r => porterlaw34_ChainOn_g3 N ((fun x => (x.1, x.2.1)) x) v r K) N ((fun x => (x.2.2.1, x.2.2.2.1)) x)

noncomputable def porterlaw34_ChainOn_t3 (N : Nat) : Tab Bool := []

theorem porterlaw34_ChainOn_ok3 {N : Nat} {c : Ctx} (hb : Base Go.Proofs.Tryd.prog (porterlaw34_ChainOn_E N) c) : CodeOk Go.Proofs.Tryd.prog c (nodeAt porterlaw34_ChainOn_body [0, 1, 0, 1, 1, 1, 1]) (porterlaw34_ChainOn_h3 N) :=
  loop_ok (s := [(0, .v .str), (3, .box (.pair .str (.pair (.sl (.pair .str (.pair .str .unit))) (.pair .str .unit)))), (3, .v .str), (0, .v (.int .i64))]) (m := 47) (porterlaw34_ChainOn_g3 N) [9, 4, 8, 0] N (fun x => (x.1, x.2.1)) (fun x => (x.2.2.1, x.2.2.2.1)) (fun i v => (i.1, i.2, v.1, v.2, ())) (fun _ => rfl) (evN_sound hb N (porterlaw34_ChainOn_t3 N) porterlaw34_ChainOn_L porterlaw34_ChainOn_body TabOk.nil [0, 0, 1, 0, 1, 1, 1, 1] _ rfl) (fun i v r K => by kernel_rfl)

noncomputable def porterlaw34_ChainOn (N : Nat) (key : (List UInt8)) (t : ((List UInt8) × ((List ((List UInt8) × ((List UInt8) × Unit))) × ((List UInt8) × Unit)))) (n : Int) : Option Bool :=
  porterlaw34_ChainOn_p1 N key n t
  (fun x6 => some x6)
  (cond ((Go.IntKind.wrap Go.IntKind.i64 ((((List.length t.2.1) : Nat) : Int) + (1 : Int))) == (0 : Int))
    (none)
    (cond (decide (((0 : Int) ≤ (Int.tmod (Go.IntKind.wrap Go.IntKind.i64 n) (Go.IntKind.wrap Go.IntKind.i64 ((((List.length t.2.1) : Nat) : Int) + (1 : Int))))) ∧ ((Int.tmod (Go.IntKind.wrap Go.IntKind.i64 n) (Go.IntKind.wrap Go.IntKind.i64 ((((List.length t.2.1) : Nat) : Int) + (1 : Int)))) ≤ (((List.length t.2.1) : Nat) : Int))))
      ((chain_Last N key (t.1, ((Go.Lift.cut t.2.1 0 (Int.toNat (Int.tmod (Go.IntKind.wrap Go.IntKind.i64 n) (Go.IntKind.wrap Go.IntKind.i64 ((((List.length t.2.1) : Nat) : Int) + (1 : Int)))))), (([] : List UInt8), ())))).bind fun y =>
        porterlaw34_ChainOn_p3 N key t y (Int.tmod (Go.IntKind.wrap Go.IntKind.i64 n) (Go.IntKind.wrap Go.IntKind.i64 ((((List.length t.2.1) : Nat) : Int) + (1 : Int))))
        (fun tag => (chain_Last N key t).bind fun y1 =>
          cond (tag == y1)
          ((porterlaw34_works N).bind fun y2 =>
            some y2)
          (some false)))
      (none)))

noncomputable def porterlaw34_ChainOn_t (N : Nat) : Tab Bool := [([0, 1], porterlaw34_ChainOn_h1 N), ([0, 1, 0, 1, 1, 1, 1], porterlaw34_ChainOn_h3 N)]

theorem porterlaw34_ChainOn_link (N : Nat) (x : denS [(0, .v .str), (0, .v (.pair .str (.pair (.sl (.pair .str (.pair .str .unit))) (.pair .str .unit)))), (0, .v (.int .u8))]) : evFX (porterlaw34_ChainOn_E N) N (porterlaw34_ChainOn_t N) porterlaw34_ChainOn_L Go.Proofs.Tryd.f9 (mkS [(0, .v .str), (0, .v (.pair .str (.pair (.sl (.pair .str (.pair .str .unit))) (.pair .str .unit)))), (0, .v (.int .u8))] 0 x) (kRes (.v .bool) 3) = porterlaw34_ChainOn N x.1 x.2.1 x.2.2.1 := by kernel_rfl

noncomputable def porterlaw34_ChainOn_res (N : Nat) : List A → Res := resOf [(0, .v .str), (0, .v (.pair .str (.pair (.sl (.pair .str (.pair .str .unit))) (.pair .str .unit)))), (0, .v (.int .u8))] (fun x => porterlaw34_ChainOn N x.1 x.2.1 x.2.2.1) (oRes (.v .bool) 3)

theorem porterlaw34_ChainOn_ct (N : Nat) : Contract Go.Proofs.Tryd.prog glob 9 (porterlaw34_ChainOn_res N) :=
  Contract.of (E := porterlaw34_ChainOn_E N) (H := porterlaw34_ChainOn_t N) (L := porterlaw34_ChainOn_L) (N := N) (body := porterlaw34_ChainOn_body) (K := (kRes (.v .bool) 3)) (porterlaw34_ChainOn_Eok N) Go.Proofs.Tryd.func9 (by kernel_rfl) (by decide) (fun _ hb => (TabOk.cons (porterlaw34_ChainOn_ok1 hb) (TabOk.cons (porterlaw34_ChainOn_ok3 hb) TabOk.nil))) (fun x y h => by rw [porterlaw34_ChainOn_link]; exact h) (kRes_ok (s := (.v .bool)) (m := 3))

abbrev porterbase_SameToken_R : Type := Bool

noncomputable def porterbase_SameToken_body : Code := (Go.Proofs.Tryd.f37.body).getD .skip

noncomputable def porterbase_SameToken_L : List (List Nat × List Nat) := [([0], [2, 3]), ([0, 0, 1], [26, 2, 3]), ([1, 0, 1], [2, 3]), ([0, 0, 1, 0, 1], [4]), ([1, 0, 1, 0, 1], [4]), ([0, 0, 1, 1], [5, 2, 3]), ([0, 1, 0, 1, 1], [5, 2, 3]), ([0, 0, 0, 0, 1, 0, 1, 1], [31, 2, 5, 3]), ([1, 0, 0, 0, 1, 0, 1, 1], [2, 5, 3]), ([1, 1, 0, 0, 0, 1, 0, 1, 1], []), ([0, 0, 0, 1, 0, 0, 1, 0, 1, 1], [44, 5, 2, 3]), ([1, 0, 0, 1, 0, 0, 1, 0, 1, 1], [5, 2, 3]), ([0, 0, 1, 0, 0, 1, 0, 0, 1, 0, 1, 1], [4]), ([1, 0, 1, 0, 0, 1, 0, 0, 1, 0, 1, 1], [4]), ([0, 1, 0, 0, 1, 0, 1, 1], [5, 2, 3]), ([1, 1, 0, 0, 1, 0, 1, 1], [5, 2, 3]), ([1, 0, 1, 1], []), ([0, 1, 1, 1], [4]), ([1, 1, 1, 1], [4])]

noncomputable def porterbase_SameToken_E (N : Nat) : Env := mkEnv tys glob [] [] [] [] false [] [(84, chain_along1_itr N), (98, stream_blocks1_itr N), (106, hmac_framed1_itr N)]

theorem porterbase_SameToken_Eok (N : Nat) : EnvOk Go.Proofs.Tryd.prog (porterbase_SameToken_E N) := mkEnv_ok mixed tys_ok (FnsOk.nil) (ItsOk.cons (chain_along1_it N) (ItsOk.cons (stream_blocks1_it N) (ItsOk.cons (hmac_framed1_it N) (ItsOk.nil))))

noncomputable def porterbase_SameToken_p2 (N : Nat) (a : ((List UInt8) × ((List ((List UInt8) × ((List UInt8) × Unit))) × ((List UInt8) × Unit)))) (b : ((List UInt8) × ((List ((List UInt8) × ((List UInt8) × Unit))) × ((List UInt8) × Unit)))) (k0 : Bool → Option Bool) : Option Bool :=
  cond (!(a.1 == b.1))
  (k0 true)
  (cond (!(a.2.2.1 == b.2.2.1))
    (k0 true)
    (k0 ((((List.length a.2.1) : Nat) : Int) != (((List.length b.2.1) : Nat) : Int))))

noncomputable def porterbase_SameToken_g2 (N : Nat) (x : denS [(2, .box (.pair .str (.pair (.sl (.pair .str (.pair .str .unit))) (.pair .str .unit)))), (0, .box (.pair .str (.pair (.sl (.pair .str (.pair .str .unit))) (.pair .str .unit))))]) (K : Ex → List A → Option Bool) : Option Bool :=
  porterbase_SameToken_p2 N x.1 x.2.1 (fun a2 => (K .normal (mkS [(2, .box (.pair .str (.pair (.sl (.pair .str (.pair .str .unit))) (.pair .str .unit)))), (0, .box (.pair .str (.pair (.sl (.pair .str (.pair .str .unit))) (.pair .str .unit)))), (22, .v .bool)] 18 (x.1, x.2.1, a2, ()))))

noncomputable def porterbase_SameToken_h2 (N : Nat) : Hd Bool := fun st K => (unS [(2, .box (.pair .str (.pair (.sl (.pair .str (.pair .str .unit))) (.pair .str .unit)))), (0, .box (.pair .str (.pair (.sl (.pair .str (.pair .str .unit))) (.pair .str .unit))))] 41 (restr [2, 3] 0 st)).bind fun x => porterbase_SameToken_g2 N x K

noncomputable def porterbase_SameToken_t2 (N : Nat) : Tab Bool := []

theorem porterbase_SameToken_ok2 {N : Nat} {c : Ctx} (hb : Base Go.Proofs.Tryd.prog (porterbase_SameToken_E N) c) : CodeOk Go.Proofs.Tryd.prog c (nodeAt porterbase_SameToken_body [0, 0, 1]) (porterbase_SameToken_h2 N) :=
  piece_ok (s := [(2, .box (.pair .str (.pair (.sl (.pair .str (.pair .str .unit))) (.pair .str .unit)))), (0, .box (.pair .str (.pair (.sl (.pair .str (.pair .str .unit))) (.pair .str .unit))))]) (m := 41) (g := porterbase_SameToken_g2 N) [2, 3] (evN_sound hb N (porterbase_SameToken_t2 N) porterbase_SameToken_L porterbase_SameToken_body TabOk.nil [0, 0, 1] _ rfl) (fun x K => by kernel_rfl)

noncomputable def porterbase_SameToken_p1 (N : Nat) (a : ((List UInt8) × ((List ((List UInt8) × ((List UInt8) × Unit))) × ((List UInt8) × Unit)))) (b : ((List UInt8) × ((List ((List UInt8) × ((List UInt8) × Unit))) × ((List UInt8) × Unit)))) (k0 : Bool → Option Bool) (k1 : Option Bool) : Option Bool :=
  porterbase_SameToken_p2 N a b
  (fun x26 => cond x26
    (k0 false)
    (k1))

noncomputable def porterbase_SameToken_g1 (N : Nat) (x : denS [(2, .box (.pair .str (.pair (.sl (.pair .str (.pair .str .unit))) (.pair .str .unit)))), (0, .box (.pair .str (.pair (.sl (.pair .str (.pair .str .unit))) (.pair .str .unit))))]) (K : Ex → List A → Option Bool) : Option Bool :=
  porterbase_SameToken_p1 N x.1 x.2.1 (fun a0 => (K .ret (mkS [(4, .v .bool)] 40 (a0, ())))) (K .normal (mkS [(2, .box (.pair .str (.pair (.sl (.pair .str (.pair .str .unit))) (.pair .str .unit)))), (0, .box (.pair .str (.pair (.sl (.pair .str (.pair .str .unit))) (.pair .str .unit))))] 41 (x.1, x.2.1, ())))

noncomputable def porterbase_SameToken_h1 (N : Nat) : Hd Bool := fun st K => (unS [(2, .box (.pair .str (.pair (.sl (.pair .str (.pair .str .unit))) (.pair .str .unit)))), (0, .box (.pair .str (.pair (.sl (.pair .str (.pair .str .unit))) (.pair .str .unit))))] 41 (restr [2, 3] 0 st)).bind fun x => porterbase_SameToken_g1 N x K

noncomputable def porterbase_SameToken_t1 (N : Nat) : Tab Bool := [([0, 0, 1], porterbase_SameToken_h2 N)]

theorem porterbase_SameToken_ok1 {N : Nat} {c : Ctx} (hb : Base Go.Proofs.Tryd.prog (porterbase_SameToken_E N) c) : CodeOk Go.Proofs.Tryd.prog c (nodeAt porterbase_SameToken_body [0, 1]) (porterbase_SameToken_h1 N) :=
  piece_ok (s := [(2, .box (.pair .str (.pair (.sl (.pair .str (.pair .str .unit))) (.pair .str .unit)))), (0, .box (.pair .str (.pair (.sl (.pair .str (.pair .str .unit))) (.pair .str .unit))))]) (m := 41) (g := porterbase_SameToken_g1 N) [2, 3] (evN_sound hb N (porterbase_SameToken_t1 N) porterbase_SameToken_L porterbase_SameToken_body (TabOk.cons (porterbase_SameToken_ok2 hb) TabOk.nil) [0, 1] _ rfl) (fun x K => by kernel_rfl)

noncomputable def porterbase_SameToken_s3 (N : Nat) (a : ((List UInt8) × ((List ((List UInt8) × ((List UInt8) × Unit))) × ((List UInt8) × Unit)))) (b : ((List UInt8) × ((List ((List UInt8) × ((List UInt8) × Unit))) × ((List UInt8) × Unit)))) (i : Int) (rec : Int → Option Bool) (k0 : Bool → Option Bool) (k1 : Option Bool) : Option Bool :=
  cond (decide (i < (((List.length a.2.1) : Nat) : Int)))
  (cond (Go.Lift.inR i (List.length a.2.1))
    (cond (Go.Lift.inR i (List.length b.2.1))
      (cond (!(Go.Lift.eqD (Go.Lift.T.pair Go.Lift.T.str (Go.Lift.T.pair Go.Lift.T.str Go.Lift.T.unit)) (List.getD a.2.1 (Int.toNat i) (([] : List UInt8), (([] : List UInt8), ()))) (List.getD b.2.1 (Int.toNat i) (([] : List UInt8), (([] : List UInt8), ())))))
        (k0 false)
        (rec (Go.IntKind.wrap Go.IntKind.i64 (i + (1 : Int)))))
      (none))
    (none))
  (k1)

noncomputable def porterbase_SameToken_p3 (N : Nat) (a : ((List UInt8) × ((List ((List UInt8) × ((List UInt8) × Unit))) × ((List UInt8) × Unit)))) (b : ((List UInt8) × ((List ((List UInt8) × ((List UInt8) × Unit))) × ((List UInt8) × Unit)))) (i : Int) (k0 : Bool → Option Bool) (k1 : Option Bool) : Option Bool :=
  iter (fun (v : Int) r => porterbase_SameToken_s3 N a b v (fun i => (r i)) k0 k1) N i

noncomputable def porterbase_SameToken_g3 (N : Nat) (i : (((List UInt8) × ((List ((List UInt8) × ((List UInt8) × Unit))) × ((List UInt8) × Unit))) × ((List UInt8) × ((List ((List UInt8) × ((List UInt8) × Unit))) × ((List UInt8) × Unit))))) (v : Int) (r : Int → Option Bool) (K : Ex → List A → Option Bool) : Option Bool :=
  porterbase_SameToken_s3 N i.1 i.2 v (fun i => (r i)) (fun a0 => (K .ret (mkS [(4, .v .bool)] 40 (a0, ())))) (K (.exit 0) (mkS [] 45 ()))

noncomputable def porterbase_SameToken_h3 (N : Nat) : Hd Bool := fun st K => (unS [(2, .box (.pair .str (.pair (.sl (.pair .str (.pair .str .unit))) (.pair .str .unit)))), (0, .box (.pair .str (.pair (.sl (.pair .str (.pair .str .unit))) (.pair .str .unit)))), (1, .v (.int .i64))] 39 (restr [5, 2, 3] 0 st)).bind fun x => iter (fun v r => porterbase_SameToken_g3 N ((fun x => (x.1, x.2.1)) x) v r K) N ((fun x => x.2.2.1) x)

noncomputable def porterbase_SameToken_t3 (N : Nat) : Tab Bool := []

theorem porterbase_SameToken_ok3 {N : Nat} {c : Ctx} (hb : Base Go.Proofs.Tryd.prog (porterbase_SameToken_E N) c) : CodeOk Go.Proofs.Tryd.prog c (nodeAt porterbase_SameToken_body [0, 1, 0, 1, 1]) (porterbase_SameToken_h3 N) :=
  loop_ok (s := [(2, .box (.pair .str (.pair (.sl (.pair .str (.pair .str .unit))) (.pair .str .unit)))), (0, .box (.pair .str (.pair (.sl (.pair .str (.pair .str .unit))) (.pair .str .unit)))), (1, .v (.int .i64))]) (m := 39) (porterbase_SameToken_g3 N) [5, 2, 3] N (fun x => (x.1, x.2.1)) (fun x => x.2.2.1) (fun i v => (i.1, i.2, v, ())) (fun _ => rfl) (evN_sound hb N (porterbase_SameToken_t3 N) porterbase_SameToken_L porterbase_SameToken_body TabOk.nil [0, 0, 1, 0, 1, 1] _ rfl) (fun i v r K => by kernel_rfl)

noncomputable def porterbase_SameToken (N : Nat) (a : ((List UInt8) × ((List ((List UInt8) × ((List UInt8) × Unit))) × ((List UInt8) × Unit)))) (b : ((List UInt8) × ((List ((List UInt8) × ((List UInt8) × Unit))) × ((List UInt8) × Unit)))) : Option Bool :=
  porterbase_SameToken_p1 N a b
  (fun x4 => some x4)
  (porterbase_SameToken_p3 N a b (0 : Int)
    (fun x41 => some x41)
    (some true))

noncomputable def porterbase_SameToken_t (N : Nat) : Tab Bool := [([0, 1], porterbase_SameToken_h1 N), ([0, 1, 0, 1, 1], porterbase_SameToken_h3 N)]

theorem porterbase_SameToken_link (N : Nat) (x : denS [(0, .v (.pair .str (.pair (.sl (.pair .str (.pair .str .unit))) (.pair .str .unit)))), (0, .v (.pair .str (.pair (.sl (.pair .str (.pair .str .unit))) (.pair .str .unit))))]) : evFX (porterbase_SameToken_E N) N (porterbase_SameToken_t N) porterbase_SameToken_L Go.Proofs.Tryd.f37 (mkS [(0, .v (.pair .str (.pair (.sl (.pair .str (.pair .str .unit))) (.pair .str .unit)))), (0, .v (.pair .str (.pair (.sl (.pair .str (.pair .str .unit))) (.pair .str .unit))))] 0 x) (kRes (.v .bool) 2) = porterbase_SameToken N x.1 x.2.1 := by kernel_rfl

noncomputable def porterbase_SameToken_res (N : Nat) : List A → Res := resOf [(0, .v (.pair .str (.pair (.sl (.pair .str (.pair .str .unit))) (.pair .str .unit)))), (0, .v (.pair .str (.pair (.sl (.pair .str (.pair .str .unit))) (.pair .str .unit))))] (fun x => porterbase_SameToken N x.1 x.2.1) (oRes (.v .bool) 2)

theorem porterbase_SameToken_ct (N : Nat) : Contract Go.Proofs.Tryd.prog glob 37 (porterbase_SameToken_res N) :=
  Contract.of (E := porterbase_SameToken_E N) (H := porterbase_SameToken_t N) (L := porterbase_SameToken_L) (N := N) (body := porterbase_SameToken_body) (K := (kRes (.v .bool) 2)) (porterbase_SameToken_Eok N) Go.Proofs.Tryd.func37 (by kernel_rfl) (by decide) (fun _ hb => (TabOk.cons (porterbase_SameToken_ok1 hb) (TabOk.cons (porterbase_SameToken_ok3 hb) TabOk.nil))) (fun x y h => by rw [porterbase_SameToken_link]; exact h) (kRes_ok (s := (.v .bool)) (m := 2))

abbrev porterref34_Texts_R : Type := (List (List UInt8))

noncomputable def porterref34_Texts_body : Code := (Go.Proofs.Tryd.f38.body).getD .skip

noncomputable def porterref34_Texts_L : List (List Nat × List Nat) := [([0], [0, 3]), ([0, 1], [0, 3, 5]), ([0, 1, 1], [3, 6, 5]), ([0, 0, 1, 1, 1], [7, 3, 6, 5]), ([0, 1, 0, 1, 1, 1], [7, 3, 6, 5]), ([0, 0, 0, 0, 1, 0, 1, 1, 1], [21, 6, 5, 7, 3]), ([1, 0, 0, 0, 1, 0, 1, 1, 1], [6, 5, 7, 3]), ([1, 1, 0, 0, 0, 1, 0, 1, 1, 1], [6]), ([0, 0, 1, 0, 0, 1, 0, 1, 1, 1], [7, 3, 6, 5]), ([0, 1, 0, 0, 1, 0, 1, 1, 1], [7, 3, 6, 5]), ([1, 1, 0, 0, 1, 0, 1, 1, 1], [7, 3, 6, 5]), ([1, 0, 1, 1, 1], [6]), ([0, 1, 1, 1, 1], [4]), ([1, 1, 1, 1, 1], [4])]

noncomputable def porterref34_Texts_E (N : Nat) : Env := mkEnv tys glob [(35, porterref34_Tags_res N), (27, porterref34_NextParts_res N), (25, porterref34_RootParts_res N), (60, porterref04_Texts_res N), (61, porterref04_Frame_res N)] [(5, .str), (6, .str), (4, .str)] [] [] true [] [(84, chain_along1_itr N), (98, stream_blocks1_itr N), (106, hmac_framed1_itr N)]

theorem porterref34_Texts_Eok (N : Nat) : EnvOk Go.Proofs.Tryd.prog (porterref34_Texts_E N) := mkEnv_ok mixed tys_ok (FnsOk.cons (porterref34_Tags_ct N) (FnsOk.cons (porterref34_NextParts_ct N) (FnsOk.cons (porterref34_RootParts_ct N) (FnsOk.cons (porterref04_Texts_ct N) (FnsOk.cons (porterref04_Frame_ct N) (FnsOk.nil)))))) (ItsOk.cons (chain_along1_it N) (ItsOk.cons (stream_blocks1_it N) (ItsOk.cons (hmac_framed1_it N) (ItsOk.nil))))

noncomputable def porterref34_Texts_s1 (N : Nat) (t : ((List UInt8) × ((List ((List UInt8) × ((List UInt8) × Unit))) × ((List UInt8) × Unit)))) (l : (List (List UInt8))) (out : (List (List UInt8))) (i : Int) (rec : (List (List UInt8)) → Int → Option (List (List UInt8))) (k0 : (List (List UInt8)) → Option (List (List UInt8))) : Option (List (List UInt8)) :=
  cond (decide (i < (((List.length t.2.1) : Nat) : Int)))
  (cond (Go.Lift.inR i (List.length l))
    (cond (Go.Lift.inR i (List.length t.2.1))
      ((porterref34_NextParts N (List.getD t.2.1 (Int.toNat i) (([] : List UInt8), (([] : List UInt8), ())))).bind fun y =>
        (porterref04_Frame N y).bind fun y1 =>
        (porterref04_Texts N (List.getD l (Int.toNat i) ([] : List UInt8)) y1).bind fun y2 =>
        cond (decide ((((List.length out) + (List.length y2)) * 16) ≤ 70368744177664))
        (rec (out ++ y2) (Go.IntKind.wrap Go.IntKind.i64 (i + (1 : Int))))
        (none))
      (none))
    (none))
  (k0 out)

noncomputable def porterref34_Texts_p1 (N : Nat) (t : ((List UInt8) × ((List ((List UInt8) × ((List UInt8) × Unit))) × ((List UInt8) × Unit)))) (l : (List (List UInt8))) (out : (List (List UInt8))) (i : Int) (k0 : (List (List UInt8)) → Option (List (List UInt8))) : Option (List (List UInt8)) :=
  iter (fun (v : ((List (List UInt8)) × Int)) r => porterref34_Texts_s1 N t l v.1 v.2 (fun out i => (r (out, i))) k0) N (out, i)

noncomputable def porterref34_Texts_g1 (N : Nat) (i : (((List UInt8) × ((List ((List UInt8) × ((List UInt8) × Unit))) × ((List UInt8) × Unit))) × (List (List UInt8)))) (v : ((List (List UInt8)) × Int)) (r : ((List (List UInt8)) × Int) → Option (List (List UInt8))) (K : Ex → List A → Option (List (List UInt8))) : Option (List (List UInt8)) :=
  porterref34_Texts_s1 N i.1 i.2 v.1 v.2 (fun out i => (r (out, i))) (fun a0 => (K (.exit 0) (mkS [(6, .row .str)] 32 (a0, ()))))

noncomputable def porterref34_Texts_h1 (N : Nat) : Hd (List (List UInt8)) := fun st K => (unS [(3, .box (.pair .str (.pair (.sl (.pair .str (.pair .str .unit))) (.pair .str .unit)))), (1, .v (.sl .str)), (0, .row .str), (0, .v (.int .i64))] 31 (restr [7, 3, 6, 5] 0 st)).bind fun x => iter (fun v r => porterref34_Texts_g1 N ((fun x => (x.1, x.2.1)) x) v r K) N ((fun x => (x.2.2.1, x.2.2.2.1)) x)

noncomputable def porterref34_Texts_t1 (N : Nat) : Tab (List (List UInt8)) := []

theorem porterref34_Texts_ok1 {N : Nat} {c : Ctx} (hb : Base Go.Proofs.Tryd.prog (porterref34_Texts_E N) c) : CodeOk Go.Proofs.Tryd.prog c (nodeAt porterref34_Texts_body [0, 1, 0, 1, 1, 1]) (porterref34_Texts_h1 N) :=
  loop_ok (s := [(3, .box (.pair .str (.pair (.sl (.pair .str (.pair .str .unit))) (.pair .str .unit)))), (1, .v (.sl .str)), (0, .row .str), (0, .v (.int .i64))]) (m := 31) (porterref34_Texts_g1 N) [7, 3, 6, 5] N (fun x => (x.1, x.2.1)) (fun x => (x.2.2.1, x.2.2.2.1)) (fun i v => (i.1, i.2, v.1, v.2, ())) (fun _ => rfl) (evN_sound hb N (porterref34_Texts_t1 N) porterref34_Texts_L porterref34_Texts_body TabOk.nil [0, 0, 1, 0, 1, 1, 1] _ rfl) (fun i v r K => by kernel_rfl)

noncomputable def porterref34_Texts (N : Nat) (key : (List UInt8)) (t : ((List UInt8) × ((List ((List UInt8) × ((List UInt8) × Unit))) × ((List UInt8) × Unit)))) : Option (List (List UInt8)) :=
  (porterref34_Tags N key t).bind fun y =>
  (porterref04_Frame N ([([(114 : UInt8), (111 : UInt8), (111 : UInt8), (116 : UInt8)] : List UInt8), t.1] : List (List UInt8))).bind fun y1 =>
  (porterref04_Texts N key y1).bind fun y2 =>
  porterref34_Texts_p1 N t y y2 (0 : Int)
  (fun out => some out)

noncomputable def porterref34_Texts_t (N : Nat) : Tab (List (List UInt8)) := [([0, 1, 0, 1, 1, 1], porterref34_Texts_h1 N)]

theorem porterref34_Texts_link (N : Nat) (x : denS [(0, .v .str), (0, .v (.pair .str (.pair (.sl (.pair .str (.pair .str .unit))) (.pair .str .unit))))]) : evFX (porterref34_Texts_E N) N (porterref34_Texts_t N) porterref34_Texts_L Go.Proofs.Tryd.f38 (mkS [(0, .v .str), (0, .v (.pair .str (.pair (.sl (.pair .str (.pair .str .unit))) (.pair .str .unit))))] 0 x) (kRes (.row .str) 2) = porterref34_Texts N x.1 x.2.1 := by kernel_rfl

noncomputable def porterref34_Texts_res (N : Nat) : List A → Res := resOf [(0, .v .str), (0, .v (.pair .str (.pair (.sl (.pair .str (.pair .str .unit))) (.pair .str .unit))))] (fun x => porterref34_Texts N x.1 x.2.1) (oRes (.row .str) 2)

theorem porterref34_Texts_ct (N : Nat) : Contract Go.Proofs.Tryd.prog glob 38 (porterref34_Texts_res N) :=
  Contract.of (E := porterref34_Texts_E N) (H := porterref34_Texts_t N) (L := porterref34_Texts_L) (N := N) (body := porterref34_Texts_body) (K := (kRes (.row .str) 2)) (porterref34_Texts_Eok N) Go.Proofs.Tryd.func38 (by kernel_rfl) (by decide) (fun _ hb => (TabOk.cons (porterref34_Texts_ok1 hb) TabOk.nil)) (fun x y h => by rw [porterref34_Texts_link]; exact h) (kRes_ok (s := (.row .str)) (m := 2))

abbrev porterlaw34_ChainApart_R : Type := Bool

noncomputable def porterlaw34_ChainApart_body : Code := (Go.Proofs.Tryd.f10.body).getD .skip

end Go.Proofs.YtkccmmbomlpgnaaDoorLg
