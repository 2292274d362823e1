/- The functions of the seat, as plain functions, and what their calls do. Printed by a program of mine; checked here. -/
import Derived.Test.YtkccmmbomlpgnaaDoorLgFnG2
import Derived.WalkKit
import Derived.Tactics
import Derived.Tactics2
import Derived.Defers
import Derived.Lib.Hide
import Derived.Below
set_option linter.all false
set_option maxRecDepth 100000
namespace Go.Proofs.YtkccmmbomlpgnaaDoorLg
open Go Go.Lift

noncomputable def porterlaw34_ChainApart_L : List (List Nat × List Nat) := [([0], [3, 4, 5]), ([0, 0, 1], [24, 4, 5, 3]), ([1, 0, 1], [4, 5, 3]), ([0, 0, 1, 0, 1], [6]), ([1, 0, 1, 0, 1], [6]), ([0, 1, 1], [3, 4, 5]), ([0, 0, 1, 1, 1], [37, 3, 4, 5]), ([1, 0, 1, 1, 1], [3, 4, 5]), ([0, 0, 1, 0, 1, 1, 1], [6]), ([1, 0, 1, 0, 1, 1, 1], [6]), ([0, 0, 1, 1, 1, 1], [58, 3, 4, 5]), ([1, 0, 1, 1, 1, 1], [3, 4, 5]), ([0, 0, 1, 0, 1, 1, 1, 1], [6]), ([1, 0, 1, 0, 1, 1, 1, 1], [6]), ([0, 1, 1, 1, 1, 1], [6]), ([1, 1, 1, 1, 1, 1], [6])]

noncomputable def porterlaw34_ChainApart_E (N : Nat) : Env := mkEnv tys glob [(38, porterref34_Texts_res N), (37, porterbase_SameToken_res N), (32, porterlaw34_great_res N), (22, porterlaw34_works_res N), (36, chain_Last_res N), (20, porterref03_Clash_res N)] [] [] [] false [] [(84, chain_along1_itr N), (98, stream_blocks1_itr N), (106, hmac_framed1_itr N)]

theorem porterlaw34_ChainApart_Eok (N : Nat) : EnvOk Go.Proofs.Tryd.prog (porterlaw34_ChainApart_E N) := mkEnv_ok mixed tys_ok (FnsOk.cons (porterref34_Texts_ct N) (FnsOk.cons (porterbase_SameToken_ct N) (FnsOk.cons (porterlaw34_great_ct N) (FnsOk.cons (porterlaw34_works_ct N) (FnsOk.cons (chain_Last_ct N) (FnsOk.cons (porterref03_Clash_ct N) (FnsOk.nil))))))) (ItsOk.cons (chain_along1_it N) (ItsOk.cons (stream_blocks1_it N) (ItsOk.cons (hmac_framed1_it N) (ItsOk.nil))))

noncomputable def porterlaw34_ChainApart_p2 (N : Nat) (keys : (List (List UInt8))) (a : ((List UInt8) × ((List ((List UInt8) × ((List UInt8) × Unit))) × ((List UInt8) × Unit)))) (b : ((List UInt8) × ((List ((List UInt8) × ((List UInt8) × Unit))) × ((List UInt8) × Unit)))) (k0 : Bool → Option Bool) : Option Bool :=
  cond (decide (0 < (List.length keys)))
  (cond ((((List.length (List.getD keys 0 ([] : List UInt8))) : Nat) : Int) != (32 : Int))
    (k0 true)
    (cond (decide (1 < (List.length keys)))
      (cond ((((List.length (List.getD keys 1 ([] : List UInt8))) : Nat) : Int) != (32 : Int))
        (k0 true)
        ((porterlaw34_great N a).bind fun y =>
          cond y
          (k0 true)
          ((porterlaw34_great N b).bind fun y1 =>
            k0 y1)))
      (none)))
  (none)

noncomputable def porterlaw34_ChainApart_g2 (N : Nat) (x : denS [(3, .box (.arr 2 .str)), (0, .box (.pair .str (.pair (.sl (.pair .str (.pair .str .unit))) (.pair .str .unit)))), (0, .box (.pair .str (.pair (.sl (.pair .str (.pair .str .unit))) (.pair .str .unit))))]) (K : Ex → List A → Option Bool) : Option Bool :=
  porterlaw34_ChainApart_p2 N x.1 x.2.1 x.2.2.1 (fun a3 => (K .normal (mkS [(3, .box (.arr 2 .str)), (0, .box (.pair .str (.pair (.sl (.pair .str (.pair .str .unit))) (.pair .str .unit)))), (0, .box (.pair .str (.pair (.sl (.pair .str (.pair .str .unit))) (.pair .str .unit)))), (18, .v .bool)] 45 (x.1, x.2.1, x.2.2.1, a3, ()))))

noncomputable def porterlaw34_ChainApart_h2 (N : Nat) : Hd Bool := fun st K => (unS [(3, .box (.arr 2 .str)), (0, .box (.pair .str (.pair (.sl (.pair .str (.pair .str .unit))) (.pair .str .unit)))), (0, .box (.pair .str (.pair (.sl (.pair .str (.pair .str .unit))) (.pair .str .unit))))] 64 (restr [3, 4, 5] 0 st)).bind fun x => porterlaw34_ChainApart_g2 N x K

noncomputable def porterlaw34_ChainApart_t2 (N : Nat) : Tab Bool := []

theorem porterlaw34_ChainApart_ok2 {N : Nat} {c : Ctx} (hb : Base Go.Proofs.Tryd.prog (porterlaw34_ChainApart_E N) c) : CodeOk Go.Proofs.Tryd.prog c (nodeAt porterlaw34_ChainApart_body [0, 0, 1]) (porterlaw34_ChainApart_h2 N) :=
  piece_ok (s := [(3, .box (.arr 2 .str)), (0, .box (.pair .str (.pair (.sl (.pair .str (.pair .str .unit))) (.pair .str .unit)))), (0, .box (.pair .str (.pair (.sl (.pair .str (.pair .str .unit))) (.pair .str .unit))))]) (m := 64) (g := porterlaw34_ChainApart_g2 N) [3, 4, 5] (evN_sound hb N (porterlaw34_ChainApart_t2 N) porterlaw34_ChainApart_L porterlaw34_ChainApart_body TabOk.nil [0, 0, 1] _ rfl) (fun x K => by kernel_rfl)

noncomputable def porterlaw34_ChainApart_p1 (N : Nat) (keys : (List (List UInt8))) (a : ((List UInt8) × ((List ((List UInt8) × ((List UInt8) × Unit))) × ((List UInt8) × Unit)))) (b : ((List UInt8) × ((List ((List UInt8) × ((List UInt8) × Unit))) × ((List UInt8) × Unit)))) (k0 : Bool → Option Bool) (k1 : Option Bool) : Option Bool :=
  porterlaw34_ChainApart_p2 N keys a b
  (fun x24 => cond x24
    ((porterlaw34_works N).bind fun y =>
      k0 y)
    (k1))

noncomputable def porterlaw34_ChainApart_g1 (N : Nat) (x : denS [(3, .box (.arr 2 .str)), (0, .box (.pair .str (.pair (.sl (.pair .str (.pair .str .unit))) (.pair .str .unit)))), (0, .box (.pair .str (.pair (.sl (.pair .str (.pair .str .unit))) (.pair .str .unit))))]) (K : Ex → List A → Option Bool) : Option Bool :=
  porterlaw34_ChainApart_p1 N x.1 x.2.1 x.2.2.1 (fun a0 => (K .ret (mkS [(6, .v .bool)] 63 (a0, ())))) (K .normal (mkS [(3, .box (.arr 2 .str)), (0, .box (.pair .str (.pair (.sl (.pair .str (.pair .str .unit))) (.pair .str .unit)))), (0, .box (.pair .str (.pair (.sl (.pair .str (.pair .str .unit))) (.pair .str .unit))))] 64 (x.1, x.2.1, x.2.2.1, ())))

noncomputable def porterlaw34_ChainApart_h1 (N : Nat) : Hd Bool := fun st K => (unS [(3, .box (.arr 2 .str)), (0, .box (.pair .str (.pair (.sl (.pair .str (.pair .str .unit))) (.pair .str .unit)))), (0, .box (.pair .str (.pair (.sl (.pair .str (.pair .str .unit))) (.pair .str .unit))))] 64 (restr [3, 4, 5] 0 st)).bind fun x => porterlaw34_ChainApart_g1 N x K

noncomputable def porterlaw34_ChainApart_t1 (N : Nat) : Tab Bool := [([0, 0, 1], porterlaw34_ChainApart_h2 N)]

theorem porterlaw34_ChainApart_ok1 {N : Nat} {c : Ctx} (hb : Base Go.Proofs.Tryd.prog (porterlaw34_ChainApart_E N) c) : CodeOk Go.Proofs.Tryd.prog c (nodeAt porterlaw34_ChainApart_body [0, 1]) (porterlaw34_ChainApart_h1 N) :=
  piece_ok (s := [(3, .box (.arr 2 .str)), (0, .box (.pair .str (.pair (.sl (.pair .str (.pair .str .unit))) (.pair .str .unit)))), (0, .box (.pair .str (.pair (.sl (.pair .str (.pair .str .unit))) (.pair .str .unit))))]) (m := 64) (g := porterlaw34_ChainApart_g1 N) [3, 4, 5] (evN_sound hb N (porterlaw34_ChainApart_t1 N) porterlaw34_ChainApart_L porterlaw34_ChainApart_body (TabOk.cons (porterlaw34_ChainApart_ok2 hb) TabOk.nil) [0, 1] _ rfl) (fun x K => by kernel_rfl)

noncomputable def porterlaw34_ChainApart_p4 (N : Nat) (keys : (List (List UInt8))) (a : ((List UInt8) × ((List ((List UInt8) × ((List UInt8) × Unit))) × ((List UInt8) × Unit)))) (b : ((List UInt8) × ((List ((List UInt8) × ((List UInt8) × Unit))) × ((List UInt8) × Unit)))) (k0 : Bool → Option Bool) : Option Bool :=
  cond (decide (0 < (List.length keys)))
  (cond (decide (1 < (List.length keys)))
    (cond ((List.getD keys 0 ([] : List UInt8)) == (List.getD keys 1 ([] : List UInt8)))
      ((porterbase_SameToken N a b).bind fun y =>
        k0 y)
      (k0 false))
    (none))
  (none)

noncomputable def porterlaw34_ChainApart_g4 (N : Nat) (x : denS [(3, .box (.arr 2 .str)), (0, .box (.pair .str (.pair (.sl (.pair .str (.pair .str .unit))) (.pair .str .unit)))), (0, .box (.pair .str (.pair (.sl (.pair .str (.pair .str .unit))) (.pair .str .unit))))]) (K : Ex → List A → Option Bool) : Option Bool :=
  porterlaw34_ChainApart_p4 N x.1 x.2.1 x.2.2.1 (fun a3 => (K .normal (mkS [(3, .box (.arr 2 .str)), (0, .box (.pair .str (.pair (.sl (.pair .str (.pair .str .unit))) (.pair .str .unit)))), (0, .box (.pair .str (.pair (.sl (.pair .str (.pair .str .unit))) (.pair .str .unit)))), (31, .v .bool)] 32 (x.1, x.2.1, x.2.2.1, a3, ()))))

noncomputable def porterlaw34_ChainApart_h4 (N : Nat) : Hd Bool := fun st K => (unS [(3, .box (.arr 2 .str)), (0, .box (.pair .str (.pair (.sl (.pair .str (.pair .str .unit))) (.pair .str .unit)))), (0, .box (.pair .str (.pair (.sl (.pair .str (.pair .str .unit))) (.pair .str .unit))))] 64 (restr [3, 4, 5] 0 st)).bind fun x => porterlaw34_ChainApart_g4 N x K

noncomputable def porterlaw34_ChainApart_t4 (N : Nat) : Tab Bool := []

theorem porterlaw34_ChainApart_ok4 {N : Nat} {c : Ctx} (hb : Base Go.Proofs.Tryd.prog (porterlaw34_ChainApart_E N) c) : CodeOk Go.Proofs.Tryd.prog c (nodeAt porterlaw34_ChainApart_body [0, 0, 1, 1, 1]) (porterlaw34_ChainApart_h4 N) :=
  piece_ok (s := [(3, .box (.arr 2 .str)), (0, .box (.pair .str (.pair (.sl (.pair .str (.pair .str .unit))) (.pair .str .unit)))), (0, .box (.pair .str (.pair (.sl (.pair .str (.pair .str .unit))) (.pair .str .unit))))]) (m := 64) (g := porterlaw34_ChainApart_g4 N) [3, 4, 5] (evN_sound hb N (porterlaw34_ChainApart_t4 N) porterlaw34_ChainApart_L porterlaw34_ChainApart_body TabOk.nil [0, 0, 1, 1, 1] _ rfl) (fun x K => by kernel_rfl)

noncomputable def porterlaw34_ChainApart_p3 (N : Nat) (keys : (List (List UInt8))) (a : ((List UInt8) × ((List ((List UInt8) × ((List UInt8) × Unit))) × ((List UInt8) × Unit)))) (b : ((List UInt8) × ((List ((List UInt8) × ((List UInt8) × Unit))) × ((List UInt8) × Unit)))) (k0 : Bool → Option Bool) (k1 : Option Bool) : Option Bool :=
  porterlaw34_ChainApart_p4 N keys a b
  (fun x37 => cond x37
    (cond (decide (0 < (List.length keys)))
      ((chain_Last N (List.getD keys 0 ([] : List UInt8)) a).bind fun y =>
        cond (decide (1 < (List.length keys)))
        ((chain_Last N (List.getD keys 1 ([] : List UInt8)) b).bind fun y1 =>
          cond (y == y1)
          ((porterlaw34_works N).bind fun y2 =>
            k0 y2)
          (k0 false))
        (none))
      (none))
    (k1))

noncomputable def porterlaw34_ChainApart_g3 (N : Nat) (x : denS [(3, .box (.arr 2 .str)), (0, .box (.pair .str (.pair (.sl (.pair .str (.pair .str .unit))) (.pair .str .unit)))), (0, .box (.pair .str (.pair (.sl (.pair .str (.pair .str .unit))) (.pair .str .unit))))]) (K : Ex → List A → Option Bool) : Option Bool :=
  porterlaw34_ChainApart_p3 N x.1 x.2.1 x.2.2.1 (fun a0 => (K .ret (mkS [(6, .v .bool)] 63 (a0, ())))) (K .normal (mkS [(3, .box (.arr 2 .str)), (0, .box (.pair .str (.pair (.sl (.pair .str (.pair .str .unit))) (.pair .str .unit)))), (0, .box (.pair .str (.pair (.sl (.pair .str (.pair .str .unit))) (.pair .str .unit))))] 64 (x.1, x.2.1, x.2.2.1, ())))

noncomputable def porterlaw34_ChainApart_h3 (N : Nat) : Hd Bool := fun st K => (unS [(3, .box (.arr 2 .str)), (0, .box (.pair .str (.pair (.sl (.pair .str (.pair .str .unit))) (.pair .str .unit)))), (0, .box (.pair .str (.pair (.sl (.pair .str (.pair .str .unit))) (.pair .str .unit))))] 64 (restr [3, 4, 5] 0 st)).bind fun x => porterlaw34_ChainApart_g3 N x K

noncomputable def porterlaw34_ChainApart_t3 (N : Nat) : Tab Bool := [([0, 0, 1, 1, 1], porterlaw34_ChainApart_h4 N)]

theorem porterlaw34_ChainApart_ok3 {N : Nat} {c : Ctx} (hb : Base Go.Proofs.Tryd.prog (porterlaw34_ChainApart_E N) c) : CodeOk Go.Proofs.Tryd.prog c (nodeAt porterlaw34_ChainApart_body [0, 1, 1, 1]) (porterlaw34_ChainApart_h3 N) :=
  piece_ok (s := [(3, .box (.arr 2 .str)), (0, .box (.pair .str (.pair (.sl (.pair .str (.pair .str .unit))) (.pair .str .unit)))), (0, .box (.pair .str (.pair (.sl (.pair .str (.pair .str .unit))) (.pair .str .unit))))]) (m := 64) (g := porterlaw34_ChainApart_g3 N) [3, 4, 5] (evN_sound hb N (porterlaw34_ChainApart_t3 N) porterlaw34_ChainApart_L porterlaw34_ChainApart_body (TabOk.cons (porterlaw34_ChainApart_ok4 hb) TabOk.nil) [0, 1, 1, 1] _ rfl) (fun x K => by kernel_rfl)

noncomputable def porterlaw34_ChainApart (N : Nat) (keys : (List (List UInt8))) (a : ((List UInt8) × ((List ((List UInt8) × ((List UInt8) × Unit))) × ((List UInt8) × Unit)))) (b : ((List UInt8) × ((List ((List UInt8) × ((List UInt8) × Unit))) × ((List UInt8) × Unit)))) : Option Bool :=
  porterlaw34_ChainApart_p1 N keys a b
  (fun x6 => some x6)
  (porterlaw34_ChainApart_p3 N keys (a.1, (a.2.1, (([] : List UInt8), a.2.2.2))) (b.1, (b.2.1, (([] : List UInt8), b.2.2.2)))
    (fun x61 => some x61)
    (cond (decide (0 < (List.length keys)))
      ((chain_Last N (List.getD keys 0 ([] : List UInt8)) (a.1, (a.2.1, (([] : List UInt8), a.2.2.2)))).bind fun y =>
        cond (decide (1 < (List.length keys)))
        ((chain_Last N (List.getD keys 1 ([] : List UInt8)) (b.1, (b.2.1, (([] : List UInt8), b.2.2.2)))).bind fun y1 =>
          cond (!(y == y1))
          ((porterlaw34_works N).bind fun y2 =>
            some y2)
          (cond (decide (0 < (List.length keys)))
            ((porterref34_Texts N (List.getD keys 0 ([] : List UInt8)) (a.1, (a.2.1, (([] : List UInt8), a.2.2.2)))).bind fun y3 =>
              cond (decide (1 < (List.length keys)))
              ((porterref34_Texts N (List.getD keys 1 ([] : List UInt8)) (b.1, (b.2.1, (([] : List UInt8), b.2.2.2)))).bind fun y4 =>
                cond (decide ((((List.length y3) + (List.length y4)) * 16) ≤ 70368744177664))
                ((porterref03_Clash N (y3 ++ y4)).bind fun y5 =>
                  some y5)
                (none))
              (none))
            (none)))
        (none))
      (none)))

noncomputable def porterlaw34_ChainApart_t (N : Nat) : Tab Bool := [([0, 1], porterlaw34_ChainApart_h1 N), ([0, 1, 1, 1], porterlaw34_ChainApart_h3 N)]

theorem porterlaw34_ChainApart_link (N : Nat) (x : denS [(0, .v (.arr 2 .str)), (0, .v (.pair .str (.pair (.sl (.pair .str (.pair .str .unit))) (.pair .str .unit)))), (0, .v (.pair .str (.pair (.sl (.pair .str (.pair .str .unit))) (.pair .str .unit))))]) : evFX (porterlaw34_ChainApart_E N) N (porterlaw34_ChainApart_t N) porterlaw34_ChainApart_L Go.Proofs.Tryd.f10 (mkS [(0, .v (.arr 2 .str)), (0, .v (.pair .str (.pair (.sl (.pair .str (.pair .str .unit))) (.pair .str .unit)))), (0, .v (.pair .str (.pair (.sl (.pair .str (.pair .str .unit))) (.pair .str .unit))))] 0 x) (kRes (.v .bool) 3) = porterlaw34_ChainApart N x.1 x.2.1 x.2.2.1 := by kernel_rfl

noncomputable def porterlaw34_ChainApart_res (N : Nat) : List A → Res := resOf [(0, .v (.arr 2 .str)), (0, .v (.pair .str (.pair (.sl (.pair .str (.pair .str .unit))) (.pair .str .unit)))), (0, .v (.pair .str (.pair (.sl (.pair .str (.pair .str .unit))) (.pair .str .unit))))] (fun x => porterlaw34_ChainApart N x.1 x.2.1 x.2.2.1) (oRes (.v .bool) 3)

theorem porterlaw34_ChainApart_ct (N : Nat) : Contract Go.Proofs.Tryd.prog glob 10 (porterlaw34_ChainApart_res N) :=
  Contract.of (E := porterlaw34_ChainApart_E N) (H := porterlaw34_ChainApart_t N) (L := porterlaw34_ChainApart_L) (N := N) (body := porterlaw34_ChainApart_body) (K := (kRes (.v .bool) 3)) (porterlaw34_ChainApart_Eok N) Go.Proofs.Tryd.func10 (by kernel_rfl) (by decide) (fun _ hb => (TabOk.cons (porterlaw34_ChainApart_ok1 hb) (TabOk.cons (porterlaw34_ChainApart_ok3 hb) TabOk.nil))) (fun x y h => by rw [porterlaw34_ChainApart_link]; exact h) (kRes_ok (s := (.v .bool)) (m := 3))

end Go.Proofs.YtkccmmbomlpgnaaDoorLg
