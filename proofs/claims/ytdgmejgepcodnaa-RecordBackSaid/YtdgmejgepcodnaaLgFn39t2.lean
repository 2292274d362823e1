/- The functions of the seat, as plain functions, and what their calls do. Printed by a program of mine; checked here. -/
import Derived.Test.YtdgmejgepcodnaaLgFn39a
import Derived.WalkKit
import Derived.Tactics
import Derived.Tactics2
import Derived.Defers
import Derived.Lib.Hide
import Derived.Below
import Derived.Recover
import Derived.Orders
import Derived.WalkSmall
import Derived.LoopN
set_option linter.all false
set_option maxRecDepth 100000
namespace Go.Proofs.YtdgmejgepcodnaaLg
open Go Go.Lift

set_option maxHeartbeats 6000000 in
theorem text_stop (N : Nat) {w : World} {m0 : Int} {S : Hp} {b : Nat} {x : RdrT.den} {most e : Int} (h : Rdr w S b x) (hM : (if most < 0 then (0 : Int) else most) = m0) (hr : (x.1 && (x.2.2.1 == 0)) = true)
    (hT : ∀ (w1 : World) (S1 : Hp), Rdr w1 S1 b x → Calls Try.prog 50 #[.pointer (some ⟨b, 0, none⟩), .int .u64 (Go.IntKind.wrap .u64 m0)] w1 fun r w' => r = .panicked [{ v := .iface 24 (.int .i64 e), recovered := false }] ∧ Fine w1 S1 b x w') :
    Calls Try.prog 29 #[.pointer (some ⟨b, 0, none⟩), .int .i64 most] w fun r w' => r = .returned (.string ⟨⟨[]⟩⟩) ∧ Fine w S b (failS x e) w' := by
  have hmf : ∀ (fn : Fn) (first cap : Array Value) (w : World), (Instr.makeFunc fn first cap).run Try.prog w = .ok (.func fn first cap) w := fun _ _ _ _ => rfl
  have hlt := rdr_lt h
  have hA := alloc_cell w (.pointer (some ⟨b, 0, none⟩)) 58
  obtain ⟨S1, f1, f2, f3, hR1⟩ := fine_alloc h #[.pointer (some ⟨b, 0, none⟩)] 58
  have hcr := reads_call N hR1
  rw [hr] at hcr
  have hT2 : ∀ w2 : World, Fine (w.alloc (.cells #[.pointer (some ⟨b, 0, none⟩)] 58)) S1 b x w2 →
      Calls Try.prog 50 #[.pointer (some ⟨b, 0, none⟩), .int .u64 (Go.IntKind.wrap .u64 m0)] w2 fun r w' => r = .panicked [{ v := .iface 24 (.int .i64 e), recovered := false }] ∧ Fine (w.alloc (.cells #[.pointer (some ⟨b, 0, none⟩)] 58)) S1 b x w' := fun w2 hF => by
    obtain ⟨S2, g1, g2, g3, hR2⟩ := hF
    exact (hT w2 S2 hR2).mono (by rintro r w' ⟨rfl, hF⟩; exact ⟨rfl, Fine.trans g1 g2 g3 hF⟩)
  have hC : ∀ w2 : World, Fine (w.alloc (.cells #[.pointer (some ⟨b, 0, none⟩)] 58)) S1 b x w2 → w2.cell? ⟨w.heap.size, 0, none⟩ = some (.pointer (some ⟨b, 0, none⟩)) := fun w2 hF => fine_cell (S := S1) hlt hF
  have hD : ∀ w2 : World, Fine (w.alloc (.cells #[.pointer (some ⟨b, 0, none⟩)] 58)) S1 b x w2 → Fine (w.alloc (.cells #[.pointer (some ⟨b, 0, none⟩)] 58)) S1 b x w2.drew := fun w2 hF => by
    obtain ⟨S2, g1, g2, g3, hR2⟩ := hF
    exact Fine.trans g1 g2 g3 (fine_drew hR2)
  clear hT
  go_enter_defers Try.func29, Try.ntmps29
  go_wp2_with (first
    | (go_at_call 47; refine hcr.mono ?_; rintro r w2 ⟨rfl, hF2⟩; have hc2 := hC w2 hF2; have hn := hT2 w2.drew (hD w2 hF2); clear hcr hF2 hC hT2 hD))
  refine wp_region_draw fun t => ?_
  have hm : Try.prog.follows .mixedOrders = true := mixed
  rw [hm]
  generalize hl : Region.schedule true _ t = l
  have hl2 : l ∈ rdT_orders := by
    rw [← hl, ← rdT_orders_eq]
    exact (rdT_size ▸ ordersOf_mem rdT_drawn t)
  clear hl hm
  simp only [rdT_orders, List.mem_cons, List.not_mem_nil, or_false] at hl2
  rcases hl2 with rfl | rfl | rfl | rfl | rfl | rfl | rfl | rfl | rfl | rfl | rfl | rfl | rfl | rfl | rfl | rfl | rfl | rfl | rfl | rfl | rfl | rfl | rfl | rfl
  all_goals
    apply wpOps_list
    · repeat (first | exact Picks.nil | (apply Picks.cons; rfl))
    go_wp2_with (first
      | (go_at_call 50; refine hn.mono ?_; rintro r w3 ⟨rfl, hF3⟩; have HM := Go.Lib.hid hF3; clear hn hF3))
    have hc4 := fine_cell (S := S1) hlt HM.out
    obtain ⟨S3, k1, k2, k3, hR3⟩ := HM.out
    obtain ⟨S4, l1, l2, l3, hR4⟩ := fine_drew hR3
    refine leaves_cons (f := 49) (args := #[.pointer (some ⟨w.heap.size, 0, none⟩)]) (by simp) (by simp [go_sem]) ?_
    refine (rdT_caught hc4 (fail_call N hR4 e)).mono ?_
    rintro r u w5 ⟨⟨v, rfl⟩, rfl, hF5⟩
    simp [Leaves, settle, results, Try.results29, go_sem]
    exact Fine.trans f1 f2 f3 (Fine.trans k1 k2 k3 (Fine.trans l1 l2 l3 hF5))

end Go.Proofs.YtdgmejgepcodnaaLg
