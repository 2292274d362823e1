import Derived.Test.YtbnhlpehccohjaaLgPrBw4
import Derived.Test.YtbnhlpehccohjaaLgPrBw1
set_option linter.all false
set_option maxRecDepth 100000
namespace Go.Proofs.YtbnhlpehccohjaaLg
noncomputable section
open Go Go.Lift

theorem sC {w0 w : World} {S0 : Hp} {ob0 : List Nat} {bf n p5 E F mb' : Nat} {x : RtT.den} {t c : List UInt8} {b1 b2 b3 b4 : Int} (h : BSt RtT w0 S0 ob0 bf w x [(p5, #[.int .i64 b1, .int .i64 b2, .int .i64 b3, .int .i64 b4], E), (n, #[.string ⟨⟨t⟩⟩, .string ⟨⟨c⟩⟩], F)]) (hm : w.cell? ⟨bf, 2, none⟩ = some (.map (some mb'))) :
    World.cell? w ⟨n, 0, none⟩ = some (.string ⟨⟨t⟩⟩) /\ World.cell? w ⟨n, 1, none⟩ = some (.string ⟨⟨c⟩⟩) /\ World.cell? w ⟨bf, 2, none⟩ = some (.map (some mb')) /\ World.cell? w ⟨p5, 0, none⟩ = some (.int .i64 b1) /\ World.cell? w ⟨p5, 1, none⟩ = some (.int .i64 b2) /\ World.cell? w ⟨p5, 2, none⟩ = some (.int .i64 b3) /\ World.cell? w ⟨p5, 3, none⟩ = some (.int .i64 b4) :=
  ⟨h.cell (p := n) (cs := #[.string ⟨⟨t⟩⟩, .string ⟨⟨c⟩⟩]) (E := F) (by simp) rfl, h.cell (p := n) (cs := #[.string ⟨⟨t⟩⟩, .string ⟨⟨c⟩⟩]) (E := F) (by simp) rfl, hm, h.cell (List.mem_cons_self ..) rfl, h.cell (List.mem_cons_self ..) rfl, h.cell (List.mem_cons_self ..) rfl, h.cell (List.mem_cons_self ..) rfl⟩

attribute [local irreducible] BSt in
set_option maxHeartbeats 4000000 in
theorem zxp (N : Nat) {w0 w : World} {S0 : Hp} {ob0 : List Nat} {bf : Nat} {cls : List ClassT.den} {start : Int} {xs : List (OwT.den × BkT.den)} {t c : List UInt8} {now : Int} {a1 a2 a3 a4 b1 b2 b3 b4 : Int} {ok : Bool}
    (h : BSt RtT w0 S0 ob0 bf w (cls, (start, (some xs, ()))) [])
    (hy : z35 N (cls, (start, (some xs, ()))) (t, (c, ())) = some (((a1, (a2, (a3, (a4, ())))), (true, ())), (cls, (start, (some xs, ()))))) (hz : z2s N (a1, (a2, (a3, (a4, ())))) now = some ((b1, (b2, (b3, (b4, ())))), (ok, ()))) :
    Calls Try.prog 6 #[.pointer (some ⟨bf, 0, none⟩), .string ⟨⟨t⟩⟩, .string ⟨⟨c⟩⟩, .int .i64 now] w fun e w' => e = .returned (.int .i64 (if ok then 0 else 17)) /\ BSt RtT w0 S0 ob0 bf w' (cls, (start, (some (znh (eqD OwT) (t, (c, ())) (b1, (b2, (b3, (b4, ())))) xs), ()))) [] := by
  suffices HX : ∀ R : Ending -> World -> Prop, Go.RowKit.Hid (∀ w', BSt RtT w0 S0 ob0 bf w' (cls, (start, (some (znh (eqD OwT) (t, (c, ())) (b1, (b2, (b3, (b4, ())))) xs), ()))) [] -> R (.returned (.int .i64 (if ok then 0 else 17))) w') -> Calls Try.prog 6 #[.pointer (some ⟨bf, 0, none⟩), .string ⟨⟨t⟩⟩, .string ⟨⟨c⟩⟩, .int .i64 now] w R from HX _ (Go.Lib.hid (fun w' h => ⟨rfl, h⟩))
  intro R HR
  have HM := zma N h
  have HY := Go.Lib.hid hy
  have HZ := Go.Lib.hid hz
  clear h hy hz
  go_enter Try.func6, Try.ntmps6
  go_wp2_with (go_at_call 14; refine HM.mono ?_; rintro r w1 ⟨rfl, hq⟩; obtain ⟨mb, c2⟩ := zy2 hq; have HB := Go.Lib.hid hq; clear HM hq)
  obtain ⟨W, hW⟩ : ∃ W, W = w1.alloc (.cells #[.string ⟨⟨t⟩⟩, .string ⟨⟨c⟩⟩] 49) := ⟨_, rfl⟩
  have y0 := HB.out.alloc #[.string ⟨⟨t⟩⟩, .string ⟨⟨c⟩⟩] 49
  have m2 := z2b (cs := #[.string ⟨⟨t⟩⟩, .string ⟨⟨c⟩⟩]) (E := 49) c2
  have o0 := zrc (w := w1) (cs := #[.string ⟨⟨t⟩⟩, .string ⟨⟨c⟩⟩]) (E := 49) (i := 0) (v := .string ⟨⟨t⟩⟩) rfl
  have o1 := zrc (w := w1) (cs := #[.string ⟨⟨t⟩⟩, .string ⟨⟨c⟩⟩]) (E := 49) (i := 1) (v := .string ⟨⟨c⟩⟩) rfl
  rw [<- hW] at y0 m2 o0 o1 ⊢
  obtain ⟨n, hn⟩ : ∃ n, n = w1.heap.size := ⟨_, rfl⟩
  rw [<- hn] at y0 o0 o1 ⊢
  have np : n ≠ W.heap.size := Nat.ne_of_lt (zh6 o0)
  have bp : bf ≠ W.heap.size := Nat.ne_of_lt (zh6 m2)
  clear hW hn c2 HB
  have hS0 : BSt RtT w0 S0 ob0 bf W (cls, (start, (some xs, ()))) [(n, #[.string ⟨⟨t⟩⟩, .string ⟨⟨c⟩⟩], 49)] /\ World.cell? W ⟨n, 0, none⟩ = some (.string ⟨⟨t⟩⟩) /\ World.cell? W ⟨n, 1, none⟩ = some (.string ⟨⟨c⟩⟩) /\ World.cell? W ⟨bf, 2, none⟩ = some (.map (some mb)) := ⟨y0, o0, o1, m2⟩
  have hSD : BSt RtT w0 S0 ob0 bf W.drew (cls, (start, (some xs, ()))) [(n, #[.string ⟨⟨t⟩⟩, .string ⟨⟨c⟩⟩], 49)] /\ World.cell? W.drew ⟨n, 0, none⟩ = some (.string ⟨⟨t⟩⟩) /\ World.cell? W.drew ⟨n, 1, none⟩ = some (.string ⟨⟨c⟩⟩) /\ World.cell? W.drew ⟨bf, 2, none⟩ = some (.map (some mb)) := ⟨y0.drew, o0, o1, m2⟩
  have yA := (y0.alloc #[.int .i64 0, .int .i64 0, .int .i64 0, .int .i64 0] 51).drew
  have mA : (W.alloc (.cells #[.int .i64 0, .int .i64 0, .int .i64 0, .int .i64 0] 51)).drew.cell? ⟨bf, 2, none⟩ = some (.map (some mb)) := z2b m2
  have hSA : BSt RtT w0 S0 ob0 bf (W.alloc (.cells #[.int .i64 0, .int .i64 0, .int .i64 0, .int .i64 0] 51)).drew (cls, (start, (some xs, ()))) [(n, #[.string ⟨⟨t⟩⟩, .string ⟨⟨c⟩⟩], 49)] /\ World.cell? (W.alloc (.cells #[.int .i64 0, .int .i64 0, .int .i64 0, .int .i64 0] 51)).drew ⟨n, 0, none⟩ = some (.string ⟨⟨t⟩⟩) /\ World.cell? (W.alloc (.cells #[.int .i64 0, .int .i64 0, .int .i64 0, .int .i64 0] 51)).drew ⟨n, 1, none⟩ = some (.string ⟨⟨c⟩⟩) /\ World.cell? (W.alloc (.cells #[.int .i64 0, .int .i64 0, .int .i64 0, .int .i64 0] 51)).drew ⟨bf, 2, none⟩ = some (.map (some mb)) := sK yA mA
  have hL1 := zgo N y0.drew m2 HY.out
  have hL2 := zgo N yA mA HY.out
  clear y0 m2 yA mA
  go_region_held3 (fun w' => BSt RtT w0 S0 ob0 bf w' (cls, (start, (some xs, ()))) [(n, #[.string ⟨⟨t⟩⟩, .string ⟨⟨c⟩⟩], 49)] /\ World.cell? w' ⟨n, 0, none⟩ = some (.string ⟨⟨t⟩⟩) /\ World.cell? w' ⟨n, 1, none⟩ = some (.string ⟨⟨c⟩⟩) /\ World.cell? w' ⟨bf, 2, none⟩ = some (.map (some mb)))
    (first
      | assumption
      | exact hSB _ _)
    (first
      | (go_at_call 15; refine hL1.mono ?_; rintro r w2 ⟨rfl, _, hq, hm⟩; have hSW : BSt RtT w0 S0 ob0 bf w2 (cls, (start, (some xs, ()))) [(n, #[.string ⟨⟨t⟩⟩, .string ⟨⟨c⟩⟩], 49)] /\ World.cell? w2 ⟨n, 0, none⟩ = some (.string ⟨⟨t⟩⟩) /\ World.cell? w2 ⟨n, 1, none⟩ = some (.string ⟨⟨c⟩⟩) /\ World.cell? w2 ⟨bf, 2, none⟩ = some (.map (some mb)) := ⟨hq, hq.cell (List.mem_cons_self ..) rfl, hq.cell (List.mem_cons_self ..) rfl, hm⟩; have hSB : ∀ (cs : Array Value) (E : Nat), BSt RtT w0 S0 ob0 bf (w2.alloc (.cells cs E)) (cls, (start, (some xs, ()))) [(n, #[.string ⟨⟨t⟩⟩, .string ⟨⟨c⟩⟩], 49)] /\ World.cell? (w2.alloc (.cells cs E)) ⟨n, 0, none⟩ = some (.string ⟨⟨t⟩⟩) /\ World.cell? (w2.alloc (.cells cs E)) ⟨n, 1, none⟩ = some (.string ⟨⟨c⟩⟩) /\ World.cell? (w2.alloc (.cells cs E)) ⟨bf, 2, none⟩ = some (.map (some mb)) := fun cs E => ⟨(hq.alloc cs E).swap (fun p hp => by simp at hp; simp [hp]), z2b hSW.2.1, z2b hSW.2.2.1, z2b hm⟩; clear hq hm hL1 hL2)
      | (go_at_call 15; refine hL2.mono ?_; rintro r w2 ⟨rfl, _, hq, hm⟩; have hSW : BSt RtT w0 S0 ob0 bf w2 (cls, (start, (some xs, ()))) [(n, #[.string ⟨⟨t⟩⟩, .string ⟨⟨c⟩⟩], 49)] /\ World.cell? w2 ⟨n, 0, none⟩ = some (.string ⟨⟨t⟩⟩) /\ World.cell? w2 ⟨n, 1, none⟩ = some (.string ⟨⟨c⟩⟩) /\ World.cell? w2 ⟨bf, 2, none⟩ = some (.map (some mb)) := sK hq hm; have hST := s4 hq hm np bp (.int .i64 a1) (.int .i64 a2) (.int .i64 a3) (.int .i64 a4); have q0 := hq.cell (List.mem_cons_self ..) (i := 0) rfl; have q1 := hq.cell (List.mem_cons_self ..) (i := 1) rfl; have q2 := hq.cell (List.mem_cons_self ..) (i := 2) rfl; have q3 := hq.cell (List.mem_cons_self ..) (i := 3) rfl; have f0 := hq.free (List.mem_cons_self ..) (i := 0); have f1 := hq.free (List.mem_cons_self ..) (i := 1); have f2 := hq.free (List.mem_cons_self ..) (i := 2); have f3 := hq.free (List.mem_cons_self ..) (i := 3); clear hm hL1 hL2))
  all_goals (first
    | (have U := hSB #[.int .i64 a1, .int .i64 a2, .int .i64 a3, .int .i64 a4] 51; have u0 := zrc (w := w2) (cs := #[.int .i64 a1, .int .i64 a2, .int .i64 a3, .int .i64 a4]) (E := 51) (i := 0) (v := .int .i64 a1) rfl; have u1 := zrc (w := w2) (cs := #[.int .i64 a1, .int .i64 a2, .int .i64 a3, .int .i64 a4]) (E := 51) (i := 1) (v := .int .i64 a2) rfl; have u2 := zrc (w := w2) (cs := #[.int .i64 a1, .int .i64 a2, .int .i64 a3, .int .i64 a4]) (E := 51) (i := 2) (v := .int .i64 a3) rfl; have u3 := zrc (w := w2) (cs := #[.int .i64 a1, .int .i64 a2, .int .i64 a3, .int .i64 a4]) (E := 51) (i := 3) (v := .int .i64 a4) rfl; generalize (w2.alloc (.cells #[.int .i64 a1, .int .i64 a2, .int .i64 a3, .int .i64 a4] 51)) = w3 at U u0 u1 u2 u3 ⊢; generalize w2.heap.size = p at u0 u1 u2 u3 ⊢; clear hSB hSW)
    | (have U := hST; have Y := s4b hq np (.int .i64 a1) (.int .i64 a2) (.int .i64 a3) (.int .i64 a4); have u0 := Y.cell (List.mem_cons_self ..) (i := 0) (v := .int .i64 a1) rfl; have u1 := Y.cell (List.mem_cons_self ..) (i := 1) (v := .int .i64 a2) rfl; have u2 := Y.cell (List.mem_cons_self ..) (i := 2) (v := .int .i64 a3) rfl; have u3 := Y.cell (List.mem_cons_self ..) (i := 3) (v := .int .i64 a4) rfl; generalize ((((w2.setCell ⟨W.heap.size, 0, none⟩ (.int .i64 a1)).setCell ⟨W.heap.size, 1, none⟩ (.int .i64 a2)).setCell ⟨W.heap.size, 2, none⟩ (.int .i64 a3)).setCell ⟨W.heap.size, 3, none⟩ (.int .i64 a4)) = w3 at U u0 u1 u2 u3 ⊢; generalize W.heap.size = p at u0 u1 u2 u3 ⊢; clear Y hST q0 q1 q2 q3 f0 f1 f2 f3 hq hSW))
  all_goals have HT := zxa N U.1 HZ.out
  all_goals clear U hS0 hSD hSA o0 o1 np bp
  all_goals go_wp2_with (go_at_call 17; refine HT.mono ?_; rintro r w4 ⟨rfl, hq⟩; have HQ := Go.Lib.hid hq; clear HT hq u0 u1 u2 u3)
  all_goals have y5 := HQ.out.alloc #[.int .i64 b1, .int .i64 b2, .int .i64 b3, .int .i64 b4] 51
  all_goals generalize w4.alloc (.cells #[.int .i64 b1, .int .i64 b2, .int .i64 b3, .int .i64 b4] 51) = W5 at y5 ⊢
  all_goals generalize w4.heap.size = p5 at y5 ⊢
  all_goals clear HQ
  all_goals obtain ⟨mb', m5⟩ := zy2 y5
  all_goals obtain ⟨w6, r6, g6, k6⟩ := z11q N t c b1 b2 b3 b4 y5 m5
  all_goals obtain ⟨w7, r7, g7, k7⟩ := z11q (w := W5.drew) N t c b1 b2 b3 b4 y5.drew m5
  all_goals have hC5 : World.cell? W5 ⟨n, 0, none⟩ = some (.string ⟨⟨t⟩⟩) /\ World.cell? W5 ⟨n, 1, none⟩ = some (.string ⟨⟨c⟩⟩) /\ World.cell? W5 ⟨bf, 2, none⟩ = some (.map (some mb')) /\ World.cell? W5 ⟨p5, 0, none⟩ = some (.int .i64 b1) /\ World.cell? W5 ⟨p5, 1, none⟩ = some (.int .i64 b2) /\ World.cell? W5 ⟨p5, 2, none⟩ = some (.int .i64 b3) /\ World.cell? W5 ⟨p5, 3, none⟩ = some (.int .i64 b4) := sC y5 m5
  all_goals have hC5d : World.cell? W5.drew ⟨n, 0, none⟩ = some (.string ⟨⟨t⟩⟩) /\ World.cell? W5.drew ⟨n, 1, none⟩ = some (.string ⟨⟨c⟩⟩) /\ World.cell? W5.drew ⟨bf, 2, none⟩ = some (.map (some mb')) /\ World.cell? W5.drew ⟨p5, 0, none⟩ = some (.int .i64 b1) /\ World.cell? W5.drew ⟨p5, 1, none⟩ = some (.int .i64 b2) /\ World.cell? W5.drew ⟨p5, 2, none⟩ = some (.int .i64 b3) /\ World.cell? W5.drew ⟨p5, 3, none⟩ = some (.int .i64 b4) := sC y5.drew m5
  all_goals have hC6 : World.cell? w6 ⟨n, 0, none⟩ = some (.string ⟨⟨t⟩⟩) /\ World.cell? w6 ⟨n, 1, none⟩ = some (.string ⟨⟨c⟩⟩) /\ World.cell? w6 ⟨bf, 2, none⟩ = some (.map (some mb')) /\ World.cell? w6 ⟨p5, 0, none⟩ = some (.int .i64 b1) /\ World.cell? w6 ⟨p5, 1, none⟩ = some (.int .i64 b2) /\ World.cell? w6 ⟨p5, 2, none⟩ = some (.int .i64 b3) /\ World.cell? w6 ⟨p5, 3, none⟩ = some (.int .i64 b4) := sC g6 k6
  all_goals have hC7 : World.cell? w7 ⟨n, 0, none⟩ = some (.string ⟨⟨t⟩⟩) /\ World.cell? w7 ⟨n, 1, none⟩ = some (.string ⟨⟨c⟩⟩) /\ World.cell? w7 ⟨bf, 2, none⟩ = some (.map (some mb')) /\ World.cell? w7 ⟨p5, 0, none⟩ = some (.int .i64 b1) /\ World.cell? w7 ⟨p5, 1, none⟩ = some (.int .i64 b2) /\ World.cell? w7 ⟨p5, 2, none⟩ = some (.int .i64 b3) /\ World.cell? w7 ⟨p5, 3, none⟩ = some (.int .i64 b4) := sC g7 k7
  all_goals have G6 := Go.Lib.hid g6
  all_goals have G7 := Go.Lib.hid g7
  all_goals clear g6 g7 k6 k7 m5 y5
  all_goals go_region_held3 (fun w' => World.cell? w' ⟨n, 0, none⟩ = some (.string ⟨⟨t⟩⟩) /\ World.cell? w' ⟨n, 1, none⟩ = some (.string ⟨⟨c⟩⟩) /\ World.cell? w' ⟨bf, 2, none⟩ = some (.map (some mb')) /\ World.cell? w' ⟨p5, 0, none⟩ = some (.int .i64 b1) /\ World.cell? w' ⟨p5, 1, none⟩ = some (.int .i64 b2) /\ World.cell? w' ⟨p5, 2, none⟩ = some (.int .i64 b3) /\ World.cell? w' ⟨p5, 3, none⟩ = some (.int .i64 b4)) (assumption) (fail)
  all_goals cases ok
  all_goals go_wp2
  all_goals (first
    | exact HR.out _ (G6.out.swap (fun p hp => by cases hp))
    | exact HR.out _ (G7.out.swap (fun p hp => by cases hp)))

attribute [local irreducible] BSt in
set_option maxHeartbeats 4000000 in
theorem z136 (N : Nat) {w0 w : World} {S0 : Hp} {ob0 : List Nat} {bf : Nat} {cls : List ClassT.den} {start : Int} {xs : List (OwT.den × BkT.den)} {t c : List UInt8} {now : Int} {a1 a2 a3 a4 : Int}
    (h : BSt RtT w0 S0 ob0 bf w (cls, (start, (some xs, ()))) [])
    (hy : z35 N (cls, (start, (some xs, ()))) (t, (c, ())) = some (((a1, (a2, (a3, (a4, ())))), (false, ())), (cls, (start, (some xs, ()))))) :
    Calls Try.prog 6 #[.pointer (some ⟨bf, 0, none⟩), .string ⟨⟨t⟩⟩, .string ⟨⟨c⟩⟩, .int .i64 now] w fun e w' => e = .returned (.int .i64 6) /\ BSt RtT w0 S0 ob0 bf w' (cls, (start, (some xs, ()))) [] := by
  suffices HX : ∀ R : Ending -> World -> Prop, Go.RowKit.Hid (∀ w', BSt RtT w0 S0 ob0 bf w' (cls, (start, (some xs, ()))) [] -> R (.returned (.int .i64 6)) w') -> Calls Try.prog 6 #[.pointer (some ⟨bf, 0, none⟩), .string ⟨⟨t⟩⟩, .string ⟨⟨c⟩⟩, .int .i64 now] w R from HX _ (Go.Lib.hid (fun w' h => ⟨rfl, h⟩))
  intro R HR
  have HM := zma N h
  have HY := Go.Lib.hid hy
  clear h hy
  go_enter Try.func6, Try.ntmps6
  go_wp2_with (go_at_call 14; refine HM.mono ?_; rintro r w1 ⟨rfl, hq⟩; obtain ⟨mb, c2⟩ := zy2 hq; have HB := Go.Lib.hid hq; clear HM hq)
  obtain ⟨W, hW⟩ : ∃ W, W = w1.alloc (.cells #[.string ⟨⟨t⟩⟩, .string ⟨⟨c⟩⟩] 49) := ⟨_, rfl⟩
  have y0 := HB.out.alloc #[.string ⟨⟨t⟩⟩, .string ⟨⟨c⟩⟩] 49
  have m2 := z2b (cs := #[.string ⟨⟨t⟩⟩, .string ⟨⟨c⟩⟩]) (E := 49) c2
  have o0 := zrc (w := w1) (cs := #[.string ⟨⟨t⟩⟩, .string ⟨⟨c⟩⟩]) (E := 49) (i := 0) (v := .string ⟨⟨t⟩⟩) rfl
  have o1 := zrc (w := w1) (cs := #[.string ⟨⟨t⟩⟩, .string ⟨⟨c⟩⟩]) (E := 49) (i := 1) (v := .string ⟨⟨c⟩⟩) rfl
  rw [<- hW] at y0 m2 o0 o1 ⊢
  obtain ⟨n, hn⟩ : ∃ n, n = w1.heap.size := ⟨_, rfl⟩
  rw [<- hn] at y0 o0 o1 ⊢
  have np : n ≠ W.heap.size := Nat.ne_of_lt (zh6 o0)
  have bp : bf ≠ W.heap.size := Nat.ne_of_lt (zh6 m2)
  clear hW hn c2 HB
  have hS0 : BSt RtT w0 S0 ob0 bf W (cls, (start, (some xs, ()))) [(n, #[.string ⟨⟨t⟩⟩, .string ⟨⟨c⟩⟩], 49)] /\ World.cell? W ⟨n, 0, none⟩ = some (.string ⟨⟨t⟩⟩) /\ World.cell? W ⟨n, 1, none⟩ = some (.string ⟨⟨c⟩⟩) /\ World.cell? W ⟨bf, 2, none⟩ = some (.map (some mb)) := ⟨y0, o0, o1, m2⟩
  have hSD : BSt RtT w0 S0 ob0 bf W.drew (cls, (start, (some xs, ()))) [(n, #[.string ⟨⟨t⟩⟩, .string ⟨⟨c⟩⟩], 49)] /\ World.cell? W.drew ⟨n, 0, none⟩ = some (.string ⟨⟨t⟩⟩) /\ World.cell? W.drew ⟨n, 1, none⟩ = some (.string ⟨⟨c⟩⟩) /\ World.cell? W.drew ⟨bf, 2, none⟩ = some (.map (some mb)) := ⟨y0.drew, o0, o1, m2⟩
  have yA := (y0.alloc #[.int .i64 0, .int .i64 0, .int .i64 0, .int .i64 0] 51).drew
  have mA : (W.alloc (.cells #[.int .i64 0, .int .i64 0, .int .i64 0, .int .i64 0] 51)).drew.cell? ⟨bf, 2, none⟩ = some (.map (some mb)) := z2b m2
  have hSA : BSt RtT w0 S0 ob0 bf (W.alloc (.cells #[.int .i64 0, .int .i64 0, .int .i64 0, .int .i64 0] 51)).drew (cls, (start, (some xs, ()))) [(n, #[.string ⟨⟨t⟩⟩, .string ⟨⟨c⟩⟩], 49)] /\ World.cell? (W.alloc (.cells #[.int .i64 0, .int .i64 0, .int .i64 0, .int .i64 0] 51)).drew ⟨n, 0, none⟩ = some (.string ⟨⟨t⟩⟩) /\ World.cell? (W.alloc (.cells #[.int .i64 0, .int .i64 0, .int .i64 0, .int .i64 0] 51)).drew ⟨n, 1, none⟩ = some (.string ⟨⟨c⟩⟩) /\ World.cell? (W.alloc (.cells #[.int .i64 0, .int .i64 0, .int .i64 0, .int .i64 0] 51)).drew ⟨bf, 2, none⟩ = some (.map (some mb)) := sK yA mA
  have hL1 := zgo N y0.drew m2 HY.out
  have hL2 := zgo N yA mA HY.out
  clear y0 m2 yA mA
  go_region_held3 (fun w' => BSt RtT w0 S0 ob0 bf w' (cls, (start, (some xs, ()))) [(n, #[.string ⟨⟨t⟩⟩, .string ⟨⟨c⟩⟩], 49)] /\ World.cell? w' ⟨n, 0, none⟩ = some (.string ⟨⟨t⟩⟩) /\ World.cell? w' ⟨n, 1, none⟩ = some (.string ⟨⟨c⟩⟩) /\ World.cell? w' ⟨bf, 2, none⟩ = some (.map (some mb)))
    (first
      | assumption
      | exact hSB _ _)
    (first
      | (go_at_call 15; refine hL1.mono ?_; rintro r w2 ⟨rfl, _, hq, hm⟩; have hSW : BSt RtT w0 S0 ob0 bf w2 (cls, (start, (some xs, ()))) [(n, #[.string ⟨⟨t⟩⟩, .string ⟨⟨c⟩⟩], 49)] /\ World.cell? w2 ⟨n, 0, none⟩ = some (.string ⟨⟨t⟩⟩) /\ World.cell? w2 ⟨n, 1, none⟩ = some (.string ⟨⟨c⟩⟩) /\ World.cell? w2 ⟨bf, 2, none⟩ = some (.map (some mb)) := ⟨hq, hq.cell (List.mem_cons_self ..) rfl, hq.cell (List.mem_cons_self ..) rfl, hm⟩; have hSB : ∀ (cs : Array Value) (E : Nat), BSt RtT w0 S0 ob0 bf (w2.alloc (.cells cs E)) (cls, (start, (some xs, ()))) [(n, #[.string ⟨⟨t⟩⟩, .string ⟨⟨c⟩⟩], 49)] /\ World.cell? (w2.alloc (.cells cs E)) ⟨n, 0, none⟩ = some (.string ⟨⟨t⟩⟩) /\ World.cell? (w2.alloc (.cells cs E)) ⟨n, 1, none⟩ = some (.string ⟨⟨c⟩⟩) /\ World.cell? (w2.alloc (.cells cs E)) ⟨bf, 2, none⟩ = some (.map (some mb)) := fun cs E => ⟨(hq.alloc cs E).swap (fun p hp => by simp at hp; simp [hp]), z2b hSW.2.1, z2b hSW.2.2.1, z2b hm⟩; clear hq hm hL1 hL2)
      | (go_at_call 15; refine hL2.mono ?_; rintro r w2 ⟨rfl, _, hq, hm⟩; have hSW : BSt RtT w0 S0 ob0 bf w2 (cls, (start, (some xs, ()))) [(n, #[.string ⟨⟨t⟩⟩, .string ⟨⟨c⟩⟩], 49)] /\ World.cell? w2 ⟨n, 0, none⟩ = some (.string ⟨⟨t⟩⟩) /\ World.cell? w2 ⟨n, 1, none⟩ = some (.string ⟨⟨c⟩⟩) /\ World.cell? w2 ⟨bf, 2, none⟩ = some (.map (some mb)) := sK hq hm; have hST := s4 hq hm np bp (.int .i64 a1) (.int .i64 a2) (.int .i64 a3) (.int .i64 a4); have q0 := hq.cell (List.mem_cons_self ..) (i := 0) rfl; have q1 := hq.cell (List.mem_cons_self ..) (i := 1) rfl; have q2 := hq.cell (List.mem_cons_self ..) (i := 2) rfl; have q3 := hq.cell (List.mem_cons_self ..) (i := 3) rfl; have f0 := hq.free (List.mem_cons_self ..) (i := 0); have f1 := hq.free (List.mem_cons_self ..) (i := 1); have f2 := hq.free (List.mem_cons_self ..) (i := 2); have f3 := hq.free (List.mem_cons_self ..) (i := 3); clear hm hL1 hL2))
  all_goals (first
    | (have U := Go.Lib.hid (hSB #[.int .i64 a1, .int .i64 a2, .int .i64 a3, .int .i64 a4] 51))
    | (have U := Go.Lib.hid hST))
  all_goals go_wp2
  all_goals exact HR.out _ (U.out.1.swap (fun p hp => by cases hp))

set_option maxHeartbeats 4000000 in
theorem zxq (N : Nat) {w0 w : World} {S0 : Hp} {ob0 : List Nat} {bf : Nat} {cls : List ClassT.den} {start : Int} {t c : List UInt8} {now : Int}
    (h : BSt RtT w0 S0 ob0 bf w (cls, (start, (none, ()))) []) :
    Calls Try.prog 6 #[.pointer (some ⟨bf, 0, none⟩), .string ⟨⟨t⟩⟩, .string ⟨⟨c⟩⟩, .int .i64 now] w fun e w' => e = .returned (.int .i64 21) /\ BSt RtT w0 S0 ob0 bf w' (cls, (start, (none, ()))) [] := by
  suffices HX : ∀ R : Ending -> World -> Prop, Go.RowKit.Hid (∀ w', BSt RtT w0 S0 ob0 bf w' (cls, (start, (none, ()))) [] -> R (.returned (.int .i64 21)) w') -> Calls Try.prog 6 #[.pointer (some ⟨bf, 0, none⟩), .string ⟨⟨t⟩⟩, .string ⟨⟨c⟩⟩, .int .i64 now] w R from HX _ (Go.Lib.hid (fun w' h => ⟨rfl, h⟩))
  intro R HR
  have HM := zma N h
  clear h
  go_enter Try.func6, Try.ntmps6
  go_wp2_with (go_at_call 14; refine HM.mono ?_; rintro r w1 ⟨rfl, hq⟩; have HE := Go.Lib.hid hq; clear HM hq)
  try go_ret
  exact HR.out _ HE.out

def z38 (N : Nat) (r : RtT.den) (t c : List UInt8) (now : Int) : Option (Int × (RtT.den × Unit)) := match r.2.2.1 with
  | none => some (21, (r, ()))
  | some xs => (z35 N r (t, (c, ()))).bind fun q => cond q.1.2.1 ((z2s N q.1.1 now).bind fun b => some ((if b.2.1 then 0 else 17), ((r.1, (r.2.1, (some (znh (eqD OwT) (t, (c, ())) b.1 xs), ()))), ()))) (some (6, (r, ())))

def z74 (N : Nat) : List A -> Res := z17 [(0, .box RtT), (0, .v .str), (0, .v .str), (0, .v (.int .i64))] (fun x => z38 N x.1 x.2.1 x.2.2.1 x.2.2.2.1) (zsb (.v (.int .i64)) [(0, .box RtT)] 3)

theorem zyz (N : Nat) {r x' : RtT.den} {o : OwT.den} {q : BkT.den × (Bool × Unit)} (h : z35 N r o = some (q, x')) : x' = r := by
  unfold z35 at h
  cases hl : z40 (eqD OwT) o (r.2.2.1.getD []) with
  | some b => rw [hl] at h; cases h; rfl
  | none =>
    rw [hl] at h
    dsimp only at h
    cases hf : zgs N r.1 r.2.1 o with
    | none => rw [hf] at h; cases h
    | some q => rw [hf] at h; cases h; rfl

theorem zxr (N : Nat) {w0 w : World} {S0 : Hp} {ob0 : List Nat} {bf : Nat} {x x' : RtT.den} {t c : List UInt8} {now v : Int} (h : BSt RtT w0 S0 ob0 bf w x []) (hy : z38 N x t c now = some (v, (x', ()))) :
    Calls Try.prog 6 #[.pointer (some ⟨bf, 0, none⟩), .string ⟨⟨t⟩⟩, .string ⟨⟨c⟩⟩, .int .i64 now] w fun e w' => e = .returned (.int .i64 v) /\ BSt RtT w0 S0 ob0 bf w' x' [] := by
  obtain ⟨cls, start, m, ⟨⟩⟩ := x
  cases m with
  | none => cases hy; exact zxq N h
  | some xs =>
    replace hy : ((z35 N (cls, (start, (some xs, ()))) (t, (c, ()))).bind fun q => cond q.1.2.1 ((z2s N q.1.1 now).bind fun b => some ((if b.2.1 then 0 else 17), ((cls, (start, (some (znh (eqD OwT) (t, (c, ())) b.1 xs), ()))), ()))) (some (6, ((cls, (start, (some xs, ()))), ())))) = some (v, (x', ())) := hy
    cases hl : z35 N (cls, (start, (some xs, ()))) (t, (c, ())) with
    | none => rw [hl] at hy; cases hy
    | some q =>
      rw [hl, Option.bind_some] at hy
      obtain ⟨⟨⟨a1, a2, a3, a4, ⟨⟩⟩, ok, ⟨⟩⟩, x2⟩ := q
      have hx := zyz N hl
      subst hx
      cases ok with
      | false => cases hy; exact z136 N h hl
      | true =>
        simp only [cond_true] at hy
        cases hz : z2s N (a1, (a2, (a3, (a4, ())))) now with
        | none => rw [hz] at hy; cases hy
        | some b =>
          rw [hz] at hy
          obtain ⟨⟨b1, b2, b3, b4, ⟨⟩⟩, ok, ⟨⟩⟩ := b
          cases hy
          exact zxp N h hl hz

theorem zg1 (N : Nat) : Contract Try.prog z9 6 (z74 N) := by
  refine Contract.hand ⟨_, Try.func6, by kernel_rfl, by decide⟩ ?_
  rintro w S vals ob ⟨x, t, c, now, ⟨⟩⟩ ⟨v, x', ⟨⟩⟩ har hS hg hy
  obtain ⟨bf, rfl, hne, hob, hB⟩ := z13z har hS
  refine (zxr N hB hy).mono ?_
  rintro e w' ⟨rfl, h'⟩
  exact h'.ends hob hne (by intro y hy; have hy : y ∈ [A.v .str t, A.v .str c, A.v (.int .i64) now] := hy; simp at hy; rcases hy with rfl | rfl | rfl <;> rfl) (fun S' => ⟨VR.int, rfl⟩) rfl

def z99 : Code := (Go.Proofs.Try.f6.body).getD .skip

def z5k : List (List Nat × List Nat) := [([0], [0, 1, 2, 3]), ([0, 0, 1], [16, 1, 2, 0, 3]), ([1, 0, 1], [1, 2, 0, 3]), ([0, 0, 1, 0, 1], [8]), ([1, 0, 1, 0, 1], [8]), ([0, 1, 1], [0, 9, 3]), ([0, 1, 1, 1], [11, 10, 3, 0, 9]), ([0, 0, 1, 1, 1, 1], [32, 10, 3, 0, 9]), ([1, 0, 1, 1, 1, 1], [10, 3, 0, 9]), ([0, 0, 1, 0, 1, 1, 1, 1], [8]), ([1, 0, 1, 0, 1, 1, 1, 1], [8]), ([0, 1, 1, 1, 1, 1], [0, 9, 12, 13]), ([0, 1, 1, 1, 1, 1, 1], [13]), ([0, 0, 1, 1, 1, 1, 1, 1, 1], [46]), ([1, 0, 1, 1, 1, 1, 1, 1, 1], []), ([0, 0, 1, 0, 1, 1, 1, 1, 1, 1, 1], [8]), ([1, 0, 1, 0, 1, 1, 1, 1, 1, 1, 1], [8]), ([0, 1, 1, 1, 1, 1, 1, 1, 1], [8]), ([1, 1, 1, 1, 1, 1, 1, 1, 1], [8])]

def z37 (N : Nat) : Env := z1x tys z9 [(14, z4k N), (16, z68 N), (17, zcm N)] [] [] [] false [] []

theorem za3 (N : Nat) : EnvOk Go.Proofs.Try.prog (z37 N) := zj mixed z14 (FnsOk.cons (z8p N) (FnsOk.cons (z73 N) (FnsOk.cons (ze3 N) (FnsOk.nil)))) (ItsOk.nil)

def z48 (N : Nat) (tenant : (List UInt8)) (class_ : (List UInt8)) (now : Int) : Option Int :=
 some (21 : Int)

def z5j (N : Nat) : Tab Int := []

theorem z98 (N : Nat) (x : z1j [(0, .nilp), (0, .v .str), (0, .v .str), (0, .v (.int .i64))]) : z60 (z37 N) N (z5j N) z5k Go.Proofs.Try.f6 (mkS [(0, .nilp), (0, .v .str), (0, .v .str), (0, .v (.int .i64))] 0 x) (z2d (.v (.int .i64)) 4) = z48 N x.2.1 x.2.2.1 x.2.2.2.1 := by kernel_rfl

def za2 (N : Nat) : List A -> Res := z17 [(0, .nilp), (0, .v .str), (0, .v .str), (0, .v (.int .i64))] (fun x => z48 N x.2.1 x.2.2.1 x.2.2.2.1) (z5v (.v (.int .i64)) 4)

theorem zb5 (N : Nat) : Contract Go.Proofs.Try.prog z9 6 (za2 N) :=
  Contract.of (E := z37 N) (H := z5j N) (L := z5k) (N := N) (body := z99) (K := (z2d (.v (.int .i64)) 4)) (za3 N) Go.Proofs.Try.func6 (by kernel_rfl) (by decide) (fun _ hb => TabOk.nil) (fun x y h => by rw [z98]; exact h) (zw (s := (.v (.int .i64))) (m := 4))

def z4m (N : Nat) : List A -> Res := zvc [(0, .nilp), (0, .v .str), (0, .v .str), (0, .v (.int .i64))] (fun x => z48 N x.2.1 x.2.2.1 x.2.2.2.1) (z5v (.v (.int .i64)) 4) (z74 N)

theorem z8q (N : Nat) : Contract Go.Proofs.Try.prog z9 6 (z4m N) := Contract.alt (zb5 N) (zg1 N)

def z7 : Code := (Go.Proofs.Try.f3.body).getD .skip

def zk : List (List Nat × List Nat) := [([0], [3, 1, 5]), ([0, 1], [3, 1, 5]), ([0, 1, 1], [8, 1, 5, 7, 3]), ([0, 0, 1, 1, 1], [46, 7, 1, 5, 3]), ([1, 0, 1, 1, 1], [7, 1, 5, 3]), ([0, 0, 1, 0, 1, 1, 1], [6]), ([1, 0, 1, 0, 1, 1, 1], [6]), ([0, 0, 1, 1, 1, 1], [49, 1, 7, 5, 3]), ([1, 0, 1, 1, 1, 1], [1, 7, 5, 3]), ([0, 0, 1, 0, 1, 1, 1, 1], [6]), ([1, 0, 1, 0, 1, 1, 1, 1], [6]), ([0, 1, 1, 1, 1, 1], [1, 7, 5, 9, 3]), ([0, 1, 1, 1, 1, 1, 1], [1, 10, 7, 5, 9, 3]), ([0, 0, 1, 1, 1, 1, 1, 1, 1], [11, 1, 10, 7, 5, 9, 3]), ([0, 1, 0, 1, 1, 1, 1, 1, 1, 1], [11, 1, 10, 7, 5, 9, 3]), ([0, 0, 0, 0, 1, 0, 1, 1, 1, 1, 1, 1, 1], [53, 1, 11, 10, 7, 5, 9, 3]), ([1, 0, 0, 0, 1, 0, 1, 1, 1, 1, 1, 1, 1], [1, 11, 10, 7, 5, 9, 3]), ([1, 1, 0, 0, 0, 1, 0, 1, 1, 1, 1, 1, 1, 1], [9, 3, 5]), ([0, 0, 0, 1, 0, 0, 1, 0, 1, 1, 1, 1, 1, 1, 1], [12, 10, 7, 5, 9, 11, 1, 3]), ([0, 0, 1, 0, 0, 1, 0, 0, 1, 0, 1, 1, 1, 1, 1, 1, 1], [68, 12, 7, 5, 9, 11, 1, 3]), ([1, 0, 1, 0, 0, 1, 0, 0, 1, 0, 1, 1, 1, 1, 1, 1, 1], [12, 7, 5, 9, 11, 1, 3]), ([0, 0, 1, 0, 1, 0, 0, 1, 0, 0, 1, 0, 1, 1, 1, 1, 1, 1, 1], [6]), ([1, 0, 1, 0, 1, 0, 0, 1, 0, 0, 1, 0, 1, 1, 1, 1, 1, 1, 1], [6]), ([0, 1, 1, 0, 0, 1, 0, 0, 1, 0, 1, 1, 1, 1, 1, 1, 1], [7, 12, 5, 9, 11, 1, 10, 3]), ([0, 1, 1, 1, 0, 0, 1, 0, 0, 1, 0, 1, 1, 1, 1, 1, 1, 1], [93, 9, 11, 1, 10, 7, 5, 3]), ([1, 1, 1, 1, 0, 0, 1, 0, 0, 1, 0, 1, 1, 1, 1, 1, 1, 1], [11, 1, 10, 7, 5, 9, 3]), ([0, 1, 1, 1, 1, 0, 0, 1, 0, 0, 1, 0, 1, 1, 1, 1, 1, 1, 1], [11, 1, 10, 7, 5, 9, 3]), ([0, 1, 0, 0, 1, 0, 1, 1, 1, 1, 1, 1, 1], [11, 1, 10, 7, 5, 9, 3]), ([1, 1, 0, 0, 1, 0, 1, 1, 1, 1, 1, 1, 1], [11, 1, 10, 7, 5, 9, 3]), ([1, 0, 1, 1, 1, 1, 1, 1, 1], [9, 3, 5]), ([0, 1, 1, 1, 1, 1, 1, 1, 1], [6]), ([1, 1, 1, 1, 1, 1, 1, 1, 1], [6])]

def zh (N : Nat) : Env := z1x tys z9 [(6, z4m N), (5, z5m N), (7, z65 N), (4, zj2 N)] [] [] [] false [] []

theorem z7f (N : Nat) : EnvOk Go.Proofs.Try.prog (zh N) := zj mixed z14 (FnsOk.cons (z8q N) (FnsOk.cons (zdh N) (FnsOk.cons (zcs N) (FnsOk.cons (ztt N) (FnsOk.nil))))) (ItsOk.nil)

def z25 (N : Nat) (asked : (List ((List UInt8) × ((List UInt8) × (Int × Unit))))) (c : ((List UInt8) × (Int × (Int × Unit)))) (l : (List Int)) (r_ : (Option ((List ((List UInt8) × (Int × (Int × Unit)))) × (Int × ((Option (List (((List UInt8) × ((List UInt8) × Unit)) × (Int × (Int × (Int × (Int × Unit))))))) × Unit))))) (e : Int) (k0 : Bool -> Option Bool) : Option Bool :=
 cond (e != (0 : Int))
 (k0 true)
 (cond (decide ((60 : Int) < (((List.length asked) : Nat) : Int)))
 (k0 true)
 (cond (decide (0 < (List.length l)))
 (cond (decide ((List.getD l 0 (0 : Int)) < (0 : Int)))
 (k0 true)
 (cond (decide (0 < (List.length l)))
 (cond (decide ((1099511627776 : Int) < (List.getD l 0 (0 : Int))))
 (k0 true)
 (cond (decide (1 < (List.length l)))
 (cond (decide ((List.getD l 1 (0 : Int)) < (0 : Int)))
 (k0 true)
 (cond (decide (1 < (List.length l)))
 (k0 (decide ((1099511627776 : Int) < (List.getD l 1 (0 : Int)))))
 (none)))
 (none)))
 (none)))
 (none)))

def z3w (N : Nat) (x : z1j [(1, .v (.sl (.pair .str (.pair .str (.pair (.int .i64) .unit))))), (1, .box (.pair .str (.pair (.int .i64) (.pair (.int .i64) .unit)))), (1, .box (.arr 2 (.int .i64))), (1, .ov (.nb (.pair (.own (.pair .str (.pair (.int .i64) (.pair (.int .i64) .unit)))) (.pair (.int .i64) (.pair (.mp (.pair .str (.pair .str .unit)) (.pair (.int .i64) (.pair (.int .i64) (.pair (.int .i64) (.pair (.int .i64) .unit))))) .unit))))), (0, .v (.int .i64))]) (K : Ex -> List A -> Option Bool) : Option Bool :=
 z25 N x.1 x.2.1 x.2.2.1 x.2.2.2.1 x.2.2.2.2.1 (fun a4 => (K .normal (mkS [(1, .v (.sl (.pair .str (.pair .str (.pair (.int .i64) .unit))))), (1, .box (.pair .str (.pair (.int .i64) (.pair (.int .i64) .unit)))), (1, .box (.arr 2 (.int .i64))), (1, .ov (.nb (.pair (.own (.pair .str (.pair (.int .i64) (.pair (.int .i64) .unit)))) (.pair (.int .i64) (.pair (.mp (.pair .str (.pair .str .unit)) (.pair (.int .i64) (.pair (.int .i64) (.pair (.int .i64) (.pair (.int .i64) .unit))))) .unit))))), (38, .v .bool)] 58 (x.1, x.2.1, x.2.2.1, x.2.2.2.1, a4, ()))))

def z3p (N : Nat) : Hd Bool := fun st K => (unS [(1, .v (.sl (.pair .str (.pair .str (.pair (.int .i64) .unit))))), (1, .box (.pair .str (.pair (.int .i64) (.pair (.int .i64) .unit)))), (1, .box (.arr 2 (.int .i64))), (1, .ov (.nb (.pair (.own (.pair .str (.pair (.int .i64) (.pair (.int .i64) .unit)))) (.pair (.int .i64) (.pair (.mp (.pair .str (.pair .str .unit)) (.pair (.int .i64) (.pair (.int .i64) (.pair (.int .i64) (.pair (.int .i64) .unit))))) .unit))))), (0, .v (.int .i64))] 96 (restr [8, 1, 5, 7, 3] 0 st)).bind fun x => z3w N x K

def z7z (N : Nat) : Tab Bool := []

theorem z7d {N : Nat} {c : Ctx} (hb : Base Go.Proofs.Try.prog (zh N) c) : zy Go.Proofs.Try.prog c (zi z7 [0, 0, 1, 1, 1]) (z3p N) :=
  z10 (s := [(1, .v (.sl (.pair .str (.pair .str (.pair (.int .i64) .unit))))), (1, .box (.pair .str (.pair (.int .i64) (.pair (.int .i64) .unit)))), (1, .box (.arr 2 (.int .i64))), (1, .ov (.nb (.pair (.own (.pair .str (.pair (.int .i64) (.pair (.int .i64) .unit)))) (.pair (.int .i64) (.pair (.mp (.pair .str (.pair .str .unit)) (.pair (.int .i64) (.pair (.int .i64) (.pair (.int .i64) (.pair (.int .i64) .unit))))) .unit))))), (0, .v (.int .i64))]) (m := 96) (g := z3w N) [8, 1, 5, 7, 3] (zd hb N (z7z N) zk z7 TabOk.nil [0, 0, 1, 1, 1] _ rfl) (fun x K => by kernel_rfl)

def z26 (N : Nat) (asked : (List ((List UInt8) × ((List UInt8) × (Int × Unit))))) (c : ((List UInt8) × (Int × (Int × Unit)))) (l : (List Int)) (r_ : (Option ((List ((List UInt8) × (Int × (Int × Unit)))) × (Int × ((Option (List (((List UInt8) × ((List UInt8) × Unit)) × (Int × (Int × (Int × (Int × Unit))))))) × Unit))))) (e : Int) (k0 : Bool -> Option Bool) (k1 : Option Bool) : Option Bool :=
 z25 N asked c l r_ e
 (fun x46 => cond x46
 ((z1s N).bind fun y =>
 k0 y)
 (k1))

def z3x (N : Nat) (x : z1j [(1, .v (.sl (.pair .str (.pair .str (.pair (.int .i64) .unit))))), (1, .box (.pair .str (.pair (.int .i64) (.pair (.int .i64) .unit)))), (1, .box (.arr 2 (.int .i64))), (1, .ov (.nb (.pair (.own (.pair .str (.pair (.int .i64) (.pair (.int .i64) .unit)))) (.pair (.int .i64) (.pair (.mp (.pair .str (.pair .str .unit)) (.pair (.int .i64) (.pair (.int .i64) (.pair (.int .i64) (.pair (.int .i64) .unit))))) .unit))))), (0, .v (.int .i64))]) (K : Ex -> List A -> Option Bool) : Option Bool :=
 z26 N x.1 x.2.1 x.2.2.1 x.2.2.2.1 x.2.2.2.2.1 (fun a0 => (K .ret (mkS [(6, .v .bool)] 98 (a0, ())))) (K .normal (mkS [(1, .v (.sl (.pair .str (.pair .str (.pair (.int .i64) .unit))))), (1, .box (.pair .str (.pair (.int .i64) (.pair (.int .i64) .unit)))), (1, .box (.arr 2 (.int .i64))), (1, .ov (.nb (.pair (.own (.pair .str (.pair (.int .i64) (.pair (.int .i64) .unit)))) (.pair (.int .i64) (.pair (.mp (.pair .str (.pair .str .unit)) (.pair (.int .i64) (.pair (.int .i64) (.pair (.int .i64) (.pair (.int .i64) .unit))))) .unit)))))] 97 (x.1, x.2.1, x.2.2.1, x.2.2.2.1, ())))

def z3q (N : Nat) : Hd Bool := fun st K => (unS [(1, .v (.sl (.pair .str (.pair .str (.pair (.int .i64) .unit))))), (1, .box (.pair .str (.pair (.int .i64) (.pair (.int .i64) .unit)))), (1, .box (.arr 2 (.int .i64))), (1, .ov (.nb (.pair (.own (.pair .str (.pair (.int .i64) (.pair (.int .i64) .unit)))) (.pair (.int .i64) (.pair (.mp (.pair .str (.pair .str .unit)) (.pair (.int .i64) (.pair (.int .i64) (.pair (.int .i64) (.pair (.int .i64) .unit))))) .unit))))), (0, .v (.int .i64))] 96 (restr [8, 1, 5, 7, 3] 0 st)).bind fun x => z3x N x K

def z80 (N : Nat) : Tab Bool := [([0, 0, 1, 1, 1], z3p N)]

theorem z7e {N : Nat} {c : Ctx} (hb : Base Go.Proofs.Try.prog (zh N) c) : zy Go.Proofs.Try.prog c (zi z7 [0, 1, 1, 1]) (z3q N) :=
  z10 (s := [(1, .v (.sl (.pair .str (.pair .str (.pair (.int .i64) .unit))))), (1, .box (.pair .str (.pair (.int .i64) (.pair (.int .i64) .unit)))), (1, .box (.arr 2 (.int .i64))), (1, .ov (.nb (.pair (.own (.pair .str (.pair (.int .i64) (.pair (.int .i64) .unit)))) (.pair (.int .i64) (.pair (.mp (.pair .str (.pair .str .unit)) (.pair (.int .i64) (.pair (.int .i64) (.pair (.int .i64) (.pair (.int .i64) .unit))))) .unit))))), (0, .v (.int .i64))]) (m := 96) (g := z3x N) [8, 1, 5, 7, 3] (zd hb N (z80 N) zk z7 (TabOk.cons (z7d hb) TabOk.nil) [0, 1, 1, 1] _ rfl) (fun x K => by kernel_rfl)

def z20 (N : Nat) (asked : (List ((List UInt8) × ((List UInt8) × (Int × Unit))))) (c : ((List UInt8) × (Int × (Int × Unit)))) (l : (List Int)) (r_ : ((List ((List UInt8) × (Int × (Int × Unit)))) × (Int × ((Option (List (((List UInt8) × ((List UInt8) × Unit)) × (Int × (Int × (Int × (Int × Unit))))))) × Unit)))) (n : Int) (last : Int) (i : Int) (x12 : ((List UInt8) × ((List UInt8) × (Int × Unit)))) (k0 : Bool -> Option Bool) : Option Bool :=
 cond (decide (x12.2.2.1 < last))
 (k0 true)
 (k0 (decide ((1099511627776 : Int) < x12.2.2.1)))

def z3s (N : Nat) (x : z1j [(1, .v (.sl (.pair .str (.pair .str (.pair (.int .i64) .unit))))), (1, .box (.pair .str (.pair (.int .i64) (.pair (.int .i64) .unit)))), (1, .box (.arr 2 (.int .i64))), (1, .box (.pair (.own (.pair .str (.pair (.int .i64) (.pair (.int .i64) .unit)))) (.pair (.int .i64) (.pair (.mp (.pair .str (.pair .str .unit)) (.pair (.int .i64) (.pair (.int .i64) (.pair (.int .i64) (.pair (.int .i64) .unit))))) .unit)))), (1, .v (.int .i64)), (0, .v (.int .i64)), (0, .v (.int .i64)), (0, .box (.pair .str (.pair .str (.pair (.int .i64) .unit))))]) (K : Ex -> List A -> Option Bool) : Option Bool :=
 z20 N x.1 x.2.1 x.2.2.1 x.2.2.2.1 x.2.2.2.2.1 x.2.2.2.2.2.1 x.2.2.2.2.2.2.1 x.2.2.2.2.2.2.2.1 (fun a7 => (K .normal (mkS [(1, .v (.sl (.pair .str (.pair .str (.pair (.int .i64) .unit))))), (1, .box (.pair .str (.pair (.int .i64) (.pair (.int .i64) .unit)))), (1, .box (.arr 2 (.int .i64))), (1, .box (.pair (.own (.pair .str (.pair (.int .i64) (.pair (.int .i64) .unit)))) (.pair (.int .i64) (.pair (.mp (.pair .str (.pair .str .unit)) (.pair (.int .i64) (.pair (.int .i64) (.pair (.int .i64) (.pair (.int .i64) .unit))))) .unit)))), (1, .v (.int .i64)), (1, .v (.int .i64)), (0, .box (.pair .str (.pair .str (.pair (.int .i64) .unit)))), (55, .v .bool)] 36 (x.1, x.2.1, x.2.2.1, x.2.2.2.1, x.2.2.2.2.1, x.2.2.2.2.2.2.1, x.2.2.2.2.2.2.2.1, a7, ()))))

def z3l (N : Nat) : Hd Bool := fun st K => (unS [(1, .v (.sl (.pair .str (.pair .str (.pair (.int .i64) .unit))))), (1, .box (.pair .str (.pair (.int .i64) (.pair (.int .i64) .unit)))), (1, .box (.arr 2 (.int .i64))), (1, .box (.pair (.own (.pair .str (.pair (.int .i64) (.pair (.int .i64) .unit)))) (.pair (.int .i64) (.pair (.mp (.pair .str (.pair .str .unit)) (.pair (.int .i64) (.pair (.int .i64) (.pair (.int .i64) (.pair (.int .i64) .unit))))) .unit)))), (1, .v (.int .i64)), (0, .v (.int .i64)), (0, .v (.int .i64)), (0, .box (.pair .str (.pair .str (.pair (.int .i64) .unit))))] 92 (restr [12, 10, 7, 5, 9, 11, 1, 3] 0 st)).bind fun x => z3s N x K

def z7v (N : Nat) : Tab Bool := []

theorem z79 {N : Nat} {c : Ctx} (hb : Base Go.Proofs.Try.prog (zh N) c) : zy Go.Proofs.Try.prog c (zi z7 [0, 0, 1, 0, 0, 1, 0, 0, 1, 0, 1, 1, 1, 1, 1, 1, 1]) (z3l N) :=
  z10 (s := [(1, .v (.sl (.pair .str (.pair .str (.pair (.int .i64) .unit))))), (1, .box (.pair .str (.pair (.int .i64) (.pair (.int .i64) .unit)))), (1, .box (.arr 2 (.int .i64))), (1, .box (.pair (.own (.pair .str (.pair (.int .i64) (.pair (.int .i64) .unit)))) (.pair (.int .i64) (.pair (.mp (.pair .str (.pair .str .unit)) (.pair (.int .i64) (.pair (.int .i64) (.pair (.int .i64) (.pair (.int .i64) .unit))))) .unit)))), (1, .v (.int .i64)), (0, .v (.int .i64)), (0, .v (.int .i64)), (0, .box (.pair .str (.pair .str (.pair (.int .i64) .unit))))]) (m := 92) (g := z3s N) [12, 10, 7, 5, 9, 11, 1, 3] (zd hb N (z7v N) zk z7 TabOk.nil [0, 0, 1, 0, 0, 1, 0, 0, 1, 0, 1, 1, 1, 1, 1, 1, 1] _ rfl) (fun x K => by kernel_rfl)

def z21 (N : Nat) (asked : (List ((List UInt8) × ((List UInt8) × (Int × Unit))))) (c : ((List UInt8) × (Int × (Int × Unit)))) (l : (List Int)) (r_ : ((List ((List UInt8) × (Int × (Int × Unit)))) × (Int × ((Option (List (((List UInt8) × ((List UInt8) × Unit)) × (Int × (Int × (Int × (Int × Unit))))))) × Unit)))) (n : Int) (last : Int) (i : Int) (x12 : ((List UInt8) × ((List UInt8) × (Int × Unit)))) (k0 : Bool -> Option Bool) (k1 : Option Bool) : Option Bool :=
 z20 N asked c l r_ n last i x12
 (fun x68 => cond x68
 ((z1s N).bind fun y =>
 k0 y)
 (k1))

def z3t (N : Nat) (x : z1j [(1, .v (.sl (.pair .str (.pair .str (.pair (.int .i64) .unit))))), (1, .box (.pair .str (.pair (.int .i64) (.pair (.int .i64) .unit)))), (1, .box (.arr 2 (.int .i64))), (1, .box (.pair (.own (.pair .str (.pair (.int .i64) (.pair (.int .i64) .unit)))) (.pair (.int .i64) (.pair (.mp (.pair .str (.pair .str .unit)) (.pair (.int .i64) (.pair (.int .i64) (.pair (.int .i64) (.pair (.int .i64) .unit))))) .unit)))), (1, .v (.int .i64)), (0, .v (.int .i64)), (0, .v (.int .i64)), (0, .box (.pair .str (.pair .str (.pair (.int .i64) .unit))))]) (K : Ex -> List A -> Option Bool) : Option Bool :=
 z21 N x.1 x.2.1 x.2.2.1 x.2.2.2.1 x.2.2.2.2.1 x.2.2.2.2.2.1 x.2.2.2.2.2.2.1 x.2.2.2.2.2.2.2.1 (fun a0 => (K .ret (mkS [(6, .v .bool)] 98 (a0, ())))) (K .normal (mkS [(1, .v (.sl (.pair .str (.pair .str (.pair (.int .i64) .unit))))), (1, .box (.pair .str (.pair (.int .i64) (.pair (.int .i64) .unit)))), (1, .box (.arr 2 (.int .i64))), (1, .box (.pair (.own (.pair .str (.pair (.int .i64) (.pair (.int .i64) .unit)))) (.pair (.int .i64) (.pair (.mp (.pair .str (.pair .str .unit)) (.pair (.int .i64) (.pair (.int .i64) (.pair (.int .i64) (.pair (.int .i64) .unit))))) .unit)))), (1, .v (.int .i64)), (1, .v (.int .i64)), (0, .box (.pair .str (.pair .str (.pair (.int .i64) .unit))))] 92 (x.1, x.2.1, x.2.2.1, x.2.2.2.1, x.2.2.2.2.1, x.2.2.2.2.2.2.1, x.2.2.2.2.2.2.2.1, ())))

def z3m (N : Nat) : Hd Bool := fun st K => (unS [(1, .v (.sl (.pair .str (.pair .str (.pair (.int .i64) .unit))))), (1, .box (.pair .str (.pair (.int .i64) (.pair (.int .i64) .unit)))), (1, .box (.arr 2 (.int .i64))), (1, .box (.pair (.own (.pair .str (.pair (.int .i64) (.pair (.int .i64) .unit)))) (.pair (.int .i64) (.pair (.mp (.pair .str (.pair .str .unit)) (.pair (.int .i64) (.pair (.int .i64) (.pair (.int .i64) (.pair (.int .i64) .unit))))) .unit)))), (1, .v (.int .i64)), (0, .v (.int .i64)), (0, .v (.int .i64)), (0, .box (.pair .str (.pair .str (.pair (.int .i64) .unit))))] 92 (restr [12, 10, 7, 5, 9, 11, 1, 3] 0 st)).bind fun x => z3t N x K

def z7w (N : Nat) : Tab Bool := [([0, 0, 1, 0, 0, 1, 0, 0, 1, 0, 1, 1, 1, 1, 1, 1, 1], z3l N)]

theorem z7a {N : Nat} {c : Ctx} (hb : Base Go.Proofs.Try.prog (zh N) c) : zy Go.Proofs.Try.prog c (zi z7 [0, 1, 0, 0, 1, 0, 0, 1, 0, 1, 1, 1, 1, 1, 1, 1]) (z3m N) :=
  z10 (s := [(1, .v (.sl (.pair .str (.pair .str (.pair (.int .i64) .unit))))), (1, .box (.pair .str (.pair (.int .i64) (.pair (.int .i64) .unit)))), (1, .box (.arr 2 (.int .i64))), (1, .box (.pair (.own (.pair .str (.pair (.int .i64) (.pair (.int .i64) .unit)))) (.pair (.int .i64) (.pair (.mp (.pair .str (.pair .str .unit)) (.pair (.int .i64) (.pair (.int .i64) (.pair (.int .i64) (.pair (.int .i64) .unit))))) .unit)))), (1, .v (.int .i64)), (0, .v (.int .i64)), (0, .v (.int .i64)), (0, .box (.pair .str (.pair .str (.pair (.int .i64) .unit))))]) (m := 92) (g := z3t N) [12, 10, 7, 5, 9, 11, 1, 3] (zd hb N (z7w N) zk z7 (TabOk.cons (z79 hb) TabOk.nil) [0, 1, 0, 0, 1, 0, 0, 1, 0, 1, 1, 1, 1, 1, 1, 1] _ rfl) (fun x K => by kernel_rfl)

def z1z (N : Nat) (asked : (List ((List UInt8) × ((List UInt8) × (Int × Unit))))) (c : ((List UInt8) × (Int × (Int × Unit)))) (l : (List Int)) (r_ : ((List ((List UInt8) × (Int × (Int × Unit)))) × (Int × ((Option (List (((List UInt8) × ((List UInt8) × Unit)) × (Int × (Int × (Int × (Int × Unit))))))) × Unit)))) (n : Int) (last : Int) (i : Int) (x12 : ((List UInt8) × ((List UInt8) × (Int × Unit)))) (k0 : ((List ((List UInt8) × (Int × (Int × Unit)))) × (Int × ((Option (List (((List UInt8) × ((List UInt8) × Unit)) × (Int × (Int × (Int × (Int × Unit))))))) × Unit))) -> Bool -> Option Bool) : Option Bool :=
 (z38 N r_ ([(97 : UInt8)] : List UInt8) ([(103 : UInt8), (111 : UInt8), (108 : UInt8), (100 : UInt8)] : List UInt8) x12.2.2.1).bind fun y =>
 cond (y.1 == (0 : Int))
 (cond (decide (0 < (List.length l)))
 (cond (decide ((List.getD l 0 (0 : Int)) <= x12.2.2.1))
 (cond (decide (0 < (List.length l)))
 (cond (decide (1 < (List.length l)))
 (k0 y.2.1 (decide ((Go.IntKind.wrap Go.IntKind.i64 (x12.2.2.1 - (List.getD l 0 (0 : Int)))) <= (List.getD l 1 (0 : Int)))))
 (none))
 (none))
 (k0 y.2.1 false))
 (none))
 (k0 y.2.1 false)

def z3r (N : Nat) (x : z1j [(1, .v (.sl (.pair .str (.pair .str (.pair (.int .i64) .unit))))), (1, .box (.pair .str (.pair (.int .i64) (.pair (.int .i64) .unit)))), (1, .box (.arr 2 (.int .i64))), (1, .box (.pair (.own (.pair .str (.pair (.int .i64) (.pair (.int .i64) .unit)))) (.pair (.int .i64) (.pair (.mp (.pair .str (.pair .str .unit)) (.pair (.int .i64) (.pair (.int .i64) (.pair (.int .i64) (.pair (.int .i64) .unit))))) .unit)))), (1, .v (.int .i64)), (0, .v (.int .i64)), (0, .v (.int .i64)), (0, .box (.pair .str (.pair .str (.pair (.int .i64) .unit))))]) (K : Ex -> List A -> Option Bool) : Option Bool :=
 z1z N x.1 x.2.1 x.2.2.1 x.2.2.2.1 x.2.2.2.2.1 x.2.2.2.2.2.1 x.2.2.2.2.2.2.1 x.2.2.2.2.2.2.2.1 (fun a3 a7 => (K .normal (mkS [(1, .v (.sl (.pair .str (.pair .str (.pair (.int .i64) .unit))))), (1, .box (.pair .str (.pair (.int .i64) (.pair (.int .i64) .unit)))), (1, .box (.arr 2 (.int .i64))), (1, .box (.pair (.own (.pair .str (.pair (.int .i64) (.pair (.int .i64) .unit)))) (.pair (.int .i64) (.pair (.mp (.pair .str (.pair .str .unit)) (.pair (.int .i64) (.pair (.int .i64) (.pair (.int .i64) (.pair (.int .i64) .unit))))) .unit)))), (1, .v (.int .i64)), (0, .v (.int .i64)), (0, .v (.int .i64)), (81, .v .bool)] 11 (x.1, x.2.1, x.2.2.1, a3, x.2.2.2.2.1, x.2.2.2.2.2.1, x.2.2.2.2.2.2.1, a7, ()))))

def z3k (N : Nat) : Hd Bool := fun st K => (unS [(1, .v (.sl (.pair .str (.pair .str (.pair (.int .i64) .unit))))), (1, .box (.pair .str (.pair (.int .i64) (.pair (.int .i64) .unit)))), (1, .box (.arr 2 (.int .i64))), (1, .box (.pair (.own (.pair .str (.pair (.int .i64) (.pair (.int .i64) .unit)))) (.pair (.int .i64) (.pair (.mp (.pair .str (.pair .str .unit)) (.pair (.int .i64) (.pair (.int .i64) (.pair (.int .i64) (.pair (.int .i64) .unit))))) .unit)))), (1, .v (.int .i64)), (0, .v (.int .i64)), (0, .v (.int .i64)), (0, .box (.pair .str (.pair .str (.pair (.int .i64) .unit))))] 92 (restr [7, 12, 5, 9, 11, 1, 10, 3] 0 st)).bind fun x => z3r N x K

def z7u (N : Nat) : Tab Bool := []

theorem z78 {N : Nat} {c : Ctx} (hb : Base Go.Proofs.Try.prog (zh N) c) : zy Go.Proofs.Try.prog c (zi z7 [0, 1, 1, 1, 0, 0, 1, 0, 0, 1, 0, 1, 1, 1, 1, 1, 1, 1]) (z3k N) :=
  z10 (s := [(1, .v (.sl (.pair .str (.pair .str (.pair (.int .i64) .unit))))), (1, .box (.pair .str (.pair (.int .i64) (.pair (.int .i64) .unit)))), (1, .box (.arr 2 (.int .i64))), (1, .box (.pair (.own (.pair .str (.pair (.int .i64) (.pair (.int .i64) .unit)))) (.pair (.int .i64) (.pair (.mp (.pair .str (.pair .str .unit)) (.pair (.int .i64) (.pair (.int .i64) (.pair (.int .i64) (.pair (.int .i64) .unit))))) .unit)))), (1, .v (.int .i64)), (0, .v (.int .i64)), (0, .v (.int .i64)), (0, .box (.pair .str (.pair .str (.pair (.int .i64) .unit))))]) (m := 92) (g := z3r N) [7, 12, 5, 9, 11, 1, 10, 3] (zd hb N (z7u N) zk z7 TabOk.nil [0, 1, 1, 1, 0, 0, 1, 0, 0, 1, 0, 1, 1, 1, 1, 1, 1, 1] _ rfl) (fun x K => by kernel_rfl)

def z24 (N : Nat) (asked : (List ((List UInt8) × ((List UInt8) × (Int × Unit))))) (c : ((List UInt8) × (Int × (Int × Unit)))) (l : (List Int)) (r_ : ((List ((List UInt8) × (Int × (Int × Unit)))) × (Int × ((Option (List (((List UInt8) × ((List UInt8) × Unit)) × (Int × (Int × (Int × (Int × Unit))))))) × Unit)))) (n : Int) (last : Int) (i : Int) (k0 : Bool -> Option Bool) (k1 : ((List ((List UInt8) × (Int × (Int × Unit)))) × (Int × ((Option (List (((List UInt8) × ((List UInt8) × Unit)) × (Int × (Int × (Int × (Int × Unit))))))) × Unit))) -> Int -> Int -> Option Bool) : Option Bool :=
 cond (Go.Lift.inR i (List.length asked))
 (z21 N asked c l r_ n last i (List.getD asked (Int.toNat i) (([] : List UInt8), (([] : List UInt8), ((0 : Int), ()))))
 (fun x6 => k0 x6)
 (z1z N asked c l r_ n (List.getD asked (Int.toNat i) (([] : List UInt8), (([] : List UInt8), ((0 : Int), ())))).2.2.1 i (List.getD asked (Int.toNat i) (([] : List UInt8), (([] : List UInt8), ((0 : Int), ()))))
 (fun r_1 x93 => cond x93
 (k1 r_1 (Go.IntKind.wrap Go.IntKind.i64 (n + (1 : Int))) (List.getD asked (Int.toNat i) (([] : List UInt8), (([] : List UInt8), ((0 : Int), ())))).2.2.1)
 (k1 r_1 n (List.getD asked (Int.toNat i) (([] : List UInt8), (([] : List UInt8), ((0 : Int), ())))).2.2.1))))
 (none)

def z3u (N : Nat) (x : z1j [(1, .v (.sl (.pair .str (.pair .str (.pair (.int .i64) .unit))))), (1, .box (.pair .str (.pair (.int .i64) (.pair (.int .i64) .unit)))), (1, .box (.arr 2 (.int .i64))), (1, .box (.pair (.own (.pair .str (.pair (.int .i64) (.pair (.int .i64) .unit)))) (.pair (.int .i64) (.pair (.mp (.pair .str (.pair .str .unit)) (.pair (.int .i64) (.pair (.int .i64) (.pair (.int .i64) (.pair (.int .i64) .unit))))) .unit)))), (1, .v (.int .i64)), (0, .v (.int .i64)), (0, .v (.int .i64))]) (K : Ex -> List A -> Option Bool) : Option Bool :=
 z24 N x.1 x.2.1 x.2.2.1 x.2.2.2.1 x.2.2.2.2.1 x.2.2.2.2.2.1 x.2.2.2.2.2.2.1 (fun a0 => (K .ret (mkS [(6, .v .bool)] 98 (a0, ())))) (fun a3 a4 a5 => (K .normal (mkS [(1, .v (.sl (.pair .str (.pair .str (.pair (.int .i64) .unit))))), (1, .box (.pair .str (.pair (.int .i64) (.pair (.int .i64) .unit)))), (1, .box (.arr 2 (.int .i64))), (1, .box (.pair (.own (.pair .str (.pair (.int .i64) (.pair (.int .i64) .unit)))) (.pair (.int .i64) (.pair (.mp (.pair .str (.pair .str .unit)) (.pair (.int .i64) (.pair (.int .i64) (.pair (.int .i64) (.pair (.int .i64) .unit))))) .unit)))), (1, .v (.int .i64)), (0, .v (.int .i64)), (0, .v (.int .i64))] 93 (x.1, x.2.1, x.2.2.1, a3, a4, a5, x.2.2.2.2.2.2.1, ()))))

def z3n (N : Nat) : Hd Bool := fun st K => (unS [(1, .v (.sl (.pair .str (.pair .str (.pair (.int .i64) .unit))))), (1, .box (.pair .str (.pair (.int .i64) (.pair (.int .i64) .unit)))), (1, .box (.arr 2 (.int .i64))), (1, .box (.pair (.own (.pair .str (.pair (.int .i64) (.pair (.int .i64) .unit)))) (.pair (.int .i64) (.pair (.mp (.pair .str (.pair .str .unit)) (.pair (.int .i64) (.pair (.int .i64) (.pair (.int .i64) (.pair (.int .i64) .unit))))) .unit)))), (1, .v (.int .i64)), (0, .v (.int .i64)), (0, .v (.int .i64))] 93 (restr [1, 11, 10, 7, 5, 9, 3] 0 st)).bind fun x => z3u N x K

def z7x (N : Nat) : Tab Bool := [([0, 1, 0, 0, 1, 0, 0, 1, 0, 1, 1, 1, 1, 1, 1, 1], z3m N), ([0, 1, 1, 1, 0, 0, 1, 0, 0, 1, 0, 1, 1, 1, 1, 1, 1, 1], z3k N)]

theorem z7b {N : Nat} {c : Ctx} (hb : Base Go.Proofs.Try.prog (zh N) c) : zy Go.Proofs.Try.prog c (zi z7 [0, 1, 0, 0, 1, 0, 1, 1, 1, 1, 1, 1, 1]) (z3n N) :=
  z10 (s := [(1, .v (.sl (.pair .str (.pair .str (.pair (.int .i64) .unit))))), (1, .box (.pair .str (.pair (.int .i64) (.pair (.int .i64) .unit)))), (1, .box (.arr 2 (.int .i64))), (1, .box (.pair (.own (.pair .str (.pair (.int .i64) (.pair (.int .i64) .unit)))) (.pair (.int .i64) (.pair (.mp (.pair .str (.pair .str .unit)) (.pair (.int .i64) (.pair (.int .i64) (.pair (.int .i64) (.pair (.int .i64) .unit))))) .unit)))), (1, .v (.int .i64)), (0, .v (.int .i64)), (0, .v (.int .i64))]) (m := 93) (g := z3u N) [1, 11, 10, 7, 5, 9, 3] (zd hb N (z7x N) zk z7 (TabOk.cons (z7a hb) (TabOk.cons (z78 hb) TabOk.nil)) [0, 1, 0, 0, 1, 0, 1, 1, 1, 1, 1, 1, 1] _ rfl) (fun x K => by kernel_rfl)

def z1y (N : Nat) (asked : (List ((List UInt8) × ((List UInt8) × (Int × Unit))))) (c : ((List UInt8) × (Int × (Int × Unit)))) (l : (List Int)) (r_ : ((List ((List UInt8) × (Int × (Int × Unit)))) × (Int × ((Option (List (((List UInt8) × ((List UInt8) × Unit)) × (Int × (Int × (Int × (Int × Unit))))))) × Unit)))) (n : Int) (last : Int) (i : Int) (rec : ((List ((List UInt8) × (Int × (Int × Unit)))) × (Int × ((Option (List (((List UInt8) × ((List UInt8) × Unit)) × (Int × (Int × (Int × (Int × Unit))))))) × Unit))) -> Int -> Int -> Int -> Option Bool) (k0 : Bool -> Option Bool) (k1 : Int -> Option Bool) : Option Bool :=
 cond (decide (i < (((List.length asked) : Nat) : Int)))
 (z24 N asked c l r_ n last i
 (fun x6 => k0 x6)
 (fun r_1 n1 last1 => rec r_1 n1 last1 (Go.IntKind.wrap Go.IntKind.i64 (i + (1 : Int)))))
 (k1 n)

def z3j (N : Nat) (asked : (List ((List UInt8) × ((List UInt8) × (Int × Unit))))) (c : ((List UInt8) × (Int × (Int × Unit)))) (l : (List Int)) (r_ : ((List ((List UInt8) × (Int × (Int × Unit)))) × (Int × ((Option (List (((List UInt8) × ((List UInt8) × Unit)) × (Int × (Int × (Int × (Int × Unit))))))) × Unit)))) (n : Int) (last : Int) (i : Int) (k0 : Bool -> Option Bool) (k1 : Int -> Option Bool) : Option Bool :=
 iter (fun (v : (((List ((List UInt8) × (Int × (Int × Unit)))) × (Int × ((Option (List (((List UInt8) × ((List UInt8) × Unit)) × (Int × (Int × (Int × (Int × Unit))))))) × Unit))) × Int × Int × Int)) r => z1y N asked c l v.1 v.2.1 v.2.2.1 v.2.2.2 (fun r_ n last i => (r (r_, n, last, i))) k0 k1) N (r_, n, last, i)

def z3v (N : Nat) (i : ((List ((List UInt8) × ((List UInt8) × (Int × Unit)))) × ((List UInt8) × (Int × (Int × Unit))) × (List Int))) (v : (((List ((List UInt8) × (Int × (Int × Unit)))) × (Int × ((Option (List (((List UInt8) × ((List UInt8) × Unit)) × (Int × (Int × (Int × (Int × Unit))))))) × Unit))) × Int × Int × Int)) (r : (((List ((List UInt8) × (Int × (Int × Unit)))) × (Int × ((Option (List (((List UInt8) × ((List UInt8) × Unit)) × (Int × (Int × (Int × (Int × Unit))))))) × Unit))) × Int × Int × Int) -> Option Bool) (K : Ex -> List A -> Option Bool) : Option Bool :=
 z1y N i.1 i.2.1 i.2.2 v.1 v.2.1 v.2.2.1 v.2.2.2 (fun r_ n last i => (r (r_, n, last, i))) (fun a0 => (K .ret (mkS [(6, .v .bool)] 98 (a0, ())))) (fun a2 => (K (.exit 0) (mkS [(3, .box (.pair .str (.pair (.int .i64) (.pair (.int .i64) .unit)))), (1, .box (.arr 2 (.int .i64))), (3, .v (.int .i64))] 95 (i.2.1, i.2.2, a2, ()))))

def z3o (N : Nat) : Hd Bool := fun st K => (unS [(1, .v (.sl (.pair .str (.pair .str (.pair (.int .i64) .unit))))), (1, .box (.pair .str (.pair (.int .i64) (.pair (.int .i64) .unit)))), (1, .box (.arr 2 (.int .i64))), (1, .box (.pair (.own (.pair .str (.pair (.int .i64) (.pair (.int .i64) .unit)))) (.pair (.int .i64) (.pair (.mp (.pair .str (.pair .str .unit)) (.pair (.int .i64) (.pair (.int .i64) (.pair (.int .i64) (.pair (.int .i64) .unit))))) .unit)))), (1, .v (.int .i64)), (0, .v (.int .i64)), (0, .v (.int .i64))] 93 (restr [11, 1, 10, 7, 5, 9, 3] 0 st)).bind fun x => iter (fun v r => z3v N ((fun x => (x.1, x.2.1, x.2.2.1)) x) v r K) N ((fun x => (x.2.2.2.1, x.2.2.2.2.1, x.2.2.2.2.2.1, x.2.2.2.2.2.2.1)) x)

def z7y (N : Nat) : Tab Bool := [([0, 1, 0, 0, 1, 0, 1, 1, 1, 1, 1, 1, 1], z3n N)]

theorem z7c {N : Nat} {c : Ctx} (hb : Base Go.Proofs.Try.prog (zh N) c) : zy Go.Proofs.Try.prog c (zi z7 [0, 1, 0, 1, 1, 1, 1, 1, 1, 1]) (z3o N) :=
  z7m (s := [(1, .v (.sl (.pair .str (.pair .str (.pair (.int .i64) .unit))))), (1, .box (.pair .str (.pair (.int .i64) (.pair (.int .i64) .unit)))), (1, .box (.arr 2 (.int .i64))), (1, .box (.pair (.own (.pair .str (.pair (.int .i64) (.pair (.int .i64) .unit)))) (.pair (.int .i64) (.pair (.mp (.pair .str (.pair .str .unit)) (.pair (.int .i64) (.pair (.int .i64) (.pair (.int .i64) (.pair (.int .i64) .unit))))) .unit)))), (1, .v (.int .i64)), (0, .v (.int .i64)), (0, .v (.int .i64))]) (m := 93) (z3v N) [11, 1, 10, 7, 5, 9, 3] N (fun x => (x.1, x.2.1, x.2.2.1)) (fun x => (x.2.2.2.1, x.2.2.2.2.1, x.2.2.2.2.2.1, x.2.2.2.2.2.2.1)) (fun i v => (i.1, i.2.1, i.2.2, v.1, v.2.1, v.2.2.1, v.2.2.2, ())) (fun _ => rfl) (zd hb N (z7y N) zk z7 (TabOk.cons (z7b hb) TabOk.nil) [0, 0, 1, 0, 1, 1, 1, 1, 1, 1, 1] _ rfl) (fun i v r K => by kernel_rfl)

def z13 (N : Nat) (c : ((List UInt8) × (Int × (Int × Unit)))) (asked : (List ((List UInt8) × ((List UInt8) × (Int × Unit))))) (l : (List Int)) : Option Bool :=
 (zg2 N ([(([(103 : UInt8), (111 : UInt8), (108 : UInt8), (100 : UInt8)] : List UInt8), c.2)] : List ((List UInt8) × (Int × (Int × Unit)))) (0 : Int)).bind fun y =>
 z26 N asked (([(103 : UInt8), (111 : UInt8), (108 : UInt8), (100 : UInt8)] : List UInt8), c.2) l y.1 y.2.1
 (fun x6 => some x6)
 (cond (Option.isSome y.1)
 (z3j N asked (([(103 : UInt8), (111 : UInt8), (108 : UInt8), (100 : UInt8)] : List UInt8), c.2) l (Option.getD y.1 (([] : List ((List UInt8) × (Int × (Int × Unit)))), ((0 : Int), ((Option.none), ())))) (0 : Int) (0 : Int) (0 : Int)
 (fun x61 => some x61)
 (fun n => cond (decide (1 < (List.length l)))
 ((z5r N (([(103 : UInt8), (111 : UInt8), (108 : UInt8), (100 : UInt8)] : List UInt8), c.2) (List.getD l 1 (0 : Int))).bind fun y1 =>
 cond (decide (n <= y1))
 ((z1s N).bind fun y2 =>
 some y2)
 (some false))
 (none)))
 (some false))

def z3z (N : Nat) : Tab Bool := [([0, 1, 1, 1], z3q N), ([0, 1, 0, 1, 1, 1, 1, 1, 1, 1], z3o N)]

theorem z6b (N : Nat) (x : z1j [(0, .v (.pair .str (.pair (.int .i64) (.pair (.int .i64) .unit)))), (0, .v (.sl (.pair .str (.pair .str (.pair (.int .i64) .unit))))), (0, .v (.arr 2 (.int .i64)))]) : z60 (zh N) N (z3z N) zk Go.Proofs.Try.f3 (mkS [(0, .v (.pair .str (.pair (.int .i64) (.pair (.int .i64) .unit)))), (0, .v (.sl (.pair .str (.pair .str (.pair (.int .i64) .unit))))), (0, .v (.arr 2 (.int .i64)))] 0 x) (z2d (.v .bool) 3) = z13 N x.1 x.2.1 x.2.2.1 := by kernel_rfl

def z77 (N : Nat) : List A -> Res := z17 [(0, .v (.pair .str (.pair (.int .i64) (.pair (.int .i64) .unit)))), (0, .v (.sl (.pair .str (.pair .str (.pair (.int .i64) .unit))))), (0, .v (.arr 2 (.int .i64)))] (fun x => z13 N x.1 x.2.1 x.2.2.1) (z5v (.v .bool) 3)

theorem z81 (N : Nat) : Contract Go.Proofs.Try.prog z9 3 (z77 N) :=
  Contract.of (E := zh N) (H := z3z N) (L := zk) (N := N) (body := z7) (K := (z2d (.v .bool) 3)) (z7f N) Go.Proofs.Try.func3 (by kernel_rfl) (by decide) (fun _ hb => (TabOk.cons (z7e hb) (TabOk.cons (z7c hb) TabOk.nil))) (fun x y h => by rw [z6b]; exact h) (zw (s := (.v .bool)) (m := 3))

end
end Go.Proofs.YtbnhlpehccohjaaLg

set_option linter.all false
set_option maxRecDepth 100000
namespace Go.Proofs.YtbnhlpehccohjaaLg
noncomputable section
open Go Go.Lift Go.Proofs.YtbnhlpehccohjaaPx

theorem zv3 (N : Nat) {a b : Int} (ha : I64 a) (hb : I64 b) : zef N a b = some (zmv (a + b)) := by
  simp only [zef, zhl, zhk, zhj, zhi, zrf, zmv, I64, Bool.cond_eq_ite, decide_eq_true_eq, Bool.false_eq_true, if_false] at *
  repeat' split
  all_goals simp only [Option.some.injEq]
  all_goals omega

theorem z10g (N : Nat) (b : Bool) : zpv N b = some (if b then -9223372036854775808 else 9223372036854775807) := by
  cases b <;> rfl

theorem zxx (N : Nat) {a b : Int} (ha : I64 a) (hb : I64 b) (ha0 : a ≠ 0) (hb0 : b ≠ 0) : z4i N a b = some (decide (¬ I64 (a * b))) := by
  have hm : ∀ {b : Int}, b = -1 -> I64 b -> ¬ I64 (-9223372036854775808 * b) := by intro b h _; subst h; unfold I64; omega
  simp only [z4i, z5u, z5t, Bool.cond_eq_ite, beq_iff_eq, Option.some.injEq]
  by_cases h1 : a = -9223372036854775808 /\ b = -1
  . obtain ⟨rfl, rfl⟩ := h1
    simp [I64]
  by_cases h2 : b = -9223372036854775808 /\ a = -1
  . obtain ⟨rfl, rfl⟩ := h2
    simp [I64]
  have e : ((IntKind.wrap .i64 ((IntKind.wrap .i64 (a * b)).tdiv b)) != a) = decide (¬ I64 (a * b)) := by
    rw [Bool.eq_iff_iff, bne_iff_ne, decide_eq_true_eq]
    exact zqm ha hb hb0 h1
  have hab : ∀ (X Y : Option Bool), (if a = -9223372036854775808 then if b = -1 then X else if b = -9223372036854775808 then (if (a == -1) = true then X else Y) else Y else if b = -9223372036854775808 then (if (a == -1) = true then X else Y) else Y) = Y := by
    intro X Y
    repeat' split
    all_goals first
      | rfl
      | (exfalso; simp_all)
  have := hab (some true) (if b = 0 then none else some ((IntKind.wrap .i64 ((IntKind.wrap .i64 (a * b)).tdiv b)) != a))
  rw [if_neg hb0, e] at this
  rw [<- this]
  rw [if_neg hb0, e]
  repeat' split
  all_goals first
    | rfl
    | (exfalso; simp_all)

theorem zux (N : Nat) {a b : Int} (ha : I64 a) (hb : I64 b) : zee N a b = some (zmv (a * b)) := by
  simp only [zee, zhg, zhf, Bool.cond_eq_ite, beq_iff_eq]
  by_cases ha0 : a = 0
  . subst ha0; simp [zmv]
  by_cases hb0 : b = 0
  . subst hb0; simp [zmv]
  rw [if_neg ha0, if_neg hb0, zxx N ha hb ha0 hb0]
  simp only [Option.bind_some, z10g, decide_eq_true_eq]
  by_cases hi : I64 (a * b)
  . rw [if_neg (by simpa using hi), z9m hi, z13u hi]
  . rw [if_pos hi]
    have hs := zyu ha0 hb0
    rcases hs with ⟨h, hp⟩ | ⟨h, hp⟩
    . rw [z13v (by unfold I64 at hi; omega)]
      rcases h with ⟨h1, h2⟩ | ⟨h1, h2⟩
      . simp [show ¬ a < 0 by omega, show ¬ b < 0 by omega]
      . simp [h1, h2]
    . rw [z13t (by unfold I64 at hi; omega)]
      rcases h with ⟨h1, h2⟩ | ⟨h1, h2⟩
      . simp [show ¬ a < 0 by omega, h2]
      . simp [h1, show ¬ b < 0 by omega]

end
end Go.Proofs.YtbnhlpehccohjaaLg

set_option linter.all false
namespace Go.Proofs.YtbnhlpehccohjaaPx
noncomputable section
open Go Go.Lift

theorem zkx {i : Nat} (h : i < 9223372036854775807) : IntKind.wrap .i64 ((i : Int) + 1) = ((i + 1 : Nat) : Int) := by
  rw [z9m (by unfold I64; omega)]; omega

theorem z114 {α : Type} (l : List α) (d : α) (i : Nat) (h : i < l.length) : l.getD i d ∈ l := by
  rw [List.getD_eq_getElem?_getD, List.getElem?_eq_getElem h]; simp

theorem zsw {α : Type} (l : List α) (d : α) (i : Nat) (h : i < l.length) : l.drop i = l.getD i d :: l.drop (i + 1) := by
  rw [List.getD_eq_getElem?_getD, List.getElem?_eq_getElem h, Option.getD_some, List.drop_eq_getElem_cons h]

theorem zsv {α : Type} (l : List α) {i : Nat} (h : l.length <= i) : l.drop i = [] := List.drop_of_length_le h

theorem z61 {p : Prop} [Decidable p] (h : p) : decide p = true := decide_eq_true h
theorem z8r {p : Prop} [Decidable p] (h : ¬ p) : decide p = false := decide_eq_false h

theorem z118 {α : Type} (l : List α) (n : Nat) : cut l 0 n = l.take n := by simp [cut]

end
end Go.Proofs.YtbnhlpehccohjaaPx

set_option linter.all false
namespace Go.Proofs.YtbnhlpehccohjaaLg
noncomputable section
open Go Go.Lift Go.Proofs.YtbnhlpehccohjaaPx

abbrev BK : Type := Int × Int × Int × Int × Unit
abbrev tB : T := .pair (.int .i64) (.pair (.int .i64) (.pair (.int .i64) (.pair (.int .i64) .unit)))

def zkw (n : Int) : Prop := 0 <= n /\ n <= 1099511627776
def z4y (b : BK) : Prop := zkw b.1 /\ zkw b.2.1 /\ zkw b.2.2.2.1 /\ 0 <= b.2.2.1 /\ b.2.2.1 <= b.1
instance (n : Int) : Decidable (zkw n) := by unfold zkw; infer_instance
instance (b : BK) : Decidable (z4y b) := by unfold z4y; infer_instance
def W4 (b : BK) : Prop := I64 b.1 /\ I64 b.2.1 /\ I64 b.2.2.1 /\ I64 b.2.2.2.1

theorem zxk (N : Nat) (n : Int) : z2r N n = some (decide (zkw n)) := by
  unfold z2r zkw
  by_cases h : 0 <= n
  . rw [z1q (z61 h)]; simp [h]
  . rw [z2n (z8r h)]; simp [h]

theorem zv7 (N : Nat) (b : BK) : z4f N b = some (decide (z4y b)) := by
  simp only [z4f, zxk, Option.bind_some, z4y]
  by_cases h1 : zkw b.1 <;> by_cases h2 : zkw b.2.1 <;> by_cases h3 : zkw b.2.2.2.1 <;> by_cases h4 : 0 <= b.2.2.1 <;> simp [h1, h2, h3, h4]

def atB (b : BK) (now : Int) : BK :=
 if z4y b /\ b.2.2.2.1 < now /\ now <= 1099511627776 then (b.1, b.2.1, min b.1 (b.2.2.1 + b.2.1 * (now - b.2.2.2.1)), now, ()) else b

theorem at_eq (N : Nat) (b : BK) {now : Int} (hn : I64 now) : zcr N b now = some (atB b now) := by
  simp only [zcr, zcq, zcp, zv7, Option.bind_some]
  unfold atB
  by_cases hr : z4y b
  . rw [z2n (by simp [hr])]
    by_cases h1 : now <= b.2.2.2.1
    . rw [z1q (z61 h1), if_neg (by omega)]; rfl
    rw [z2n (z8r h1)]
    by_cases h2 : 1099511627776 < now
    . rw [z1q (z61 h2), if_neg (by omega)]
    rw [z2n (z8r h2), if_pos ⟨hr, by omega, by omega⟩]
    obtain ⟨⟨c0, c1⟩, ⟨f0, f1⟩, ⟨a0, a1⟩, g0, g1⟩ := hr
    have hp : 0 <= b.2.1 * (now - b.2.2.2.1) := Int.mul_nonneg f0 (by omega)
    rw [z9m (x := now - b.2.2.2.1) (by unfold I64; omega), zux _ (by unfold I64; omega) (by unfold I64; omega), Option.bind_some, zv3 _ (by unfold I64; omega) (zvt _), Option.bind_some]
    generalize b.2.1 * (now - b.2.2.2.1) = p at *
    have e : (if b.1 < zmv (b.2.2.1 + zmv p) then b.1 else zmv (b.2.2.1 + zmv p)) = min b.1 (b.2.2.1 + p) := by
      unfold zmv
      repeat' split
      all_goals omega
    rw [e]
  . rw [z1q (by simp [hr]), if_neg (fun h => hr h.1)]; rfl

theorem zv8 {b : BK} (now : Int) (h : z4y b) : z4y (atB b now) := by
  unfold atB
  split
  . rename_i hc
    obtain ⟨⟨c0, c1⟩, ⟨f0, f1⟩, ⟨a0, a1⟩, g0, g1⟩ := h
    have hp : 0 <= b.2.1 * (now - b.2.2.2.1) := Int.mul_nonneg f0 (by omega)
    exact ⟨⟨c0, c1⟩, ⟨f0, f1⟩, ⟨by dsimp only; omega, by dsimp only; omega⟩, by dsimp only; omega, by dsimp only; omega⟩
  . exact h

def z8l (b : BK) (now : Int) : BK × Bool × Unit :=
 if z4y b /\ 0 < (atB b now).2.2.1 then (((atB b now).1, (atB b now).2.1, (atB b now).2.2.1 - 1, (atB b now).2.2.2), true, ()) else (atB b now, false, ())

theorem zwe {b : BK} {now : Int} (h : z4y (atB b now)) : z4y b := by
  unfold atB at h
  split at h
  . rename_i hc; exact hc.1
  . exact h

theorem z138 (N : Nat) (b : BK) {now : Int} (hn : I64 now) : z2s N b now = some (z8l b now) := by
  simp only [z2s, z8s, at_eq N b hn, Option.bind_some, zv7]
  unfold z8l
  by_cases hr : z4y b
  . have hr' := zv8 now hr
    rw [z1q (z61 hr')]
    obtain ⟨hc, _, _, g0, g1⟩ := hr'
    generalize atB b now = q at *
    obtain ⟨c, f, h, t, u⟩ := q
    dsimp only at *
    obtain ⟨q1, q2⟩ := hc
    rw [z9m (x := h - 1) (by unfold I64; omega)]
    have hm : (if (0 : Int) > h - 1 then (0 : Int) else h - 1) = max (h - 1) 0 := by split <;> omega
    rw [hm]
    by_cases h0 : 0 < h
    . rw [if_pos ⟨hr, h0⟩, show max (h - 1) 0 = h - 1 by omega]
      have : eqD tB (c, f, h - 1, t, u) (c, f, h, t, u) = false := by
        rw [Bool.eq_false_iff]
        intro e
        have := (zie tB _ _ rfl).1 e
        have h3 : h - 1 = h := congrArg (fun q : BK => q.2.2.1) this
        omega
      rw [this]; rfl
    . rw [if_neg (fun hh => h0 hh.2), show max (h - 1) 0 = h by omega, zvs (t := tB) rfl]
      rfl
  . have hr' : ¬ z4y (atB b now) := fun h => hr (zwe h)
    rw [z2n (z8r hr'), if_neg (fun h => hr h.1), zvs (t := tB) rfl]
    rfl


def zx1 (t from_ long : Int) : Bool := decide (from_ <= t /\ t - from_ <= long)

structure Win (from_ long : Int) (b : BK) (n : Int) : Prop where
  right : z4y b
  pos : 0 <= n
  ahead : b.2.2.2.1 < from_ -> n = 0
  most : n <= b.1 + b.2.1 * long
  now : from_ <= b.2.2.2.1 -> b.2.2.2.1 - from_ <= long -> n + b.2.2.1 <= b.1 + b.2.1 * (b.2.2.2.1 - from_)

theorem zuj {b : BK} (now : Int) (h : z4y b) : b.2.2.2.1 <= (atB b now).2.2.2.1 /\ (atB b now).1 = b.1 /\ (atB b now).2.1 = b.2.1 := by
  unfold atB; split
  . rename_i hc; exact ⟨by dsimp only; omega, rfl, rfl⟩
  . exact ⟨Int.le_refl _, rfl, rfl⟩

theorem z146 {from_ long : Int} {b : BK} {n : Int} (hf : 0 <= from_) (hl : 0 <= long) (h : Win from_ long b n) (now : Int) : Win from_ long (atB b now) n := by
  obtain ⟨hr, h0, ha, hm, hn⟩ := h
  have hr' := zv8 now hr
  obtain ⟨ht, hc, hfi⟩ := zuj now hr
  have hr2 := hr'
  obtain ⟨⟨c0, c1⟩, ⟨f0, f1⟩, ⟨a0, a1⟩, g0, g1⟩ := hr
  unfold atB at *
  split at hr'
  . rename_i hcnd
    rw [if_pos hcnd] at *
    refine ⟨hr2, h0, fun h => ha (by dsimp only at h; omega), hm, fun h1 h2 => ?_⟩
    dsimp only at *
    by_cases h3 : b.2.2.2.1 < from_
    . have := ha h3
      have hp : 0 <= b.2.1 * (now - from_) := Int.mul_nonneg f0 (by omega)
      omega
    . have := hn (by omega) (by omega)
      have hd : b.2.1 * (now - from_) = b.2.1 * (b.2.2.2.1 - from_) + b.2.1 * (now - b.2.2.2.1) := by rw [<- Int.mul_add]; congr 1; omega
      omega
  . rename_i hcnd
    rw [if_neg hcnd] at *
    exact ⟨hr2, h0, ha, hm, hn⟩

theorem z107 {from_ long : Int} {b : BK} {n : Int} (hf : 0 <= from_) (hl : 0 <= long) (h : Win from_ long b n) (now : Int) :
    Win from_ long (z8l b now).1 (if (z8l b now).2.1 = true /\ zx1 (z8l b now).1.2.2.2.1 from_ long = true then n + 1 else n) /\ b.2.2.2.1 <= (z8l b now).1.2.2.2.1 := by
  have hw := z146 hf hl h now
  have ht := (zuj now h.right).1
  unfold z8l
  by_cases h0 : z4y b /\ 0 < (atB b now).2.2.1
  . rw [if_pos h0]
    obtain ⟨hr, p0, ha, hm, hn⟩ := hw
    generalize atB b now = q at *
    obtain ⟨c, f, x, t, u⟩ := q
    obtain ⟨⟨c0, c1⟩, ⟨f0, f1⟩, ⟨a0, a1⟩, g0, g1⟩ := hr
    dsimp only at *
    refine ⟨?_, ht⟩
    by_cases hin : from_ <= t /\ t - from_ <= long
    . rw [if_pos ⟨rfl, by simp only [zx1, decide_eq_true_eq]; exact hin⟩]
      have := hn hin.1 hin.2
      have hp : f * long = f * (t - from_) + f * (long - (t - from_)) := by rw [<- Int.mul_add]; congr 1; omega
      have hp0 : 0 <= f * (long - (t - from_)) := Int.mul_nonneg f0 (by omega)
      exact ⟨⟨⟨c0, c1⟩, ⟨f0, f1⟩, ⟨a0, a1⟩, by dsimp only; omega, by dsimp only; omega⟩, by omega, fun hh => by dsimp only at hh; omega, by dsimp only; omega, fun _ _ => by dsimp only; omega⟩
    . rw [if_neg (fun hh => hin (by simpa [zx1] using hh.2))]
      exact ⟨⟨⟨c0, c1⟩, ⟨f0, f1⟩, ⟨a0, a1⟩, by dsimp only; omega, by dsimp only; omega⟩, p0, ha, hm, fun h1 h2 => absurd ⟨h1, h2⟩ hin⟩
  . rw [if_neg h0]
    refine ⟨?_, ht⟩
    rw [if_neg (fun hh => by cases hh.1)]
    exact hw

end
end Go.Proofs.YtbnhlpehccohjaaLg
