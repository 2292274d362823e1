import Derived.Test.YtkipbccgnekoaaaGreatDoorLgPrPrb4
import Derived.Test.YtkipbccgnekoaaaGreatDoorLgW
set_option linter.all false
set_option maxRecDepth 100000
namespace Go.Proofs.YtkipbccgnekoaaaGreatDoorLg
noncomputable section
open Go Go.Lift

theorem zqf {N : Nat} {key s : List UInt8} {e : Int} {w : World} {S : Hp} (hS : Sub S (hp w)) (hg : GlobOk glob S) (he : z6s N key s = some e) :
    Calls Tryz.prog 103 #[.string ⟨⟨key⟩⟩, .string ⟨⟨s⟩⟩] w fun r w' => r = .returned (.int .i64 e) /\ Go.RowKit.Below w.heap.size w w' /\ ∃ S', Sub S S' /\ Sub S' (hp w') /\ ∀ b, S' b ≠ none -> S b ≠ none \/ w.heap.size <= b := by
  have h := (zum N).2 w S (mkS SQ0 0 (key, s, ())) [.string ⟨⟨key⟩⟩, .string ⟨⟨s⟩⟩] (fun _ => []) ⟨rfl, fun i x hx => ?_, fun _ _ => rfl, (fun i j b hb => by cases hb), fun _ => .nil, (fun i b hb => by cases hb)⟩ hS hg
  . have h2 := h e (by show z6s N key s = some e; exact he)
    refine h2.mono ?_
    rintro r w' ⟨v, S', o, ob', rfl, hwf, h3, h4, h5, ⟨⟨hv, _⟩, _⟩, _⟩
    have hv' := VR.int_inv hv
    subst hv'
    refine ⟨rfl, ⟨hwf.os, hwf.tape, hwf.output, hwf.size, fun k hk => hwf.same k hk (by rintro ⟨i, hi⟩; cases hi)⟩, S', h3, h4, fun b hb => ?_⟩
    rcases h5 b hb with h | ⟨i, hi⟩ | h
    . exact .inl h
    . cases hi
    . exact .inr h
  . match i with
    | 0 => simp [mkS, z3d, AS.mk] at hx; subst hx; exact ⟨⟨_, rfl, VR.str, rfl⟩, rfl⟩
    | 1 => simp [mkS, z3d, AS.mk] at hx; subst hx; exact ⟨⟨_, rfl, VR.str, rfl⟩, rfl⟩
    | i + 2 => simp [mkS, z3d] at hx

theorem zcl {h S : Hp} {tv : Nat -> Value} {b E : Nat} {t : T} {x : t.den} {v : Value} (ht : t.isAgg = false) (hb : h b = some (.cells #[v] E (0, 0))) (hv : Rd S t x [v]) : ARel h S tv (.box t x) (.pointer (some ⟨b, 0, none⟩)) [b] :=
  ⟨b, #[v], E, (0, 0), [], rfl, rfl, hb, (fun i _ hq => by have := hq.2; omega), RdO.of_rd t x _ hv⟩

theorem zkp {h S : Hp} {tv : Nat -> Value} {t : T} {x : t.den} {b : Nat} {o : List Nat} (ht : noOwn t = true) (hs : t.size = 1) (hx : ARel h S tv (.box t x) (.pointer (some ⟨b, 0, none⟩)) o) : ∃ v E fr, h b = some (.cells #[v] E fr) /\ Rd S t x [v] := by
  obtain ⟨b', cs, E, fr, bs, _, e, hb, _, hr⟩ := hx
  cases e
  obtain ⟨_, hr⟩ := RdO.rd t x _ _ ht hr
  have hl := hr.length
  rw [hs] at hl
  obtain ⟨v, hv⟩ := List.length_eq_one_iff.1 hl
  have : cs = #[v] := by apply Array.toList_inj.1; rw [hv]
  subst this
  exact ⟨v, E, fr, hb, hr⟩

theorem zwh (N : Nat) : Contract Tryz.prog glob 79 (zml N) := by
  refine Contract.hand ⟨_, Tryz.func79, by kernel_rfl, by decide⟩ ?_
  intro w S vals ob x y har hS hg hy
  obtain ⟨key, s, u⟩ := x
  cases u
  unfold z8k at hy
  dsimp only at hy
  cases he : z6s N key s with
  | none => rw [he] at hy; cases hy
  | some e =>
  rw [he, Option.bind_some] at hy
  cases ho : zdw N e key s [] with
  | none => rw [ho] at hy; cases hy
  | some z =>
  rw [ho, Option.bind_some] at hy
  cases hy
  obtain ⟨⟨v0, hv0, hA0, ho0⟩, _⟩ := har.rel 0 _ rfl
  obtain ⟨⟨v1, hv1, hA1, ho1⟩, _⟩ := har.rel 1 _ rfl
  have hlen := har.len
  obtain ⟨u0, u1, rfl⟩ : ∃ u0 u1, vals = [u0, u1] := by
    have : vals.length = 2 := by simpa [mkS, z3d] using hlen.symm
    match vals, this with
    | [a, b], _ => exact ⟨a, b, rfl⟩
  simp at hv0 hv1
  subst hv0; subst hv1
  have e0 := hA0.str_inv
  have e1 := hA1.str_inv
  subst e0; subst e1
  have hnone : ∀ i, ob i = [] := by
    intro i
    match i with
    | 0 => exact ho0
    | 1 => exact ho1
    | i + 2 => exact har.out _ (by simp [mkS, z3d])
  have hmf : ∀ (fn : Fn) (first cap : Array Value) (w : World), (Instr.makeFunc fn first cap).run Tryz.prog w = .ok (.func fn first cap) w := fun _ _ _ _ => rfl
  obtain ⟨n, hn⟩ : ∃ n, n = w.heap.size := ⟨_, rfl⟩
  have hltS : ∀ b, S b ≠ none -> b < n := fun b hb => by
    cases hs : S b with
    | none => exact absurd hs hb
    | some o => rw [hn]; exact z6q (hS b o hs)
  obtain ⟨W4, hW4⟩ : ∃ W4, W4 = (((w.alloc (.cells #[.string ⟨⟨key⟩⟩] 9)).alloc (.cells #[.string ⟨⟨s⟩⟩] 9)).alloc (.cells #[.string ⟨#[]⟩] 9)).alloc (.cells #[.int .i64 0] 31) := ⟨_, rfl⟩
  have hh : W4.heap = (((w.heap.push (.cells #[.string ⟨⟨key⟩⟩] 9 (0, 0))).push (.cells #[.string ⟨⟨s⟩⟩] 9 (0, 0))).push (.cells #[.string ⟨#[]⟩] 9 (0, 0))).push (.cells #[.int .i64 0] 31 (0, 0)) := by rw [hW4]; rfl
  have z4 : W4.heap.size = n + 4 := by rw [hh, hn]; simp only [Array.size_push]
  have k0 : W4.heap[n]? = some (.cells #[.string ⟨⟨key⟩⟩] 9 (0, 0)) := by rw [hh, hn]; simp only [Array.getElem?_push, Array.size_push]; rw [if_neg (by omega), if_neg (by omega), if_neg (by omega), if_pos trivial]
  have k1 : W4.heap[n + 1]? = some (.cells #[.string ⟨⟨s⟩⟩] 9 (0, 0)) := by rw [hh, hn]; simp only [Array.getElem?_push, Array.size_push]; rw [if_neg (by omega), if_neg (by omega), if_pos trivial]
  have k2 : W4.heap[n + 2]? = some (.cells #[.string ⟨#[]⟩] 9 (0, 0)) := by rw [hh, hn]; simp only [Array.getElem?_push, Array.size_push]; rw [if_neg (by omega), if_pos (by first | omega | trivial)]
  have k3 : W4.heap[n + 3]? = some (.cells #[.int .i64 0] 31 (0, 0)) := by rw [hh, hn]; simp only [Array.getElem?_push, Array.size_push]; rw [if_pos (by first | omega | trivial)]
  have kl : ∀ b, b < n -> W4.heap[b]? = w.heap[b]? := fun b hb => by
    rw [hh]; simp only [Array.getElem?_push, Array.size_push]
    rw [if_neg (by omega), if_neg (by omega), if_neg (by omega), if_neg (by omega)]
  have hS4 : Sub S (hp W4) := fun b o hb => by
    have h1 := hS b o hb
    simp only [hp] at h1 ⊢
    rw [kl b (hltS b (by rw [hb]; simp))]; exact h1
  have t4 : W4.tape = w.tape /\ W4.os = w.os /\ W4.output = w.output := by rw [hW4]; exact ⟨rfl, rfl, rfl⟩
  have hck := zqf (N := N) hS4 hg he
  have main : ∀ w5, Go.RowKit.Below W4.heap.size W4 w5 -> (∃ S', Sub S S' /\ Sub S' (hp w5) /\ ∀ b, S' b ≠ none -> S b ≠ none \/ W4.heap.size <= b) →
      CallsD Tryz.prog 101 #[.pointer (some ⟨n + 3, 0, none⟩), .pointer (some ⟨n, 0, none⟩), .pointer (some ⟨n + 1, 0, none⟩), .pointer (some ⟨n + 2, 0, none⟩)] .returning
        ((w5.setCell ⟨n + 2, 0, none⟩ (.string ⟨#[]⟩)).setCell ⟨n + 3, 0, none⟩ (.int .i64 e)) fun r u w7 => (∃ v, r = .returned v) /\ u = .returning /\ w7.cell? ⟨n + 2, 0, none⟩ = some (.string ⟨⟨z.2.2.2.2.1⟩⟩) /\ w7.cell? ⟨n + 3, 0, none⟩ = some (.int .i64 z.2.1) ∧
          Lift.Ends w S (mkS SQ0 0 (key, s, ())) [.string ⟨⟨key⟩⟩, .string ⟨⟨s⟩⟩] ob (z2k (.tup [.str, .int .i64]) 2 (z.2.2.2.2.1, z.2.1, ())).1 (z2k (.tup [.str, .int .i64]) 2 (z.2.2.2.2.1, z.2.1, ())).2 (.returned (.tuple #[.string ⟨⟨z.2.2.2.2.1⟩⟩, .int .i64 z.2.1])) w7 := by
    rintro w5 hbel ⟨S5, hS5, hS5w, hnew⟩
    have b0 := hbel.block n (by omega)
    have b1 := hbel.block (n + 1) (by omega)
    have b2 := hbel.block (n + 2) (by omega)
    have b3 := hbel.block (n + 3) (by omega)
    rw [k0] at b0; rw [k1] at b1; rw [k2] at b2; rw [k3] at b3
    have hz5 := hbel.size
    obtain ⟨w6, hw6⟩ : ∃ w6, w6 = (w5.setCell ⟨n + 2, 0, none⟩ (.string ⟨#[]⟩)).setCell ⟨n + 3, 0, none⟩ (.int .i64 e) := ⟨_, rfl⟩
    rw [<- hw6]
    have e5 := zl6 (w := w5) (b := n + 2) (off := 0) (.string ⟨#[]⟩) b2
    have e6 := zl6 (w := w5.setCell ⟨n + 2, 0, none⟩ (.string ⟨#[]⟩)) (b := n + 3) (off := 0) (.int .i64 e) (by rw [e5, zw (by omega)]; exact b3)
    rw [e6, e5] at hw6
    have m2 : hp w6 (n + 2) = some (.cells #[.string ⟨#[]⟩] 9 (0, 0)) := by rw [hw6, zw (by omega)]; exact z29 b2
    have m3 : hp w6 (n + 3) = some (.cells #[.int .i64 e] 31 (0, 0)) := by rw [hw6]; exact z29 (o' := .cells #[.int .i64 0] 31 (0, 0)) (by rw [zw (by omega)]; exact b3)
    have mo : ∀ b, b ≠ n + 2 -> b ≠ n + 3 -> hp w6 b = hp w5 b := fun b h1 h2 => by rw [hw6, zw h2, zw h1]
    have m0 : hp w6 n = some (.cells #[.string ⟨⟨key⟩⟩] 9 (0, 0)) := by rw [mo n (by omega) (by omega)]; exact b0
    have m1 : hp w6 (n + 1) = some (.cells #[.string ⟨⟨s⟩⟩] 9 (0, 0)) := by rw [mo (n + 1) (by omega) (by omega)]; exact b1
    have mz : w6.heap.size = w5.heap.size := by rw [hw6]; simp [z1r]
    have mt : w6.tape = w5.tape /\ w6.os = w5.os /\ w6.output = w5.output := by rw [hw6]; exact ⟨rfl, rfl, rfl⟩
    have hS5none : ∀ b, n <= b -> b < n + 4 -> S5 b = none := fun b h1 h2 => by
      cases hs : S5 b with
      | none => rfl
      | some o =>
        rcases hnew b (by rw [hs]; simp) with h | h
        . have := hltS b h; omega
        . omega
    have hS6 : Sub S5 (hp w6) := fun b o hb => by
      rw [mo b (fun h => by subst h; rw [hS5none (n + 2) (by omega) (by omega)] at hb; cases hb) (fun h => by subst h; rw [hS5none (n + 3) (by omega) (by omega)] at hb; cases hb)]
      exact hS5w b o hb
    have hc := zsl N w6 S5 (mkS SQ6 0 (e, key, s, [], ())) [.pointer (some ⟨n + 3, 0, none⟩), .pointer (some ⟨n, 0, none⟩), .pointer (some ⟨n + 1, 0, none⟩), .pointer (some ⟨n + 2, 0, none⟩)]
      (fun i => match i with | 0 => [n + 3] | 1 => [n] | 2 => [n + 1] | 3 => [n + 2] | _ => []) ⟨rfl, fun i x hx => ?_, fun i hi => ?_, fun i j b hi hj => ?_, fun i => ?_, fun i b hb => ?_⟩ hS6 (hg.mono hS5) z (by show zdw N e key s [] = some z; exact ho)
    . refine CallsD.mono hc ?_
      rintro r u w7 ⟨rfl, v, S7, o, ob7, rfl, hwf, hS57, hS7, hnew7, _, _, _, houts, _⟩
      obtain ⟨x3, v3, hx3, hv3, _, hA3⟩ := houts 3 _ rfl rfl
      obtain ⟨x0, v0, hx0, hv0', _, hA0'⟩ := houts 0 _ rfl rfl
      have hx3' : x3 = .box .str z.2.2.2.2.1 := (Option.some.inj hx3).symm
      have hx0' : x0 = .box (.int .i64) z.2.1 := (Option.some.inj hx0).symm
      have hv3' : v3 = .pointer (some ⟨n + 2, 0, none⟩) := (Option.some.inj hv3).symm
      have hv0'' : v0 = .pointer (some ⟨n + 3, 0, none⟩) := (Option.some.inj hv0').symm
      subst hx3'; subst hx0'; subst hv3'; subst hv0''
      obtain ⟨q3, E3, f3, g3, h3⟩ := zkp rfl rfl hA3
      obtain ⟨q0, E0, f0, g0, h0⟩ := zkp rfl rfl hA0'
      have h3' : q3 = .string ⟨⟨z.2.2.2.2.1⟩⟩ := by simpa [Rd] using h3
      have h0' : q0 = .int .i64 z.2.1 := by simpa [Rd] using h0
      subst h3'; subst h0'
      refine ⟨⟨v, rfl⟩, rfl, by simp only [hp] at g3; simp [World.cell?, g3], by simp only [hp] at g0; simp [World.cell?, g0], _, S7, [], ob, rfl, ⟨?_, fun b hb _ => ?_, ?_, ?_, ?_⟩, hS5.trans hS57, hS7, fun b hb => ?_, ⟨⟨rfl, _, rfl, .cons VR.str (.cons VR.int .nil)⟩, rfl⟩, (fun k hk => by cases hk), .nil, ?_, ?_, har.inj, har.nd, fun i hi => hi⟩
      . have := hwf.size; omega
      . have h1 := hwf.same b (by omega) (by
          rintro ⟨i, hi⟩
          match i with
          | 0 => simp at hi; omega
          | 1 => simp at hi; omega
          | 2 => simp at hi; omega
          | 3 => simp at hi; omega
          | i + 4 => simp at hi)
        have h2 := mo b (by omega) (by omega)
        simp only [hp] at h2
        rw [h1, h2, hbel.block b (by omega), kl b (by omega)]
      . rw [hwf.tape, mt.1, hbel.tape, t4.1]
      . rw [hwf.os, mt.2.1, hbel.os, t4.2.1]
      . rw [hwf.output, mt.2.2, hbel.output, t4.2.2]
      . rcases hnew7 b hb with h | ⟨i, hi⟩ | h
        . rcases hnew b h with h | h
          . exact .inl h
          . exact .inr (.inr (by omega))
        . refine .inr (.inr ?_)
          match i with
          | 0 => simp at hi; omega
          | 1 => simp at hi; omega
          | 2 => simp at hi; omega
          | 3 => simp at hi; omega
          | i + 4 => simp at hi
        . exact .inr (.inr (by omega))
      . intro i x hx hbx
        match i with
        | 0 => simp [mkS, z3d, AS.mk] at hx; subst hx; cases hbx
        | 1 => simp [mkS, z3d, AS.mk] at hx; subst hx; cases hbx
        | i + 2 => simp [mkS, z3d] at hx
      . intro i k hk
        rw [hnone i] at hk; cases hk
    . match i with
      | 0 => simp [mkS, z3d, AS.mk] at hx; subst hx; exact ⟨⟨_, rfl, zcl rfl m3 rfl⟩, rfl⟩
      | 1 => simp [mkS, z3d, AS.mk] at hx; subst hx; exact ⟨⟨_, rfl, zcl rfl m0 rfl⟩, rfl⟩
      | 2 => simp [mkS, z3d, AS.mk] at hx; subst hx; exact ⟨⟨_, rfl, zcl rfl m1 rfl⟩, rfl⟩
      | 3 => simp [mkS, z3d, AS.mk] at hx; subst hx; exact ⟨⟨_, rfl, zcl rfl m2 rfl⟩, rfl⟩
      | i + 4 => simp [mkS, z3d] at hx
    . match i with
      | 0 => simp [mkS, z3d] at hi
      | 1 => simp [mkS, z3d] at hi
      | 2 => simp [mkS, z3d] at hi
      | 3 => simp [mkS, z3d] at hi
      | i + 4 => rfl
    . match i, j with
      | 0, 0 => rfl
      | 1, 1 => rfl
      | 2, 2 => rfl
      | 3, 3 => rfl
      | i + 4, _ => cases hi
      | 0, 1 => simp at hi hj; omega
      | 0, 2 => simp at hi hj; omega
      | 0, 3 => simp at hi hj; omega
      | 1, 0 => simp at hi hj; omega
      | 1, 2 => simp at hi hj; omega
      | 1, 3 => simp at hi hj; omega
      | 2, 0 => simp at hi hj; omega
      | 2, 1 => simp at hi hj; omega
      | 2, 3 => simp at hi hj; omega
      | 3, 0 => simp at hi hj; omega
      | 3, 1 => simp at hi hj; omega
      | 3, 2 => simp at hi hj; omega
      | 0, j + 4 => cases hj
      | 1, j + 4 => cases hj
      | 2, j + 4 => cases hj
      | 3, j + 4 => cases hj
    . match i with
      | 0 => simp
      | 1 => simp
      | 2 => simp
      | 3 => simp
      | i + 4 => exact .nil
    . match i with
      | 0 => simp at hb; subst hb; exact hS5none _ (by omega) (by omega)
      | 1 => simp at hb; subst hb; exact hS5none _ (by omega) (by omega)
      | 2 => simp at hb; subst hb; exact hS5none _ (by omega) (by omega)
      | 3 => simp at hb; subst hb; exact hS5none _ (by omega) (by omega)
      | i + 4 => cases hb
  have cells : ∀ w5, Go.RowKit.Below W4.heap.size W4 w5 -> w5.cell? ⟨n + 2, 0, none⟩ = some (.string ⟨#[]⟩) /\ w5.frozen? ⟨n + 2, 0, none⟩ = false /\ w5.cell? ⟨n + 3, 0, none⟩ = some (.int .i64 0) /\ w5.frozen? ⟨n + 3, 0, none⟩ = false := by
    intro w5 hbel
    have b2 := hbel.block (n + 2) (by omega)
    have b3 := hbel.block (n + 3) (by omega)
    rw [k2] at b2; rw [k3] at b3
    exact ⟨by simp [World.cell?, b2], by simp [World.frozen?, b2], by simp [World.cell?, b3], by simp [World.frozen?, b3]⟩
  clear k0 k1 k2 k3 kl z4 t4 hS4 hlen har hnone ho he hA0 hA1
  subst hW4; subst hn
  go_enter_defers Tryz.func79, Tryz.ntmps79
  go_wp2_with (go_at_call 103; refine hck.mono ?_; rintro r w5 ⟨rfl, hbel, hS5⟩; obtain ⟨d2, d2', d3, d3'⟩ := cells w5 hbel; have HM := Go.Lib.hid (main w5 hbel hS5); clear hck cells main hbel hS5)
  refine leaves_cons (f := 101) (args := #[.pointer (some ⟨w.heap.size + 1 + 1 + 1, 0, none⟩), .pointer (some ⟨w.heap.size, 0, none⟩), .pointer (some ⟨w.heap.size + 1, 0, none⟩), .pointer (some ⟨w.heap.size + 1 + 1, 0, none⟩)]) (by simp) (by simp [go_sem]) ?_
  refine (HM.out).mono ?_
  rintro r u w7 ⟨⟨v, rfl⟩, rfl, c2, c3, hend⟩
  refine ⟨_, ?_, hend⟩
  simp [results, Tryz.results79, go_sem, c2, c3]

def zpd : Code := (Tryz.f86.body).getD .skip

def L_68 : List (List Nat × List Nat) := [([0], [0, 1]), ([0, 0, 1], [13, 12, 11, 1, 0]), ([0, 1, 0, 1], [13, 12, 11, 1, 0]), ([0, 0, 0, 1, 0, 1], [14, 13, 11, 1, 0, 12]), ([0, 1, 0, 0, 1, 0, 1], [13, 11, 1, 0, 12]), ([1, 0, 1, 0, 0, 1, 0, 1], [0]), ([0, 0, 0, 1, 1, 0, 0, 1, 0, 1], [6, 1, 0, 5, 13, 12, 11]), (z1gw, [31, 5, 0, 13, 12, 11, 1]), ([1, 1, 0, 0, 1, 1, 0, 0, 1, 0, 1], [13, 12, 11, 1, 0]), ([0, 0, 1, 1, 0, 0, 1, 1, 0, 0, 1, 0, 1], [4, 0]), ([1, 0, 1, 1, 0, 0, 1, 1, 0, 0, 1, 0, 1], [4, 0]), ([0, 1, 1, 0, 0, 1, 0, 1], [13, 12, 11, 1, 0]), ([1, 1, 1, 0, 0, 1, 0, 1], [13, 12, 11, 1, 0]), ([1, 0, 1], [0]), ([0, 1, 1], [4, 0]), ([1, 1, 1], [4, 0])]

def z1sc (N : Nat) : Env := z16 tys glob [] [] [] [0] false [] [(123, zd N), (66, zb N), (98, z7 N)]

theorem z1qv (N : Nat) : EnvOk Tryz.prog (z1sc N) := zk mixed zp (FnsOk.nil) (ItsOk.cons (zf N) (ItsOk.cons (ze N) (ItsOk.cons (z8 N) (ItsOk.nil))))

def z62 (N : Nat) (r_ : DT2) (id_ : (List UInt8)) (i : Int) (t : DT1) (x11 : (List DT1)) (x12 : Int) (x13 : Int) (k0 : Bool -> Option (Int × (DT2 × Unit))) : Option (Int × (DT2 × Unit)) :=
 cond (t.1 == id_)
 (cond (inR i (List.length r_.2.1))
 (cond (decide ((Int.toNat i) < (List.length r_.2.1)))
 (k0 (!(List.getD r_.2.1 (Int.toNat i) false)))
 (none))
 (none))
 (k0 false)

def z1nu (N : Nat) (x : z1j SQ19) (K : Ex -> List A -> Option (Int × (DT2 × Unit))) : Option (Int × (DT2 × Unit)) :=
 z62 N x.1 x.2.1 x.2.2.1 x.2.2.2.1 x.2.2.2.2.1 x.2.2.2.2.2.1 x.2.2.2.2.2.2.1 (fun a6 => (K .normal (mkS [(0, .box TT3), (0, .v .str), (3, .v (.int .i64)), (5, .v (.sl TT0)), (0, .v (.int .i64)), (0, .v (.int .i64)), (17, .v .bool)] 2 (x.1, x.2.1, x.2.2.1, x.2.2.2.2.1, x.2.2.2.2.2.1, x.2.2.2.2.2.2.1, a6, ()))))

def z1lx (N : Nat) : Hd (Int × (DT2 × Unit)) := fun st K => (unS SQ19 20 (restr [6, 1, 0, 5, 13, 12, 11] 0 st)).bind fun x => z1nu N x K

def t2_68 (N : Nat) : Tab (Int × (DT2 × Unit)) := []

theorem z1jk {N : Nat} {c : Ctx} (hb : Base Tryz.prog (z1sc N) c) : zo Tryz.prog c (zl zpd z1gw) (z1lx N) :=
  z14 (s := SQ19) (m := 20) (g := z1nu N) [6, 1, 0, 5, 13, 12, 11] (zi hb N (t2_68 N) L_68 zpd TabOk.nil z1gw _ rfl) (fun x K => by kernel_rfl)

def z61 (N : Nat) (r_ : DT2) (id_ : (List UInt8)) (x11 : (List DT1)) (x12 : Int) (x13 : Int) (rec : Int -> Option (Int × (DT2 × Unit))) (k0 : Int -> Option (Int × (DT2 × Unit))) (k1 : Option (Int × (DT2 × Unit))) : Option (Int × (DT2 × Unit)) :=
 cond (decide (x13 < x12))
 (cond (inR x13 (List.length x11))
 (z62 N r_ id_ x13 (List.getD x11 (Int.toNat x13) (([] : List UInt8), (([] : List DT8), (([] : List UInt8), ())))) x11 x12 x13
 (fun x31 => cond x31
 (k0 x13)
 (rec (IntKind.wrap IntKind.i64 (x13 + (1 : Int))))))
 (none))
 (k1)

def za3 (N : Nat) (r_ : DT2) (id_ : (List UInt8)) (x11 : (List DT1)) (x12 : Int) (x13 : Int) (k0 : Int -> Option (Int × (DT2 × Unit))) (k1 : Option (Int × (DT2 × Unit))) : Option (Int × (DT2 × Unit)) :=
 iter (fun (v : Int) r => z61 N r_ id_ x11 x12 v (fun x13 => (r x13)) k0 k1) N x13

def z1oi (N : Nat) (i : (DT2 × (List UInt8) × (List DT1) × Int)) (v : Int) (r : Int -> Option (Int × (DT2 × Unit))) (K : Ex -> List A -> Option (Int × (DT2 × Unit))) : Option (Int × (DT2 × Unit)) :=
 z61 N i.1 i.2.1 i.2.2.1 i.2.2.2 v (fun x13 => (r x13)) (fun a1 => (K .ret (mkS [(0, .box TT3), (3, .v (.int .i64))] 29 (i.1, a1, ())))) (K (.exit 0) (mkS [(0, .box TT3)] 33 (i.1, ())))

def z1ml (N : Nat) : Hd (Int × (DT2 × Unit)) := fun st K => (unS SQ97 20 (restr [13, 12, 11, 1, 0] 0 st)).bind fun x => iter (fun v r => z1oi N ((fun x => (x.1, x.2.1, x.2.2.1, x.2.2.2.1)) x) v r K) N ((fun x => x.2.2.2.2.1) x)

def t1_68 (N : Nat) : Tab (Int × (DT2 × Unit)) := [(z1gw, z1lx N)]

theorem z1k8 {N : Nat} {c : Ctx} (hb : Base Tryz.prog (z1sc N) c) : zo Tryz.prog c (zl zpd [0, 1, 0, 1]) (z1ml N) :=
  z1i (s := SQ97) (m := 20) (z1oi N) [13, 12, 11, 1, 0] N (fun x => (x.1, x.2.1, x.2.2.1, x.2.2.2.1)) (fun x => x.2.2.2.2.1) (fun i v => (i.1, i.2.1, i.2.2.1, i.2.2.2, v, ())) (fun _ => rfl) (zi hb N (t1_68 N) L_68 zpd (TabOk.cons (z1jk hb) TabOk.nil) [0, 0, 1, 0, 1] _ rfl) (fun i v r K => by kernel_rfl)

def z3w (N : Nat) (r_ : DT2) (id_ : (List UInt8)) : Option (Int × (DT2 × Unit)) :=
 za3 N r_ id_ r_.1.2.1 (((List.length r_.1.2.1) : Nat) : Int) (0 : Int)
 (fun x4 => some (x4, (r_, ())))
 (some ((-(1 : Int)), (r_, ())))

def t_68 (N : Nat) : Tab (Int × (DT2 × Unit)) := [([0, 1, 0, 1], z1ml N)]

theorem z1c0 (N : Nat) (x : z1j z10h) : z2j (z1sc N) N (t_68 N) L_68 Tryz.f86 (mkS z10h 0 x) (zdl (.v (.int .i64)) [(0, .box TT3)] 1) = z3w N x.1 x.2.1 := by kernel_rfl

def z95 (N : Nat) : List A -> Res := z12 z10h (fun x => z3w N x.1 x.2.1) (zli (.v (.int .i64)) [(0, .box TT3)] 1)

theorem zhf (N : Nat) : Contract Tryz.prog glob 86 (z95 N) :=
  Contract.of (E := z1sc N) (H := t_68 N) (L := L_68) (N := N) (body := zpd) (K := (zdl (.v (.int .i64)) [(0, .box TT3)] 1)) (z1qv N) Tryz.func86 (by kernel_rfl) (by decide) (fun _ hb => (TabOk.cons (z1k8 hb) TabOk.nil)) (fun x y h => by rw [z1c0]; exact h) (zao (s := (.v (.int .i64))) (os := [(0, .box TT3)]) (m := 1))

def z1e8 : Code := (Tryz.f53.body).getD .skip

def L_69 : List (List Nat × List Nat) := [([0], [0, 1]), ([0, 1], [4]), ([1, 1], [4])]

def E_69 (N : Nat) : Env := z16 tys glob [(45, z32 N)] [] [] [] false [] [(123, zd N), (66, zb N), (98, z7 N)]

theorem z1qu (N : Nat) : EnvOk Tryz.prog (E_69 N) := zk mixed zp (FnsOk.cons (z4j N) (FnsOk.nil)) (ItsOk.cons (zf N) (ItsOk.cons (ze N) (ItsOk.cons (z8 N) (ItsOk.nil))))

def zdv (N : Nat) (of : (List UInt8)) (other : (List UInt8)) : Option (List UInt8) :=
 (z2c N of ([([(98 : UInt8), (105 : UInt8), (110 : UInt8), (100 : UInt8)] : List UInt8), other] : List (List UInt8))).bind fun y =>
 some y

def t_69 (N : Nat) : Tab (List UInt8) := []

theorem z1bz (N : Nat) (x : z1j SQ0) : z2j (E_69 N) N (t_69 N) L_69 Tryz.f53 (mkS SQ0 0 x) (z1h (.v .str) 2) = zdv N x.1 x.2.1 := by kernel_rfl

def zib (N : Nat) : List A -> Res := z12 SQ0 (fun x => zdv N x.1 x.2.1) (z2k (.v .str) 2)

theorem zsh (N : Nat) : Contract Tryz.prog glob 53 (zib N) :=
  Contract.of (E := E_69 N) (H := t_69 N) (L := L_69) (N := N) (body := z1e8) (K := (z1h (.v .str) 2)) (z1qu N) Tryz.func53 (by kernel_rfl) (by decide) (fun _ hb => TabOk.nil) (fun x y h => by rw [z1bz]; exact h) (zm (s := (.v .str)) (m := 2))

def z1e7 : Code := (Tryz.f58.body).getD .skip

def L_70 : List (List Nat × List Nat) := [([0], [0, 1, 5]), ([0, 1], [1, 5, 0]), ([0, 1, 1], [8, 0, 5, 7]), ([0, 0, 1, 1, 1], [29, 0, 5, 7]), ([1, 0, 1, 1, 1], [0, 5, 7]), (z149, [6, 0]), ([1, 0, 1, 0, 1, 1, 1], [6, 0]), ([0, 1, 1, 1, 1], [9, 0, 7]), (z1pm, [35, 0, 9, 7]), (z13u, [0, 9, 7]), (z13w, [6, 0]), ([1, 0, 1, 0, 1, 1, 1, 1, 1], [6, 0]), (PQ91, [0, 9, 7, 10]), (z1fm, [0, 7, 10]), ([0, 1, 1, 1, 1, 1, 1, 1, 1], [0, 10, 12, 11]), ([0, 1, 1, 1, 1, 1, 1, 1, 1, 1], [10, 0, 12, 11]), ([0, 0, 1, 1, 1, 1, 1, 1, 1, 1, 1, 1], [75, 0, 10, 11]), ([1, 0, 1, 1, 1, 1, 1, 1, 1, 1, 1, 1], [0, 10, 11]), ([0, 0, 1, 0, 1, 1, 1, 1, 1, 1, 1, 1, 1, 1], [6, 0]), ([1, 0, 1, 0, 1, 1, 1, 1, 1, 1, 1, 1, 1, 1], [6, 0]), ([0, 1, 1, 1, 1, 1, 1, 1, 1, 1, 1, 1], [0]), ([0, 1, 1, 1, 1, 1, 1, 1, 1, 1, 1, 1, 1], [6, 0]), ([1, 1, 1, 1, 1, 1, 1, 1, 1, 1, 1, 1, 1], [6, 0])]

def E_70 (N : Nat) : Env := z16 tys glob [(53, zib N), (86, z95 N), (79, zml N), (50, zi9 N), (57, zap N), (56, z6x N)] [(11, .str)] [] [0] false [] [(123, zd N), (66, zb N), (98, z7 N)]

theorem z1qt (N : Nat) : EnvOk Tryz.prog (E_70 N) := zk mixed zp (FnsOk.cons (zsh N) (FnsOk.cons (zhf N) (FnsOk.cons (zwh N) (FnsOk.cons (zsf N) (FnsOk.cons (zgn N) (FnsOk.cons (zc6 N) (FnsOk.nil))))))) (ItsOk.cons (zf N) (ItsOk.cons (ze N) (ItsOk.cons (z8 N) (ItsOk.nil))))

def z4l (N : Nat) (r_ : DT2) (before : (List UInt8)) (l : DT8) : Option (Bool × (DT2 × Unit)) :=
 (zdu N before).bind fun y =>
 (z8k N y l.2.1).bind fun y1 =>
 cond (y1.2.1 != (0 : Int))
 (some (false, ((r_.1, (r_.2.1, (r_.2.2.1, (r_.2.2.2.1, ((IntKind.wrap IntKind.i64 (r_.2.2.2.2.1 + (1 : Int))), r_.2.2.2.2.2))))), ())))
 ((z3w N (r_.1, (r_.2.1, (r_.2.2.1, (r_.2.2.2.1, ((IntKind.wrap IntKind.i64 (r_.2.2.2.2.1 + (1 : Int))), r_.2.2.2.2.2))))) l.1).bind fun y2 =>
 cond (decide (y2.1 < (0 : Int)))
 (some (false, (y2.2.1, ())))
 (cond (inR y2.1 (List.length y2.2.1.1.2.1))
 (cond (inR y2.1 (List.length y2.2.1.2.1))
 (cond (decide ((Int.toNat y2.1) < (List.length y2.2.1.2.1)))
 ((z3x N (y2.2.1.1, ((List.set y2.2.1.2.1 (Int.toNat y2.1) true), y2.2.1.2.2)) y1.1 (List.getD y2.2.1.1.2.1 (Int.toNat y2.1) (([] : List UInt8), (([] : List DT8), (([] : List UInt8), ()))))).bind fun y3 =>
 (zdv N y3.2.1.1.1.2.2.1 y3.1.2.1).bind fun y4 =>
 (zbx N (List.getD y2.2.1.1.2.1 (Int.toNat y2.1) (([] : List UInt8), (([] : List DT8), (([] : List UInt8), ())))).2.2.1 y4).bind fun y5 =>
 cond (!y5)
 (some (false, ((y3.2.1.1, (y3.2.1.2.1, (y3.2.1.2.2.1, (y3.2.1.2.2.2.1, ((IntKind.wrap IntKind.i64 (y3.2.1.2.2.2.2.1 + (1 : Int))), y3.2.1.2.2.2.2.2))))), ())))
 (cond (decide ((((List.length y3.2.1.2.2.1) + 1) * 48) <= 70368744177664))
 (some (true, ((y3.2.1.1, (y3.2.1.2.1, ((y3.2.1.2.2.1 ++ ([((List.getD y2.2.1.1.2.1 (Int.toNat y2.1) (([] : List UInt8), (([] : List DT8), (([] : List UInt8), ())))).2.1, (y3.1.1, ()))] : List ((List DT8) × ((List (List UInt8)) × Unit)))), (y3.2.1.2.2.2.1, ((IntKind.wrap IntKind.i64 (y3.2.1.2.2.2.2.1 + (1 : Int))), y3.2.1.2.2.2.2.2))))), ())))
 (none)))
 (none))
 (none))
 (none)))

def t_70 (N : Nat) : Tab (Bool × (DT2 × Unit)) := []

theorem z1by (N : Nat) (x : z1j [(0, .box TT3), (0, .v .str), (0, .v zje)]) : z2j (E_70 N) N (t_70 N) L_70 Tryz.f58 (mkS [(0, .box TT3), (0, .v .str), (0, .v zje)] 0 x) (zdl (.v .bool) [(0, .box TT3)] 2) = z4l N x.1 x.2.1 x.2.2.1 := by kernel_rfl

def za4 (N : Nat) : List A -> Res := z12 [(0, .box TT3), (0, .v .str), (0, .v zje)] (fun x => z4l N x.1 x.2.1 x.2.2.1) (zli (.v .bool) [(0, .box TT3)] 2)

theorem zid (N : Nat) : Contract Tryz.prog glob 58 (za4 N) :=
  Contract.of (E := E_70 N) (H := t_70 N) (L := L_70) (N := N) (body := z1e7) (K := (zdl (.v .bool) [(0, .box TT3)] 2)) (z1qt N) Tryz.func58 (by kernel_rfl) (by decide) (fun _ hb => TabOk.nil) (fun x y h => by rw [z1by]; exact h) (zao (s := (.v .bool)) (os := [(0, .box TT3)]) (m := 2))

def zwr : Code := (Tryz.f87.body).getD .skip

def L_71 : List (List Nat × List Nat) := [([0], [0, 1]), ([0, 0, 1], [8, 7, 1, 0]), ([0, 1, 0, 1], [8, 7, 1, 0]), ([0, 0, 0, 1, 0, 1], [9, 8, 1, 0, 7]), ([0, 1, 0, 0, 1, 0, 1], [8, 1, 0, 7]), ([1, 0, 1, 0, 0, 1, 0, 1], []), ([0, 0, 0, 1, 1, 0, 0, 1, 0, 1], [1, 0, 5, 8, 7]), (z1gw, [16, 5, 8, 7, 1, 0]), ([1, 1, 0, 0, 1, 1, 0, 0, 1, 0, 1], [8, 7, 1, 0]), ([0, 0, 1, 1, 0, 0, 1, 1, 0, 0, 1, 0, 1], [4]), ([1, 0, 1, 1, 0, 0, 1, 1, 0, 0, 1, 0, 1], [4]), ([0, 1, 1, 0, 0, 1, 0, 1], [8, 7, 1, 0]), ([1, 1, 1, 0, 0, 1, 0, 1], [8, 7, 1, 0]), ([1, 0, 1], []), ([0, 1, 1], [4]), ([1, 1, 1], [4])]

def E_71 (N : Nat) : Env := z16 tys glob [] [] [] [] false [] [(123, zd N), (66, zb N), (98, z7 N)]

theorem z1qs (N : Nat) : EnvOk Tryz.prog (E_71 N) := zk mixed zp (FnsOk.nil) (ItsOk.cons (zf N) (ItsOk.cons (ze N) (ItsOk.cons (z8 N) (ItsOk.nil))))

def z3l (N : Nat) (s : (List Bool)) (v_ : Bool) (x7 : Int) (x8 : Int) (rec : Int -> Option Int) (k0 : Int -> Option Int) (k1 : Option Int) : Option Int :=
 cond (decide (x8 < x7))
 (cond (inR x8 (List.length s))
 (cond (v_ == (List.getD s (Int.toNat x8) false))
 (k0 x8)
 (rec (IntKind.wrap IntKind.i64 (x8 + (1 : Int)))))
 (none))
 (k1)

def z6n (N : Nat) (s : (List Bool)) (v_ : Bool) (x7 : Int) (x8 : Int) (k0 : Int -> Option Int) (k1 : Option Int) : Option Int :=
 iter (fun (v : Int) r => z3l N s v_ x7 v (fun x8 => (r x8)) k0 k1) N x8

def z1oh (N : Nat) (i : ((List Bool) × Bool × Int)) (v : Int) (r : Int -> Option Int) (K : Ex -> List A -> Option Int) : Option Int :=
 z3l N i.1 i.2.1 i.2.2 v (fun x8 => (r x8)) (fun a0 => (K .ret (mkS [(4, .v (.int .i64))] 14 (a0, ())))) (K (.exit 0) (mkS [] 19 ()))

def z1mk (N : Nat) : Hd Int := fun st K => (unS [(0, .v (.sl .bool)), (0, .v .bool), (5, .v (.int .i64)), (0, .v (.int .i64))] 10 (restr [8, 7, 1, 0] 0 st)).bind fun x => iter (fun v r => z1oh N ((fun x => (x.1, x.2.1, x.2.2.1)) x) v r K) N ((fun x => x.2.2.2.1) x)

def t1_71 (N : Nat) : Tab Int := []

theorem z1k7 {N : Nat} {c : Ctx} (hb : Base Tryz.prog (E_71 N) c) : zo Tryz.prog c (zl zwr [0, 1, 0, 1]) (z1mk N) :=
  z1i (s := [(0, .v (.sl .bool)), (0, .v .bool), (5, .v (.int .i64)), (0, .v (.int .i64))]) (m := 10) (z1oh N) [8, 7, 1, 0] N (fun x => (x.1, x.2.1, x.2.2.1)) (fun x => x.2.2.2.1) (fun i v => (i.1, i.2.1, i.2.2, v, ())) (fun _ => rfl) (zi hb N (t1_71 N) L_71 zwr TabOk.nil [0, 0, 1, 0, 1] _ rfl) (fun i v r K => by kernel_rfl)

def z2e (N : Nat) (s : (List Bool)) (v_ : Bool) : Option Int :=
 z6n N s v_ (((List.length s) : Nat) : Int) (0 : Int)
 (fun x4 => some x4)
 (some (-(1 : Int)))

def t_71 (N : Nat) : Tab Int := [([0, 1, 0, 1], z1mk N)]

theorem z1bx (N : Nat) (x : z1j z1gq) : z2j (E_71 N) N (t_71 N) L_71 Tryz.f87 (mkS z1gq 0 x) (z1h (.v (.int .i64)) 2) = z2e N x.1 x.2.1 := by kernel_rfl

def z5u (N : Nat) : List A -> Res := z12 z1gq (fun x => z2e N x.1 x.2.1) (z2k (.v (.int .i64)) 2)

theorem zcv (N : Nat) : Contract Tryz.prog glob 87 (z5u N) :=
  Contract.of (E := E_71 N) (H := t_71 N) (L := L_71) (N := N) (body := zwr) (K := (z1h (.v (.int .i64)) 2)) (z1qs N) Tryz.func87 (by kernel_rfl) (by decide) (fun _ hb => (TabOk.cons (z1k7 hb) TabOk.nil)) (fun x y h => by rw [z1bx]; exact h) (zm (s := (.v (.int .i64))) (m := 2))

def z1e6 : Code := (Tryz.f59.body).getD .skip

def L_72 : List (List Nat × List Nat) := [([0], [0, 1]), ([0, 1], [4]), ([1, 1], [4])]

def E_72 (N : Nat) : Env := z16 tys glob [(87, z5u N)] [] [] [] false [] [(123, zd N), (66, zb N), (98, z7 N)]

theorem z1qr (N : Nat) : EnvOk Tryz.prog (E_72 N) := zk mixed zp (FnsOk.cons (zcv N) (FnsOk.nil)) (ItsOk.cons (zf N) (ItsOk.cons (ze N) (ItsOk.cons (z8 N) (ItsOk.nil))))

def z1x (N : Nat) (s : (List Bool)) (v_ : Bool) : Option Bool :=
 (z2e N s v_).bind fun y =>
 some (decide ((0 : Int) <= y))

def t_72 (N : Nat) : Tab Bool := []

theorem z1bw (N : Nat) (x : z1j z1gq) : z2j (E_72 N) N (t_72 N) L_72 Tryz.f59 (mkS z1gq 0 x) (z1h (.v .bool) 2) = z1x N x.1 x.2.1 := by kernel_rfl

def z4m (N : Nat) : List A -> Res := z12 z1gq (fun x => z1x N x.1 x.2.1) (z2k (.v .bool) 2)

theorem zam (N : Nat) : Contract Tryz.prog glob 59 (z4m N) :=
  Contract.of (E := E_72 N) (H := t_72 N) (L := L_72) (N := N) (body := z1e6) (K := (z1h (.v .bool) 2)) (z1qr N) Tryz.func59 (by kernel_rfl) (by decide) (fun _ hb => TabOk.nil) (fun x y h => by rw [z1bw]; exact h) (zm (s := (.v .bool)) (m := 2))

def zf5 : Code := (Tryz.f28.body).getD .skip

def z1gz : List (List Nat × List Nat) := [([0], [0, 1]), ([0, 0, 1], [0, 6, 5]), ([0, 0, 1, 0, 1], [31, 0, 5]), ([1, 0, 1, 0, 1], [0, 5]), ([0, 0, 1, 0, 1, 0, 1], [4, 0]), ([1, 0, 1, 0, 1, 0, 1], [4, 0]), ([0, 1, 1, 0, 1], [0]), ([0, 1, 1, 1, 0, 1], [0, 7]), ([0, 0, 1, 1, 1, 1, 1, 0, 1], [8, 0, 7]), (PQ99, [8, 0, 7]), ([0, 0, 0, 0, 1, 0, 1, 1, 1, 1, 1, 0, 1], [50, 0, 8, 7]), ([1, 0, 0, 0, 1, 0, 1, 1, 1, 1, 1, 0, 1], [0, 8, 7]), ([1, 1, 0, 0, 0, 1, 0, 1, 1, 1, 1, 1, 0, 1], [7, 0]), ([0, 0, 0, 1, 0, 0, 1, 0, 1, 1, 1, 1, 1, 0, 1], [9, 0, 8, 7]), ([0, 1, 0, 0, 1, 0, 0, 1, 0, 1, 1, 1, 1, 1, 0, 1], z172), (z1fp, z172), ([0, 0, 0, 1, 1, 0, 0, 1, 0, 0, 1, 0, 1, 1, 1, 1, 1, 0, 1], [64, 63, 61, 0, 62, 9, 8, 7]), ([0, 1, 0, 0, 1, 1, 0, 0, 1, 0, 0, 1, 0, 1, 1, 1, 1, 1, 0, 1], [63, 61, 0, 62, 9, 8, 7]), ([1, 0, 1, 0, 0, 1, 1, 0, 0, 1, 0, 0, 1, 0, 1, 1, 1, 1, 1, 0, 1], [8, 0, 7]), ([0, 0, 0, 1, 1, 0, 0, 1, 1, 0, 0, 1, 0, 0, 1, 0, 1, 1, 1, 1, 1, 0, 1], [11, 0, 63, 62, 61, 9, 8, 7, 10]), ([0, 0, 1, 0, 0, 1, 1, 0, 0, 1, 1, 0, 0, 1, 0, 0, 1, 0, 1, 1, 1, 1, 1, 0, 1], [69, 0, 11, 63, 62, 61, 9, 8, 7, 10]), ([1, 0, 1, 0, 0, 1, 1, 0, 0, 1, 1, 0, 0, 1, 0, 0, 1, 0, 1, 1, 1, 1, 1, 0, 1], [0, 9, 10, 11, 63, 62, 61, 8, 7]), ([0, 0, 1, 0, 1, 0, 0, 1, 1, 0, 0, 1, 1, 0, 0, 1, 0, 0, 1, 0, 1, 1, 1, 1, 1, 0, 1], z172), ([1, 0, 1, 0, 1, 0, 0, 1, 1, 0, 0, 1, 1, 0, 0, 1, 0, 0, 1, 0, 1, 1, 1, 1, 1, 0, 1], z172), ([0, 1, 1, 0, 0, 1, 1, 0, 0, 1, 1, 0, 0, 1, 0, 0, 1, 0, 1, 1, 1, 1, 1, 0, 1], [89, 0, 63, 62, 61, 9, 8, 7]), ([1, 1, 1, 0, 0, 1, 1, 0, 0, 1, 1, 0, 0, 1, 0, 0, 1, 0, 1, 1, 1, 1, 1, 0, 1], z172), ([0, 0, 1, 1, 1, 0, 0, 1, 1, 0, 0, 1, 1, 0, 0, 1, 0, 0, 1, 0, 1, 1, 1, 1, 1, 0, 1], [7, 0]), ([1, 0, 1, 1, 1, 0, 0, 1, 1, 0, 0, 1, 1, 0, 0, 1, 0, 0, 1, 0, 1, 1, 1, 1, 1, 0, 1], [7, 0]), ([0, 1, 1, 0, 0, 1, 1, 0, 0, 1, 0, 0, 1, 0, 1, 1, 1, 1, 1, 0, 1], z172), ([1, 1, 1, 0, 0, 1, 1, 0, 0, 1, 0, 0, 1, 0, 1, 1, 1, 1, 1, 0, 1], z172), ([1, 1, 0, 0, 1, 0, 0, 1, 0, 1, 1, 1, 1, 1, 0, 1], [8, 0, 7]), ([0, 1, 0, 0, 1, 0, 1, 1, 1, 1, 1, 0, 1], [8, 0, 7]), ([1, 1, 0, 0, 1, 0, 1, 1, 1, 1, 1, 0, 1], [8, 0, 7]), ([1, 0, 1, 1, 1, 1, 1, 0, 1], [7, 0]), (z175, [99, 0]), ([1, 0, 1, 1, 1, 1, 1, 1, 0, 1], [0]), ([0, 0, 1, 0, 1, 1, 1, 1, 1, 1, 0, 1], [4, 0]), ([1, 0, 1, 0, 1, 1, 1, 1, 1, 1, 0, 1], [4, 0]), ([0, 1, 1, 1, 1, 1, 1, 1, 0, 1], [4, 0]), ([1, 1, 1, 1, 1, 1, 1, 1, 0, 1], [4, 0]), ([1], [4, 0])]

def z1gc (N : Nat) : Env := z16 tys glob [(59, z4m N), (58, za4 N), (39, zco N), (57, zap N), (56, z6x N)] [(5, .str)] [] [0] false [(98, .unit)] [(123, zd N), (66, zb N), (98, z7 N)]

theorem z1qq (N : Nat) : EnvOk Tryz.prog (z1gc N) := zk mixed zp (FnsOk.cons (zam N) (FnsOk.cons (zid N) (FnsOk.cons (zjf N) (FnsOk.cons (zgn N) (FnsOk.cons (zc6 N) (FnsOk.nil)))))) (ItsOk.cons (zf N) (ItsOk.cons (ze N) (ItsOk.cons (z8 N) (ItsOk.nil))))

def z5w (N : Nat) (complete : Bool) (i : Int) (t : ((List DT8) × ((List (List UInt8)) × Unit))) (x61 : (List DT8)) (x62 : Int) (r_ : DT2) (x63 : Int) (rec : DT2 -> Int -> Option (Int × (DT2 × Unit))) (k0 : DT2 -> Bool -> Option (Int × (DT2 × Unit))) (k1 : DT2 -> Option (Int × (DT2 × Unit))) : Option (Int × (DT2 × Unit)) :=
 cond (decide (x63 < x62))
 (cond (inR x63 (List.length x61))
 (cond (eqD (T.pair T.str (T.pair T.str T.unit)) (List.getD x61 (Int.toNat x63) (([] : List UInt8), (([] : List UInt8), ()))) ((List.getD x61 (Int.toNat x63) (([] : List UInt8), (([] : List UInt8), ()))).1, (([] : List UInt8), ())))
 (cond (decide ((((List.length r_.2.2.2.1) + 1) * 16) <= 70368744177664))
 (rec (r_.1, (r_.2.1, (r_.2.2.1, ((r_.2.2.2.1 ++ ([(List.getD x61 (Int.toNat x63) (([] : List UInt8), (([] : List UInt8), ()))).1] : List (List UInt8))), r_.2.2.2.2)))) (IntKind.wrap IntKind.i64 (x63 + (1 : Int))))
 (none))
 (cond (inR x63 (List.length t.2.1))
 ((z4l N r_ (List.getD t.2.1 (Int.toNat x63) ([] : List UInt8)) (List.getD x61 (Int.toNat x63) (([] : List UInt8), (([] : List UInt8), ())))).bind fun y =>
 cond (!y.1)
 (k0 y.2.1 false)
 (rec y.2.1 (IntKind.wrap IntKind.i64 (x63 + (1 : Int)))))
 (none)))
 (none))
 (k1 r_)

def z3s (N : Nat) (r_ : DT2) (complete : Bool) (i : Int) (t : ((List DT8) × ((List (List UInt8)) × Unit))) (x61 : (List DT8)) (x62 : Int) (x63 : Int) (k0 : DT2 -> Bool -> Option (Int × (DT2 × Unit))) (k1 : DT2 -> Option (Int × (DT2 × Unit))) : Option (Int × (DT2 × Unit)) :=
 iter (fun (v : (DT2 × Int)) r => z5w N complete i t x61 x62 v.1 v.2 (fun r_ x63 => (r (r_, x63))) k0 k1) N (r_, x63)

def z1nm (N : Nat) (i : (Bool × Int × ((List DT8) × ((List (List UInt8)) × Unit)) × (List DT8) × Int)) (v : (DT2 × Int)) (r : (DT2 × Int) -> Option (Int × (DT2 × Unit))) (K : Ex -> List A -> Option (Int × (DT2 × Unit))) : Option (Int × (DT2 × Unit)) :=
 z5w N i.1 i.2.1 i.2.2.1 i.2.2.2.1 i.2.2.2.2 v.1 v.2 (fun r_ x63 => (r (r_, x63))) (fun a0 a1 => (K (.exit 0) (mkS z16x 92 (a0, a1, ())))) (fun a0 => (K (.exit 2) (mkS z1f6 91 (a0, i.1, i.2.1, ()))))

def z1lp (N : Nat) : Hd (Int × (DT2 × Unit)) := fun st K => (unS SQ24 36 (restr z172 0 st)).bind fun x => iter (fun v r => z1nm N ((fun x => (x.2.1, x.2.2.1, x.2.2.2.1, x.2.2.2.2.1, x.2.2.2.2.2.1)) x) v r K) N ((fun x => (x.1, x.2.2.2.2.2.2.1)) x)

def t3_73 (N : Nat) : Tab (Int × (DT2 × Unit)) := []

theorem z1jc {N : Nat} {c : Ctx} (hb : Base Tryz.prog (z1gc N) c) : zo Tryz.prog c (zl zf5 z1fp) (z1lp N) :=
  z1i (s := SQ24) (m := 36) (z1nm N) z172 N (fun x => (x.2.1, x.2.2.1, x.2.2.2.1, x.2.2.2.2.1, x.2.2.2.2.2.1)) (fun x => (x.1, x.2.2.2.2.2.2.1)) (fun i v => (v.1, i.1, i.2.1, i.2.2.1, i.2.2.2.1, i.2.2.2.2, v.2, ())) (fun _ => rfl) (zi hb N (t3_73 N) z1gz zf5 TabOk.nil [0, 0, 1, 1, 0, 0, 1, 0, 0, 1, 0, 1, 1, 1, 1, 1, 0, 1] _ rfl) (fun i v r K => by kernel_rfl)

def z5x (N : Nat) (complete : Bool) (r_ : DT2) (i : Int) (rec : DT2 -> Int -> Option (Int × (DT2 × Unit))) (k0 : DT2 -> Bool -> Option (Int × (DT2 × Unit))) : Option (Int × (DT2 × Unit)) :=
 cond (decide (i < (((List.length r_.2.2.1) : Nat) : Int)))
 (cond (inR i (List.length r_.2.2.1))
 (cond (decide ((Int.toNat i) < (List.length r_.2.2.1)))
 (z3s N r_ complete i (List.getD r_.2.2.1 (Int.toNat i) (([] : List DT8), (([] : List (List UInt8)), ()))) (List.getD r_.2.2.1 (Int.toNat i) (([] : List DT8), (([] : List (List UInt8)), ()))).1 (((List.length (List.getD r_.2.2.1 (Int.toNat i) (([] : List DT8), (([] : List (List UInt8)), ()))).1) : Nat) : Int) (0 : Int)
 (fun r_1 complete1 => k0 r_1 complete1)
 (fun r_2 => rec r_2 (IntKind.wrap IntKind.i64 (i + (1 : Int)))))
 (none))
 (none))
 (k0 r_ complete)

def z5z (N : Nat) (r_ : DT2) (complete : Bool) (i : Int) (k0 : DT2 -> Bool -> Option (Int × (DT2 × Unit))) : Option (Int × (DT2 × Unit)) :=
 iter (fun (v : (DT2 × Int)) r => z5x N complete v.1 v.2 (fun r_ i => (r (r_, i))) k0) N (r_, i)

def z1nt (N : Nat) (i : Bool) (v : (DT2 × Int)) (r : (DT2 × Int) -> Option (Int × (DT2 × Unit))) (K : Ex -> List A -> Option (Int × (DT2 × Unit))) : Option (Int × (DT2 × Unit)) :=
 z5x N i v.1 v.2 (fun r_ i => (r (r_, i))) (fun a0 a1 => (K (.exit 0) (mkS z16x 92 (a0, a1, ()))))

def z1lw (N : Nat) : Hd (Int × (DT2 × Unit)) := fun st K => (unS z1f6 91 (restr [8, 0, 7] 0 st)).bind fun x => iter (fun v r => z1nt N ((fun x => x.2.1) x) v r K) N ((fun x => (x.1, x.2.2.1)) x)

def t2_73 (N : Nat) : Tab (Int × (DT2 × Unit)) := [(z1fp, z1lp N)]

theorem z1jj {N : Nat} {c : Ctx} (hb : Base Tryz.prog (z1gc N) c) : zo Tryz.prog c (zl zf5 PQ99) (z1lw N) :=
  z1i (s := z1f6) (m := 91) (z1nt N) [8, 0, 7] N (fun x => x.2.1) (fun x => (x.1, x.2.2.1)) (fun i v => (v.1, i, v.2, ())) (fun _ => rfl) (zi hb N (t2_73 N) z1gz zf5 (TabOk.cons (z1jc hb) TabOk.nil) [0, 0, 1, 0, 1, 1, 1, 1, 1, 0, 1] _ rfl) (fun i v r K => by kernel_rfl)

def z60 (N : Nat) (r_ : DT2) (complete : Bool) (k0 : DT2 -> Bool -> Option (Int × (DT2 × Unit))) : Option (Int × (DT2 × Unit)) :=
 z5z N r_ complete (0 : Int)
 (fun r_1 complete1 => k0 r_1 complete1)

def z1og (N : Nat) (x : z1j z16x) (K : Ex -> List A -> Option (Int × (DT2 × Unit))) : Option (Int × (DT2 × Unit)) :=
 z60 N x.1 x.2.1 (fun a0 a1 => (K .normal (mkS z16x 92 (a0, a1, ()))))

def z1mj (N : Nat) : Hd (Int × (DT2 × Unit)) := fun st K => (unS z16x 92 (restr [0, 7] 0 st)).bind fun x => z1og N x K

def t1_73 (N : Nat) : Tab (Int × (DT2 × Unit)) := [(PQ99, z1lw N)]

theorem z1k6 {N : Nat} {c : Ctx} (hb : Base Tryz.prog (z1gc N) c) : zo Tryz.prog c (zl zf5 z1fk) (z1mj N) :=
  z14 (s := z16x) (m := 92) (g := z1og N) [0, 7] (zi hb N (t1_73 N) z1gz zf5 (TabOk.cons (z1jj hb) TabOk.nil) z1fk _ rfl) (fun x K => by kernel_rfl)

def z5y (N : Nat) (r_ : DT2) (complete : Bool) (k0 : Bool -> Option (Int × (DT2 × Unit))) : Option (Int × (DT2 × Unit)) :=
 cond (!complete)
 (k0 true)
 ((z1x N r_.2.1 false).bind fun y =>
 k0 y)

def z1nh (N : Nat) (x : z1j z16x) (K : Ex -> List A -> Option (Int × (DT2 × Unit))) : Option (Int × (DT2 × Unit)) :=
 z5y N x.1 x.2.1 (fun a1 => (K .normal (mkS [(0, .box TT3), (98, .v .bool)] 0 (x.1, a1, ()))))

def z1lk (N : Nat) : Hd (Int × (DT2 × Unit)) := fun st K => (unS z16x 92 (restr [7, 0] 0 st)).bind fun x => z1nh N x K

def t4_73 (N : Nat) : Tab (Int × (DT2 × Unit)) := []

theorem z1j7 {N : Nat} {c : Ctx} (hb : Base Tryz.prog (z1gc N) c) : zo Tryz.prog c (zl zf5 z175) (z1lk N) :=
  z14 (s := z16x) (m := 92) (g := z1nh N) [7, 0] (zi hb N (t4_73 N) z1gz zf5 TabOk.nil z175 _ rfl) (fun x K => by kernel_rfl)

def z33 (N : Nat) (r_ : DT2) (key : (List UInt8)) : Option (Int × (DT2 × Unit)) :=
 (z3x N r_ key r_.1.1).bind fun y =>
 (zbx N y.2.1.1.1.2.2.1 y.1.2.1).bind fun y1 =>
 cond (!y1)
 (some ((8 : Int), (y.2.1, ())))
 (z60 N (y.2.1.1, (y.2.1.2.1, (([(y.2.1.1.1.2.1, (y.1.1, ()))] : List ((List DT8) × ((List (List UInt8)) × Unit))), y.2.1.2.2.2))) true
 (fun r_1 complete => z5y N r_1 complete
 (fun x99 => cond x99
 (some ((11 : Int), (r_1, ())))
 (some ((0 : Int), (r_1, ()))))))

def t_73 (N : Nat) : Tab (Int × (DT2 × Unit)) := [(z1fk, z1mj N), (z175, z1lk N)]

theorem z1bv (N : Nat) (x : z1j z10h) : z2j (z1gc N) N (t_73 N) z1gz Tryz.f28 (mkS z10h 0 x) (zdl (.v (.int .i64)) [(0, .box TT3)] 1) = z33 N x.1 x.2.1 := by kernel_rfl

def z54 (N : Nat) : List A -> Res := z12 z10h (fun x => z33 N x.1 x.2.1) (zli (.v (.int .i64)) [(0, .box TT3)] 1)

theorem za2 (N : Nat) : Contract Tryz.prog glob 28 (z54 N) :=
  Contract.of (E := z1gc N) (H := t_73 N) (L := z1gz) (N := N) (body := zf5) (K := (zdl (.v (.int .i64)) [(0, .box TT3)] 1)) (z1qq N) Tryz.func28 (by kernel_rfl) (by decide) (fun _ hb => (TabOk.cons (z1k6 hb) (TabOk.cons (z1j7 hb) TabOk.nil))) (fun x y h => by rw [z1bv]; exact h) (zao (s := (.v (.int .i64))) (os := [(0, .box TT3)]) (m := 1))

def z1e5 : Code := (Tryz.f8.body).getD .skip

def L_74 : List (List Nat × List Nat) := [([0], [3, 0]), ([0, 0, 1], [10, 3, 0]), ([1, 0, 1], [3, 0]), ([0, 0, 1, 0, 1], [4, 5]), ([1, 0, 1, 0, 1], [4, 5]), ([0, 1, 1], [6, 0]), ([0, 0, 1, 1, 1], [7, 6]), ([0, 1, 0, 1, 1, 1], [17, 7, 6]), ([1, 1, 0, 1, 1, 1], [6]), ([0, 0, 1, 1, 0, 1, 1, 1], [4, 5]), ([1, 0, 1, 1, 0, 1, 1, 1], [4, 5]), ([0, 1, 1, 1, 1], [4, 5]), ([1, 1, 1, 1, 1], [4, 5])]

def E_74 (N : Nat) : Env := z16 tys glob [(28, z54 N), (27, z8s N), (26, z8q N)] [] [] [] false [] [(123, zd N), (66, zb N), (98, z7 N)]

theorem z1qp (N : Nat) : EnvOk Tryz.prog (E_74 N) := zk mixed zp (FnsOk.cons (za2 N) (FnsOk.cons (zf9 N) (FnsOk.cons (zf7 N) (FnsOk.nil)))) (ItsOk.cons (zf N) (ItsOk.cons (ze N) (ItsOk.cons (z8 N) (ItsOk.nil))))

def z30 (N : Nat) (key : (List UInt8)) (b : zxa) : Option ((List (List UInt8)) × Int × Unit) :=
 (z5f N b).bind fun y =>
 cond (!y)
 (some (([] : List (List UInt8)), ((3 : Int), ())))
 ((z4c N b).bind fun y1 =>
 (z33 N y1 key).bind fun y2 =>
 cond (y2.1 != (0 : Int))
 (some (([] : List (List UInt8)), (y2.1, ())))
 (some (y2.2.1.2.2.2.1, ((0 : Int), ()))))

def t_74 (N : Nat) : Tab ((List (List UInt8)) × Int × Unit) := []

theorem z1bu (N : Nat) (x : z1j z1gt) : z2j (E_74 N) N (t_74 N) L_74 Tryz.f8 (mkS z1gt 0 x) (z1h (.tup [(.sl .str), (.int .i64)]) 2) = z30 N x.1 x.2.1 := by kernel_rfl

def z8t (N : Nat) : List A -> Res := z12 z1gt (fun x => z30 N x.1 x.2.1) (z2k (.tup [(.sl .str), (.int .i64)]) 2)

theorem zfa (N : Nat) : Contract Tryz.prog glob 8 (z8t N) :=
  Contract.of (E := E_74 N) (H := t_74 N) (L := L_74) (N := N) (body := z1e5) (K := (z1h (.tup [(.sl .str), (.int .i64)]) 2)) (z1qp N) Tryz.func8 (by kernel_rfl) (by decide) (fun _ hb => TabOk.nil) (fun x y h => by rw [z1bu]; exact h) (zm (s := (.tup [(.sl .str), (.int .i64)])) (m := 2))

def z1e4 : Code := (Tryz.f7.body).getD .skip

def L_75 : List (List Nat × List Nat) := [([0], []), ([0, 1], [1]), ([0, 1, 1], [1, 4, 3]), ([0, 1, 1, 1], [1, 4, 3]), ([0, 1, 1, 1, 1], [4, 3, 6]), ([0, 1, 1, 1, 1, 1], [0]), ([1, 1, 1, 1, 1, 1], [0])]

def E_75 (N : Nat) : Env := z16 tys glob [(8, z8t N), (23, zi1 N), (19, zd0 N)] [(3, .str), (5, .str)] [] [] false [] [(123, zd N), (66, zb N), (98, z7 N)]

theorem z1qo (N : Nat) : EnvOk Tryz.prog (E_75 N) := zk mixed zp (FnsOk.cons (zfa N) (FnsOk.cons (zs2 N) (FnsOk.cons (zkn N) (FnsOk.nil)))) (ItsOk.cons (zf N) (ItsOk.cons (ze N) (ItsOk.cons (z8 N) (ItsOk.nil))))

def z2h (N : Nat) : Option Bool :=
 (zay N ([(107 : UInt8)] : List UInt8) ([(97 : UInt8)] : List UInt8)).bind fun y =>
 (zlp N (([(97 : UInt8)] : List UInt8), (([] : List DT8), (y, ()))) ([(98 : UInt8), (101 : UInt8), (102 : UInt8), (111 : UInt8), (114 : UInt8), (101 : UInt8), (32 : UInt8), (57 : UInt8)] : List UInt8)).bind fun y1 =>
 (z30 N ([(107 : UInt8)] : List UInt8) (y1.1, (([] : List DT1), ()))).bind fun y2 =>
 cond (decide (((0 : Int) <= (if ((((List.length y1.1.2.2.1) : Nat) : Int) < (1 : Int)) then (((List.length y1.1.2.2.1) : Nat) : Int) else (1 : Int))) /\ ((if ((((List.length y1.1.2.2.1) : Nat) : Int) < (1 : Int)) then (((List.length y1.1.2.2.1) : Nat) : Int) else (1 : Int)) <= (((List.length y1.1.2.2.1) : Nat) : Int))))
 (cond (decide ((1 + (List.length (cut y1.1.2.2.1 (Int.toNat (if ((((List.length y1.1.2.2.1) : Nat) : Int) < (1 : Int)) then (((List.length y1.1.2.2.1) : Nat) : Int) else (1 : Int))) (List.length y1.1.2.2.1)))) <= 9223372036854775807))
 ((z30 N ([(107 : UInt8)] : List UInt8) ((y1.1.1, (y1.1.2.1, ((([(120 : UInt8)] : List UInt8) ++ (cut y1.1.2.2.1 (Int.toNat (if ((((List.length y1.1.2.2.1) : Nat) : Int) < (1 : Int)) then (((List.length y1.1.2.2.1) : Nat) : Int) else (1 : Int))) (List.length y1.1.2.2.1))), y1.1.2.2.2))), (([] : List DT1), ()))).bind fun y3 =>
 cond (y2.2.1 == (0 : Int))
 (cond ((((List.length y2.1) : Nat) : Int) == (1 : Int))
 (cond (inR (0 : Int) (List.length y2.1))
 (cond ((List.getD y2.1 0 ([] : List UInt8)) == ([(98 : UInt8), (101 : UInt8), (102 : UInt8), (111 : UInt8), (114 : UInt8), (101 : UInt8), (32 : UInt8), (57 : UInt8)] : List UInt8))
 (some (y3.2.1 == (8 : Int)))
 (some false))
 (none))
 (some false))
 (some false))
 (none))
 (none)

def t_75 (N : Nat) : Tab Bool := []

theorem z1bt (N : Nat) (x : z1j []) : z2j (E_75 N) N (t_75 N) L_75 Tryz.f7 (mkS [] 0 x) (z1h (.v .bool) 0) = z2h N := by kernel_rfl

def z9n (N : Nat) : List A -> Res := z12 [] (fun x => z2h N) (z2k (.v .bool) 0)

theorem zhr (N : Nat) : Contract Tryz.prog glob 7 (z9n N) :=
  Contract.of (E := E_75 N) (H := t_75 N) (L := L_75) (N := N) (body := z1e4) (K := (z1h (.v .bool) 0)) (z1qo N) Tryz.func7 (by kernel_rfl) (by decide) (fun _ hb => TabOk.nil) (fun x y h => by rw [z1bt]; exact h) (zm (s := (.v .bool)) (m := 0))

def z1e3 : Code := (Tryz.f43.body).getD .skip

def L_76 : List (List Nat × List Nat) := [([0], [0]), ([0, 1], [2]), ([1, 1], [2])]

def E_76 (N : Nat) : Env := z16 tys glob [] [] [] [] false [] [(123, zd N), (66, zb N), (98, z7 N)]

theorem z1qn (N : Nat) : EnvOk Tryz.prog (E_76 N) := zk mixed zp (FnsOk.nil) (ItsOk.cons (zf N) (ItsOk.cons (ze N) (ItsOk.cons (z8 N) (ItsOk.nil))))

def z9f (N : Nat) (id_ : (List UInt8)) : Option (List (List UInt8)) :=
 some ([([(114 : UInt8), (111 : UInt8), (111 : UInt8), (116 : UInt8)] : List UInt8), id_] : List (List UInt8))

def t_76 (N : Nat) : Tab (List (List UInt8)) := []

theorem z1bs (N : Nat) (x : z1j [(0, .v .str)]) : z2j (E_76 N) N (t_76 N) L_76 Tryz.f43 (mkS [(0, .v .str)] 0 x) (z1h (.v (.sl .str)) 1) = z9f N x.1 := by kernel_rfl

def z3m (N : Nat) : List A -> Res := z12 [(0, .v .str)] (fun x => z9f N x.1) (z2k (.v (.sl .str)) 1)

theorem z7q (N : Nat) : Contract Tryz.prog glob 43 (z3m N) :=
  Contract.of (E := E_76 N) (H := t_76 N) (L := L_76) (N := N) (body := z1e3) (K := (z1h (.v (.sl .str)) 1)) (z1qn N) Tryz.func43 (by kernel_rfl) (by decide) (fun _ hb => TabOk.nil) (fun x y h => by rw [z1bs]; exact h) (zm (s := (.v (.sl .str))) (m := 1))

def z1e2 : Code := (Tryz.f88.body).getD .skip

def L_77 : List (List Nat × List Nat) := [([0], [0]), ([0, 1], [3]), ([0, 1, 1], [2]), ([1, 1, 1], [2])]

def E_77 (N : Nat) : Env := z16 tys glob [] [] [] [] false [] [(123, zd N), (66, zb N), (98, z7 N)]

theorem z1qm (N : Nat) : EnvOk Tryz.prog (E_77 N) := zk mixed zp (FnsOk.nil) (ItsOk.cons (zf N) (ItsOk.cons (ze N) (ItsOk.cons (z8 N) (ItsOk.nil))))

def zfj (N : Nat) (n : Int) : Option (List UInt8) :=
 some (z27 ([(IntKind.wrap IntKind.u8 n)] : List Int))

def t_77 (N : Nat) : Tab (List UInt8) := []

theorem z1br (N : Nat) (x : z1j [(0, .v (.int .i64))]) : z2j (E_77 N) N (t_77 N) L_77 Tryz.f88 (mkS [(0, .v (.int .i64))] 0 x) (z1h (.v .str) 1) = zfj N x.1 := by kernel_rfl

def z2x (N : Nat) : List A -> Res := z12 [(0, .v (.int .i64))] (fun x => zfj N x.1) (z2k (.v .str) 1)

theorem z4h (N : Nat) : Contract Tryz.prog glob 88 (z2x N) :=
  Contract.of (E := E_77 N) (H := t_77 N) (L := L_77) (N := N) (body := z1e2) (K := (z1h (.v .str) 1)) (z1qm N) Tryz.func88 (by kernel_rfl) (by decide) (fun _ hb => TabOk.nil) (fun x y h => by rw [z1br]; exact h) (zm (s := (.v .str)) (m := 1))

def zwq : Code := (Tryz.f63.body).getD .skip

def L_78 : List (List Nat × List Nat) := [([0], [0]), ([0, 1], [0, 3]), ([0, 0, 1, 1], [4, 0, 3]), ([0, 1, 0, 1, 1], [4, 0, 3]), (z193, [6, 0, 3, 4]), (z192, [0, 3, 4]), (z194, [3]), (z174, [0, 4, 3]), (z1pl, [4, 0, 3]), (PQ9, [4, 0, 3]), (z191, [4, 0, 3]), ([1, 0, 1, 1], [3]), ([0, 1, 1, 1], [2]), ([1, 1, 1, 1], [2])]

def E_78 (N : Nat) : Env := z16 tys glob [(88, z2x N)] [] [] [] false [] [(123, zd N), (66, zb N), (98, z7 N)]

theorem z1ql (N : Nat) : EnvOk Tryz.prog (E_78 N) := zk mixed zp (FnsOk.cons (z4h N) (FnsOk.nil)) (ItsOk.cons (zf N) (ItsOk.cons (ze N) (ItsOk.cons (z8 N) (ItsOk.nil))))

def zbj (N : Nat) (n : Int) (out : (List UInt8)) (i : Int) (rec : Int -> (List UInt8) -> Int -> Option (List UInt8)) (k0 : (List UInt8) -> Option (List UInt8)) : Option (List UInt8) :=
 cond (decide (i < (8 : Int)))
 (cond (decide (((List.length (z27 ([(IntKind.wrap IntKind.u8 (Int.tmod n (256 : Int)))] : List Int))) + (List.length out)) <= 9223372036854775807))
 (rec (IntKind.wrap IntKind.i64 (Int.tdiv n (256 : Int))) ((z27 ([(IntKind.wrap IntKind.u8 (Int.tmod n (256 : Int)))] : List Int)) ++ out) (IntKind.wrap IntKind.i64 (i + (1 : Int))))
 (none))
 (k0 out)

def ziz (N : Nat) (n : Int) (out : (List UInt8)) (i : Int) (k0 : (List UInt8) -> Option (List UInt8)) : Option (List UInt8) :=
 iter (fun (v : (Int × (List UInt8) × Int)) r => zbj N v.1 v.2.1 v.2.2 (fun n out i => (r (n, out, i))) k0) N (n, out, i)

def z1of (N : Nat) (i : Unit) (v : (Int × (List UInt8) × Int)) (r : (Int × (List UInt8) × Int) -> Option (List UInt8)) (K : Ex -> List A -> Option (List UInt8)) : Option (List UInt8) :=
 zbj N v.1 v.2.1 v.2.2 (fun n out i => (r (n, out, i))) (fun a0 => (K (.exit 0) (mkS [(3, .v .str)] 13 (a0, ()))))

def z1mi (N : Nat) : Hd (List UInt8) := fun st K => (unS SQ57 12 (restr [4, 0, 3] 0 st)).bind fun x => iter (fun v r => z1of N ((fun x => ()) x) v r K) N ((fun x => (x.1, x.2.1, x.2.2.1)) x)

def t1_78 (N : Nat) : Tab (List UInt8) := []

theorem z1k5 {N : Nat} {c : Ctx} (hb : Base Tryz.prog (E_78 N) c) : zo Tryz.prog c (zl zwq [0, 1, 0, 1, 1]) (z1mi N) :=
  z1i (s := SQ57) (m := 12) (z1of N) [4, 0, 3] N (fun x => ()) (fun x => (x.1, x.2.1, x.2.2.1)) (fun i v => (v.1, v.2.1, v.2.2, ())) (fun _ => rfl) (zi hb N (t1_78 N) L_78 zwq TabOk.nil [0, 0, 1, 0, 1, 1] _ rfl) (fun i v r K => by kernel_rfl)

def z3g (N : Nat) (n : Int) : Option (List UInt8) :=
 ziz N n ([] : List UInt8) (0 : Int)
 (fun out => some out)

def t_78 (N : Nat) : Tab (List UInt8) := [([0, 1, 0, 1, 1], z1mi N)]

theorem z1bq (N : Nat) (x : z1j [(0, .v (.int .i64))]) : z2j (E_78 N) N (t_78 N) L_78 Tryz.f63 (mkS [(0, .v (.int .i64))] 0 x) (z1h (.v .str) 1) = z3g N x.1 := by kernel_rfl

def zag (N : Nat) : List A -> Res := z12 [(0, .v (.int .i64))] (fun x => z3g N x.1) (z2k (.v .str) 1)

theorem zj0 (N : Nat) : Contract Tryz.prog glob 63 (zag N) :=
  Contract.of (E := E_78 N) (H := t_78 N) (L := L_78) (N := N) (body := zwq) (K := (z1h (.v .str) 1)) (z1ql N) Tryz.func63 (by kernel_rfl) (by decide) (fun _ hb => (TabOk.cons (z1k5 hb) TabOk.nil)) (fun x y h => by rw [z1bq]; exact h) (zm (s := (.v .str)) (m := 1))

def zwp : Code := (Tryz.f34.body).getD .skip

def L_79 : List (List Nat × List Nat) := [([0], [0]), ([0, 1], [0, 3]), ([0, 0, 1, 1], [4, 0, 3]), ([0, 1, 0, 1, 1], [4, 0, 3]), (z193, [8, 3, 0, 4]), (z192, [3, 0, 4]), (z194, [3]), ([0, 0, 1, 0, 0, 1, 0, 1, 1], [4, 0, 3]), (PQ9, [4, 0, 3]), (z191, [4, 0, 3]), ([1, 0, 1, 1], [3]), ([0, 1, 1, 1], [2]), ([1, 1, 1, 1], [2])]

def E_79 (N : Nat) : Env := z16 tys glob [(63, zag N)] [] [] [] false [] [(123, zd N), (66, zb N), (98, z7 N)]

theorem z1qk (N : Nat) : EnvOk Tryz.prog (E_79 N) := zk mixed zp (FnsOk.cons (zj0 N) (FnsOk.nil)) (ItsOk.cons (zf N) (ItsOk.cons (ze N) (ItsOk.cons (z8 N) (ItsOk.nil))))

def z3u (N : Nat) (l : (List (List UInt8))) (out : (List UInt8)) (i : Int) (rec : (List UInt8) -> Int -> Option (List UInt8)) (k0 : (List UInt8) -> Option (List UInt8)) : Option (List UInt8) :=
 cond (decide (i < (((List.length l) : Nat) : Int)))
 (cond (inR i (List.length l))
 ((z3g N (((List.length (List.getD l (Int.toNat i) ([] : List UInt8))) : Nat) : Int)).bind fun y =>
 cond (decide (((List.length out) + (List.length y)) <= 9223372036854775807))
 (cond (inR i (List.length l))
 (cond (decide (((List.length (out ++ y)) + (List.length (List.getD l (Int.toNat i) ([] : List UInt8)))) <= 9223372036854775807))
 (rec ((out ++ y) ++ (List.getD l (Int.toNat i) ([] : List UInt8))) (IntKind.wrap IntKind.i64 (i + (1 : Int))))
 (none))
 (none))
 (none))
 (none))
 (k0 out)

def zho (N : Nat) (l : (List (List UInt8))) (out : (List UInt8)) (i : Int) (k0 : (List UInt8) -> Option (List UInt8)) : Option (List UInt8) :=
 iter (fun (v : ((List UInt8) × Int)) r => z3u N l v.1 v.2 (fun out i => (r (out, i))) k0) N (out, i)

def z1oe (N : Nat) (i : (List (List UInt8))) (v : ((List UInt8) × Int)) (r : ((List UInt8) × Int) -> Option (List UInt8)) (K : Ex -> List A -> Option (List UInt8)) : Option (List UInt8) :=
 z3u N i v.1 v.2 (fun out i => (r (out, i))) (fun a0 => (K (.exit 0) (mkS [(3, .v .str)] 21 (a0, ()))))

def z1mh (N : Nat) : Hd (List UInt8) := fun st K => (unS [(0, .v (.sl .str)), (2, .v .str), (0, .v (.int .i64))] 20 (restr [4, 0, 3] 0 st)).bind fun x => iter (fun v r => z1oe N ((fun x => x.1) x) v r K) N ((fun x => (x.2.1, x.2.2.1)) x)

def t1_79 (N : Nat) : Tab (List UInt8) := []

theorem z1k4 {N : Nat} {c : Ctx} (hb : Base Tryz.prog (E_79 N) c) : zo Tryz.prog c (zl zwp [0, 1, 0, 1, 1]) (z1mh N) :=
  z1i (s := [(0, .v (.sl .str)), (2, .v .str), (0, .v (.int .i64))]) (m := 20) (z1oe N) [4, 0, 3] N (fun x => x.1) (fun x => (x.2.1, x.2.2.1)) (fun i v => (i, v.1, v.2, ())) (fun _ => rfl) (zi hb N (t1_79 N) L_79 zwp TabOk.nil [0, 0, 1, 0, 1, 1] _ rfl) (fun i v r K => by kernel_rfl)

def z1d (N : Nat) (l : (List (List UInt8))) : Option (List UInt8) :=
 zho N l ([] : List UInt8) (0 : Int)
 (fun out => some out)

def t_79 (N : Nat) : Tab (List UInt8) := [([0, 1, 0, 1, 1], z1mh N)]

theorem z1bp (N : Nat) (x : z1j [(0, .v (.sl .str))]) : z2j (E_79 N) N (t_79 N) L_79 Tryz.f34 (mkS [(0, .v (.sl .str))] 0 x) (z1h (.v .str) 1) = z1d N x.1 := by kernel_rfl

def z2n (N : Nat) : List A -> Res := z12 [(0, .v (.sl .str))] (fun x => z1d N x.1) (z2k (.v .str) 1)

theorem z3v (N : Nat) : Contract Tryz.prog glob 34 (z2n N) :=
  Contract.of (E := E_79 N) (H := t_79 N) (L := L_79) (N := N) (body := zwp) (K := (z1h (.v .str) 1)) (z1qk N) Tryz.func34 (by kernel_rfl) (by decide) (fun _ hb => (TabOk.cons (z1k4 hb) TabOk.nil)) (fun x y h => by rw [z1bp]; exact h) (zm (s := (.v .str)) (m := 1))

def zpc : Code := (Tryz.f67.body).getD .skip

def L_80 : List (List Nat × List Nat) := [([0], [0]), ([0, 1], [3, 0]), ([0, 1, 1], [3, 0]), ([0, 0, 1, 1, 1], [3, 0]), ([0, 0, 0, 0, 0, 1, 1, 1], [14, 3, 0]), ([1, 0, 0, 0, 0, 1, 1, 1], [3, 0]), ([1, 1, 0, 0, 0, 0, 1, 1, 1], [0, 3]), ([0, 1, 0, 0, 0, 1, 1, 1], [3, 0]), ([1, 0, 0, 0, 1, 1, 1], [3, 0]), ([0, 1, 1, 1], [0, 3]), ([0, 1, 1, 1, 1], [3, 4]), (z1pm, [5, 3, 4]), (z173, [5, 3, 4]), ([0, 0, 0, 0, 1, 0, 1, 1, 1, 1, 1], [23, 3, 4, 5]), ([1, 0, 0, 0, 1, 0, 1, 1, 1, 1, 1], [3, 4, 5]), ([1, 1, 0, 0, 0, 1, 0, 1, 1, 1, 1, 1], [3]), ([0, 0, 1, 0, 0, 1, 0, 1, 1, 1, 1, 1], [5, 3, 4]), ([0, 1, 0, 0, 1, 0, 1, 1, 1, 1, 1], [5, 3, 4]), ([1, 1, 0, 0, 1, 0, 1, 1, 1, 1, 1], [5, 3, 4]), (z13u, [3]), (PQ91, [2]), ([1, 1, 1, 1, 1, 1, 1], [2])]

def z1sb (N : Nat) : Env := z16 tys glob [] [(3, (.int .u8))] [] [] false [] [(123, zd N), (66, zb N), (98, z7 N)]

theorem z1qj (N : Nat) : EnvOk Tryz.prog (z1sb N) := zk mixed zp (FnsOk.nil) (ItsOk.cons (zf N) (ItsOk.cons (ze N) (ItsOk.cons (z8 N) (ItsOk.nil))))

def z83 (N : Nat) (s : (List UInt8)) (b : (List Int)) (rec : (List Int) -> Option (List UInt8)) (k0 : (List Int) -> Option (List UInt8)) : Option (List UInt8) :=
 cond ((Int.tmod (((List.length b) : Nat) : Int) (64 : Int)) != (56 : Int))
 (cond (decide ((((List.length b) + 1) * 1) <= 70368744177664))
 (rec (b ++ ([(0 : Int)] : List Int)))
 (none))
 (k0 b)

def z85 (N : Nat) (s : (List UInt8)) (b : (List Int)) (k0 : (List Int) -> Option (List UInt8)) : Option (List UInt8) :=
 iter (fun (v : (List Int)) r => z83 N s v (fun b => (r b)) k0) N b

def z1od (N : Nat) (i : (List UInt8)) (v : (List Int)) (r : (List Int) -> Option (List UInt8)) (K : Ex -> List A -> Option (List UInt8)) : Option (List UInt8) :=
 z83 N i v (fun b => (r b)) (fun a1 => (K (.exit 0) (mkS [(0, .v .str), (2, .row (.int .u8))] 33 (i, a1, ()))))

def z1mg (N : Nat) : Hd (List UInt8) := fun st K => (unS [(0, .v .str), (2, .row (.int .u8))] 33 (restr [3, 0] 0 st)).bind fun x => iter (fun v r => z1od N ((fun x => x.1) x) v r K) N ((fun x => x.2.1) x)

def t1_80 (N : Nat) : Tab (List UInt8) := []

theorem z1k3 {N : Nat} {c : Ctx} (hb : Base Tryz.prog (z1sb N) c) : zo Tryz.prog c (zl zpc [0, 0, 1, 1, 1]) (z1mg N) :=
  z1i (s := [(0, .v .str), (2, .row (.int .u8))]) (m := 33) (z1od N) [3, 0] N (fun x => x.1) (fun x => x.2.1) (fun i v => (i, v, ())) (fun _ => rfl) (zi hb N (t1_80 N) L_80 zpc TabOk.nil [0, 0, 0, 1, 1, 1] _ rfl) (fun i v r K => by kernel_rfl)

def z82 (N : Nat) (n : Int) (b : (List Int)) (i : Int) (rec : (List Int) -> Int -> Option (List UInt8)) (k0 : (List Int) -> Option (List UInt8)) : Option (List UInt8) :=
 cond (decide ((0 : Int) <= i))
 (cond (decide ((0 : Int) <= (IntKind.wrap IntKind.u64 (IntKind.wrap IntKind.i64 ((8 : Int) * i)))))
 (cond (decide ((((List.length b) + 1) * 1) <= 70368744177664))
 (rec (b ++ ([(IntKind.wrap IntKind.u8 (z39 IntKind.u64 n (IntKind.wrap IntKind.u64 (IntKind.wrap IntKind.i64 ((8 : Int) * i)))))] : List Int)) (IntKind.wrap IntKind.i64 (i - (1 : Int))))
 (none))
 (none))
 (k0 b)

def z84 (N : Nat) (b : (List Int)) (n : Int) (i : Int) (k0 : (List Int) -> Option (List UInt8)) : Option (List UInt8) :=
 iter (fun (v : ((List Int) × Int)) r => z82 N n v.1 v.2 (fun b i => (r (b, i))) k0) N (b, i)

def z1ns (N : Nat) (i : Int) (v : ((List Int) × Int)) (r : ((List Int) × Int) -> Option (List UInt8)) (K : Ex -> List A -> Option (List UInt8)) : Option (List UInt8) :=
 z82 N i v.1 v.2 (fun b i => (r (b, i))) (fun a0 => (K (.exit 2) (mkS [(3, .row (.int .u8))] 33 (a0, ()))))

def z1lv (N : Nat) : Hd (List UInt8) := fun st K => (unS [(3, .row (.int .u8)), (0, .v (.int .u64)), (0, .v (.int .i64))] 31 (restr [5, 3, 4] 0 st)).bind fun x => iter (fun v r => z1ns N ((fun x => x.2.1) x) v r K) N ((fun x => (x.1, x.2.2.1)) x)

def t2_80 (N : Nat) : Tab (List UInt8) := []

theorem z1ji {N : Nat} {c : Ctx} (hb : Base Tryz.prog (z1sb N) c) : zo Tryz.prog c (zl zpc z173) (z1lv N) :=
  z1i (s := [(3, .row (.int .u8)), (0, .v (.int .u64)), (0, .v (.int .i64))]) (m := 31) (z1ns N) [5, 3, 4] N (fun x => x.2.1) (fun x => (x.1, x.2.2.1)) (fun i v => (v.1, i, v.2, ())) (fun _ => rfl) (zi hb N (t2_80 N) L_80 zpc TabOk.nil z13w _ rfl) (fun i v r K => by kernel_rfl)

def z40 (N : Nat) (s : (List UInt8)) : Option (List UInt8) :=
 cond (decide ((((List.length (z4q s)) + 1) * 1) <= 70368744177664))
 (z85 N s ((z4q s) ++ ([(128 : Int)] : List Int))
 (fun b => z84 N b (IntKind.wrap IntKind.u64 ((8 : Int) * (IntKind.wrap IntKind.u64 (((List.length s) : Nat) : Int)))) (7 : Int)
 (fun b1 => some (z27 b1))))
 (none)

def t_80 (N : Nat) : Tab (List UInt8) := [([0, 0, 1, 1, 1], z1mg N), (z173, z1lv N)]

theorem z1bo (N : Nat) (x : z1j [(0, .v .str)]) : z2j (z1sb N) N (t_80 N) L_80 Tryz.f67 (mkS [(0, .v .str)] 0 x) (z1h (.v .str) 1) = z40 N x.1 := by kernel_rfl

def zbp (N : Nat) : List A -> Res := z12 [(0, .v .str)] (fun x => z40 N x.1) (z2k (.v .str) 1)

theorem zk0 (N : Nat) : Contract Tryz.prog glob 67 (zbp N) :=
  Contract.of (E := z1sb N) (H := t_80 N) (L := L_80) (N := N) (body := zpc) (K := (z1h (.v .str) 1)) (z1qj N) Tryz.func67 (by kernel_rfl) (by decide) (fun _ hb => (TabOk.cons (z1k3 hb) (TabOk.cons (z1ji hb) TabOk.nil))) (fun x y h => by rw [z1bo]; exact h) (zm (s := (.v .str)) (m := 1))

def z1e1 : Code := (Tryz.f68.body).getD .skip

def L_81 : List (List Nat × List Nat) := [([0], []), ([0, 1], [0]), ([1, 1], [0])]

def E_81 (N : Nat) : Env := z16 tys glob [] [] [] [] false [] [(123, zd N), (66, zb N), (98, z7 N)]

theorem z1qi (N : Nat) : EnvOk Tryz.prog (E_81 N) := zk mixed zp (FnsOk.nil) (ItsOk.cons (zf N) (ItsOk.cons (ze N) (ItsOk.cons (z8 N) (ItsOk.nil))))

def zdg (N : Nat) : Option (List Int) :=
 some (List.set (List.set (List.set (List.set (List.set (List.set (List.set (List.set (List.set (List.set (List.set (List.set (List.set (List.set (List.set (List.set (List.set (List.set (List.set (List.set (List.set (List.set (List.set (List.set (List.set (List.set (List.set (List.set (List.set (List.set (List.set (List.set (List.set (List.set (List.set (List.set (List.set (List.set (List.set (List.set (List.set (List.set (List.set (List.set (List.set (List.set (List.set (List.set (List.set (List.set (List.set (List.set (List.set (List.set (List.set (List.set (List.set (List.set (List.set (List.set (List.set (List.set (List.set (List.set (List.replicate 64 (0 : Int)) 0 (1116352408 : Int)) 1 (1899447441 : Int)) 2 (3049323471 : Int)) 3 (3921009573 : Int)) 4 (961987163 : Int)) 5 (1508970993 : Int)) 6 (2453635748 : Int)) 7 (2870763221 : Int)) 8 (3624381080 : Int)) 9 (310598401 : Int)) 10 (607225278 : Int)) 11 (1426881987 : Int)) 12 (1925078388 : Int)) 13 (2162078206 : Int)) 14 (2614888103 : Int)) 15 (3248222580 : Int)) 16 (3835390401 : Int)) 17 (4022224774 : Int)) 18 (264347078 : Int)) 19 (604807628 : Int)) 20 (770255983 : Int)) 21 (1249150122 : Int)) 22 (1555081692 : Int)) 23 (1996064986 : Int)) 24 (2554220882 : Int)) 25 (2821834349 : Int)) 26 (2952996808 : Int)) 27 (3210313671 : Int)) 28 (3336571891 : Int)) 29 (3584528711 : Int)) 30 (113926993 : Int)) 31 (338241895 : Int)) 32 (666307205 : Int)) 33 (773529912 : Int)) 34 (1294757372 : Int)) 35 (1396182291 : Int)) 36 (1695183700 : Int)) 37 (1986661051 : Int)) 38 (2177026350 : Int)) 39 (2456956037 : Int)) 40 (2730485921 : Int)) 41 (2820302411 : Int)) 42 (3259730800 : Int)) 43 (3345764771 : Int)) 44 (3516065817 : Int)) 45 (3600352804 : Int)) 46 (4094571909 : Int)) 47 (275423344 : Int)) 48 (430227734 : Int)) 49 (506948616 : Int)) 50 (659060556 : Int)) 51 (883997877 : Int)) 52 (958139571 : Int)) 53 (1322822218 : Int)) 54 (1537002063 : Int)) 55 (1747873779 : Int)) 56 (1955562222 : Int)) 57 (2024104815 : Int)) 58 (2227730452 : Int)) 59 (2361852424 : Int)) 60 (2428436474 : Int)) 61 (2756734187 : Int)) 62 (3204031479 : Int)) 63 (3329325298 : Int))

def t_81 (N : Nat) : Tab (List Int) := []

theorem z1bn (N : Nat) (x : z1j []) : z2j (E_81 N) N (t_81 N) L_81 Tryz.f68 (mkS [] 0 x) (z1h (.v (.sl (.int .u32))) 0) = zdg N := by kernel_rfl

def z9l (N : Nat) : List A -> Res := z12 [] (fun x => zdg N) (z2k (.v (.sl (.int .u32))) 0)

theorem zhp (N : Nat) : Contract Tryz.prog glob 68 (z9l N) :=
  Contract.of (E := E_81 N) (H := t_81 N) (L := L_81) (N := N) (body := z1e1) (K := (z1h (.v (.sl (.int .u32))) 0)) (z1qi N) Tryz.func68 (by kernel_rfl) (by decide) (fun _ hb => TabOk.nil) (fun x y h => by rw [z1bn]; exact h) (zm (s := (.v (.sl (.int .u32)))) (m := 0))

def z1e0 : Code := (Tryz.f69.body).getD .skip

def L_82 : List (List Nat × List Nat) := [([0], [0]), ([0, 1], [0]), ([1, 1], [0])]

def E_82 (N : Nat) : Env := z16 tys glob [] [] [] [] false [] [(123, zd N), (66, zb N), (98, z7 N)]

theorem z1qh (N : Nat) : EnvOk Tryz.prog (E_82 N) := zk mixed zp (FnsOk.nil) (ItsOk.cons (zf N) (ItsOk.cons (ze N) (ItsOk.cons (z8 N) (ItsOk.nil))))

def zdh (N : Nat) : Option (List Int) :=
 some ([(1779033703 : Int), (3144134277 : Int), (1013904242 : Int), (2773480762 : Int), (1359893119 : Int), (2600822924 : Int), (528734635 : Int), (1541459225 : Int)] : List Int)

def t_82 (N : Nat) : Tab (List Int) := []

theorem z1bm (N : Nat) (x : z1j []) : z2j (E_82 N) N (t_82 N) L_82 Tryz.f69 (mkS [] 0 x) (z1h (.v (.arr 8 (.int .u32))) 0) = zdh N := by kernel_rfl

def z9m (N : Nat) : List A -> Res := z12 [] (fun x => zdh N) (z2k (.v (.arr 8 (.int .u32))) 0)

theorem zhq (N : Nat) : Contract Tryz.prog glob 69 (z9m N) :=
  Contract.of (E := E_82 N) (H := t_82 N) (L := L_82) (N := N) (body := z1e0) (K := (z1h (.v (.arr 8 (.int .u32))) 0)) (z1qh N) Tryz.func69 (by kernel_rfl) (by decide) (fun _ hb => TabOk.nil) (fun x y h => by rw [z1bm]; exact h) (zm (s := (.v (.arr 8 (.int .u32)))) (m := 0))

def z1dz : Code := (Tryz.f92.body).getD .skip

def L_83 : List (List Nat × List Nat) := [([0], [0, 1]), ([0, 1], [4]), ([1, 1], [4])]

def E_83 (N : Nat) : Env := z16 tys glob [] [] [] [] false [] [(123, zd N), (66, zb N), (98, z7 N)]

theorem z1qg (N : Nat) : EnvOk Tryz.prog (E_83 N) := zk mixed zp (FnsOk.nil) (ItsOk.cons (zf N) (ItsOk.cons (ze N) (ItsOk.cons (z8 N) (ItsOk.nil))))

def zg8 (N : Nat) (x0 : Int) (n : Int) : Option Int :=
 cond (decide ((0 : Int) <= (IntKind.wrap IntKind.u64 n)))
 (cond (decide ((0 : Int) <= (IntKind.wrap IntKind.u64 (IntKind.wrap IntKind.i64 ((32 : Int) - n)))))
 (some (zj Go.BinOp.or IntKind.u32 (z39 IntKind.u32 x0 (IntKind.wrap IntKind.u64 n)) (z8m IntKind.u32 x0 (IntKind.wrap IntKind.u64 (IntKind.wrap IntKind.i64 ((32 : Int) - n))))))
 (none))
 (none)

def t_83 (N : Nat) : Tab Int := []

theorem z1bl (N : Nat) (x : z1j z170) : z2j (E_83 N) N (t_83 N) L_83 Tryz.f92 (mkS z170 0 x) (z1h (.v (.int .u32)) 2) = zg8 N x.1 x.2.1 := by kernel_rfl

def zbn (N : Nat) : List A -> Res := z12 z170 (fun x => zg8 N x.1 x.2.1) (z2k (.v (.int .u32)) 2)

theorem zjz (N : Nat) : Contract Tryz.prog glob 92 (zbn N) :=
  Contract.of (E := E_83 N) (H := t_83 N) (L := L_83) (N := N) (body := z1dz) (K := (z1h (.v (.int .u32)) 2)) (z1qg N) Tryz.func92 (by kernel_rfl) (by decide) (fun _ hb => TabOk.nil) (fun x y h => by rw [z1bl]; exact h) (zm (s := (.v (.int .u32))) (m := 2))

def zf4 : Code := (Tryz.f70.body).getD .skip

def z1gy : List (List Nat × List Nat) := [([0], [2, 1, 4, 3, 8]), ([0, 1], [2, 9, 1, 4, 3, 8]), ([0, 0, 1, 1], zx9), ([0, 1, 0, 1, 1], zx9), (z193, [26, 2, 10, 9, 1, 4, 3, 8]), (z192, [2, 10, 9, 1, 4, 3, 8]), (z194, [9, 4, 3, 8]), (z174, [9, 1, 11, 10, 2, 4, 3, 8]), (z1pl, zx9), (PQ9, zx9), (z191, zx9), ([1, 0, 1, 1], [9, 4, 3, 8]), ([0, 0, 1, 1, 1], [12, 9, 4, 3, 8]), ([0, 1, 0, 1, 1, 1], [12, 9, 4, 3, 8]), (z1fb, [62, 9, 12, 4, 3, 8]), (z1fa, [9, 12, 4, 3, 8]), (z1fd, [4, 3, 9, 8]), (z1fh, [13, 14, 9, 12, 4, 3, 8]), ([0, 1, 0, 0, 1, 0, 0, 1, 0, 1, 1, 1], [14, 9, 12, 15, 4, 3, 8]), (z1pn, [9, 16, 12, 15, 4, 3, 8]), ([1, 1, 1, 0, 0, 1, 0, 0, 1, 0, 1, 1, 1], [12, 9, 4, 3, 8]), (z10m, [12, 9, 4, 3, 8]), (z1f9, [12, 9, 4, 3, 8]), ([1, 0, 1, 1, 1], [4, 3, 9, 8]), ([0, 1, 1, 1, 1], [17, 3, 9, 4, 8]), (z1pm, zx7), (z173, zx7), ([0, 0, 0, 0, 1, 0, 1, 1, 1, 1, 1], [111, 17, 3, 18, 9, 4, 8]), ([1, 0, 0, 0, 1, 0, 1, 1, 1, 1, 1], [17, 3, 18, 9, 4, 8]), ([1, 1, 0, 0, 0, 1, 0, 1, 1, 1, 1, 1], [17, 4, 8]), ([0, 0, 0, 1, 0, 0, 1, 0, 1, 1, 1, 1, 1], [17, 19, 3, 18, 9, 4, 8]), ([0, 1, 0, 0, 1, 0, 0, 1, 0, 1, 1, 1, 1, 1], [17, 19, 20, 3, 18, 9, 4, 8]), ([0, 1, 1, 0, 0, 1, 0, 0, 1, 0, 1, 1, 1, 1, 1], [17, 21, 18, 3, 9, 4, 8]), ([0, 1, 1, 1, 0, 0, 1, 0, 0, 1, 0, 1, 1, 1, 1, 1], [17, 21, 22, 18, 3, 9, 4, 8]), ([0, 1, 1, 1, 1, 0, 0, 1, 0, 0, 1, 0, 1, 1, 1, 1, 1], [21, 22, 23, 17, 18, 3, 9, 4, 8]), ([1, 1, 1, 1, 1, 0, 0, 1, 0, 0, 1, 0, 1, 1, 1, 1, 1], zx7), ([0, 1, 0, 0, 1, 0, 1, 1, 1, 1, 1], zx7), ([1, 1, 0, 0, 1, 0, 1, 1, 1, 1, 1], zx7), (z13u, [17, 4, 8]), ([0, 0, 1, 1, 1, 1, 1, 1], [24, 17, 4, 8]), ([0, 1, 0, 1, 1, 1, 1, 1, 1], [24, 17, 4, 8]), ([0, 0, 0, 0, 1, 0, 1, 1, 1, 1, 1, 1], [204, 24, 17, 4, 8]), ([1, 0, 0, 0, 1, 0, 1, 1, 1, 1, 1, 1], [24, 17, 4, 8]), ([1, 1, 0, 0, 0, 1, 0, 1, 1, 1, 1, 1, 1], [17, 8]), ([0, 0, 1, 0, 0, 1, 0, 1, 1, 1, 1, 1, 1], [24, 17, 4, 8]), ([0, 1, 0, 0, 1, 0, 1, 1, 1, 1, 1, 1], [24, 17, 4, 8]), ([1, 1, 0, 0, 1, 0, 1, 1, 1, 1, 1, 1], [24, 17, 4, 8]), ([1, 0, 1, 1, 1, 1, 1, 1], [17, 8]), (z1fm, [8]), ([1, 1, 1, 1, 1, 1, 1, 1], [8])]

def z1gb (N : Nat) : Env := z16 tys glob [(92, zbn N)] [(9, (.int .u32))] [] [] false [] [(123, zd N), (66, zb N), (98, z7 N)]

theorem z1qf (N : Nat) : EnvOk Tryz.prog (z1gb N) := zk mixed zp (FnsOk.cons (zjz N) (FnsOk.nil)) (ItsOk.cons (zf N) (ItsOk.cons (ze N) (ItsOk.cons (z8 N) (ItsOk.nil))))

def z7f (N : Nat) (s : (List UInt8)) (at_ : Int) (k : (List Int)) (h : (List Int)) (x8 : (List Int)) (w : (List Int)) (t : Int) (rec : (List Int) -> Int -> Option (List Int)) (k0 : (List Int) -> Option (List Int)) : Option (List Int) :=
 cond (decide (t < (16 : Int)))
 (cond (inR (IntKind.wrap IntKind.i64 (at_ + (IntKind.wrap IntKind.i64 ((4 : Int) * t)))) (List.length s))
 (cond (inR (IntKind.wrap IntKind.i64 ((IntKind.wrap IntKind.i64 (at_ + (IntKind.wrap IntKind.i64 ((4 : Int) * t)))) + (1 : Int))) (List.length s))
 (cond (inR (IntKind.wrap IntKind.i64 ((IntKind.wrap IntKind.i64 (at_ + (IntKind.wrap IntKind.i64 ((4 : Int) * t)))) + (2 : Int))) (List.length s))
 (cond (inR (IntKind.wrap IntKind.i64 ((IntKind.wrap IntKind.i64 (at_ + (IntKind.wrap IntKind.i64 ((4 : Int) * t)))) + (3 : Int))) (List.length s))
 (cond (decide ((((List.length w) + 1) * 4) <= 70368744177664))
 (rec (w ++ ([(IntKind.wrap IntKind.u32 ((IntKind.wrap IntKind.u32 ((IntKind.wrap IntKind.u32 ((z8m IntKind.u32 (IntKind.wrap IntKind.u32 (((UInt8.toNat (List.getD s (Int.toNat (IntKind.wrap IntKind.i64 (at_ + (IntKind.wrap IntKind.i64 ((4 : Int) * t))))) (0 : UInt8))) : Nat) : Int)) (24 : Int)) + (z8m IntKind.u32 (IntKind.wrap IntKind.u32 (((UInt8.toNat (List.getD s (Int.toNat (IntKind.wrap IntKind.i64 ((IntKind.wrap IntKind.i64 (at_ + (IntKind.wrap IntKind.i64 ((4 : Int) * t)))) + (1 : Int)))) (0 : UInt8))) : Nat) : Int)) (16 : Int)))) + (z8m IntKind.u32 (IntKind.wrap IntKind.u32 (((UInt8.toNat (List.getD s (Int.toNat (IntKind.wrap IntKind.i64 ((IntKind.wrap IntKind.i64 (at_ + (IntKind.wrap IntKind.i64 ((4 : Int) * t)))) + (2 : Int)))) (0 : UInt8))) : Nat) : Int)) (8 : Int)))) + (IntKind.wrap IntKind.u32 (((UInt8.toNat (List.getD s (Int.toNat (IntKind.wrap IntKind.i64 ((IntKind.wrap IntKind.i64 (at_ + (IntKind.wrap IntKind.i64 ((4 : Int) * t)))) + (3 : Int)))) (0 : UInt8))) : Nat) : Int))))] : List Int)) (IntKind.wrap IntKind.i64 (t + (1 : Int))))
 (none))
 (none))
 (none))
 (none))
 (none))
 (k0 w)

def z7i (N : Nat) (s : (List UInt8)) (at_ : Int) (k : (List Int)) (h : (List Int)) (x8 : (List Int)) (w : (List Int)) (t : Int) (k0 : (List Int) -> Option (List Int)) : Option (List Int) :=
 iter (fun (v : ((List Int) × Int)) r => z7f N s at_ k h x8 v.1 v.2 (fun w t => (r (w, t))) k0) N (w, t)

def z1oc (N : Nat) (i : ((List UInt8) × Int × (List Int) × (List Int) × (List Int))) (v : ((List Int) × Int)) (r : ((List Int) × Int) -> Option (List Int)) (K : Ex -> List A -> Option (List Int)) : Option (List Int) :=
 z7f N i.1 i.2.1 i.2.2.1 i.2.2.2.1 i.2.2.2.2 v.1 v.2 (fun w t => (r (w, t))) (fun a3 => (K (.exit 0) (mkS SQ56 207 (i.2.2.1, i.2.2.2.1, i.2.2.2.2, a3, ()))))

def z1mf (N : Nat) : Hd (List Int) := fun st K => (unS SQ23 206 (restr zx9 0 st)).bind fun x => iter (fun v r => z1oc N ((fun x => (x.1, x.2.1, x.2.2.1, x.2.2.2.1, x.2.2.2.2.1)) x) v r K) N ((fun x => (x.2.2.2.2.2.1, x.2.2.2.2.2.2.1)) x)

def t1_84 (N : Nat) : Tab (List Int) := []

theorem z1k2 {N : Nat} {c : Ctx} (hb : Base Tryz.prog (z1gb N) c) : zo Tryz.prog c (zl zf4 [0, 1, 0, 1, 1]) (z1mf N) :=
  z1i (s := SQ23) (m := 206) (z1oc N) zx9 N (fun x => (x.1, x.2.1, x.2.2.1, x.2.2.2.1, x.2.2.2.2.1)) (fun x => (x.2.2.2.2.2.1, x.2.2.2.2.2.2.1)) (fun i v => (i.1, i.2.1, i.2.2.1, i.2.2.2.1, i.2.2.2.2, v.1, v.2, ())) (fun _ => rfl) (zi hb N (t1_84 N) z1gy zf4 TabOk.nil [0, 0, 1, 0, 1, 1] _ rfl) (fun i v r K => by kernel_rfl)

def z7e (N : Nat) (k : (List Int)) (h : (List Int)) (x8 : (List Int)) (w : (List Int)) (t : Int) (rec : (List Int) -> Int -> Option (List Int)) (k0 : (List Int) -> Option (List Int)) : Option (List Int) :=
 cond (decide (t < (64 : Int)))
 (cond (inR (IntKind.wrap IntKind.i64 (t - (15 : Int))) (List.length w))
 (cond (decide ((Int.toNat (IntKind.wrap IntKind.i64 (t - (15 : Int)))) < (List.length w)))
 (cond (inR (IntKind.wrap IntKind.i64 (t - (2 : Int))) (List.length w))
 (cond (decide ((Int.toNat (IntKind.wrap IntKind.i64 (t - (2 : Int)))) < (List.length w)))
 (cond (inR (IntKind.wrap IntKind.i64 (t - (7 : Int))) (List.length w))
 (cond (decide ((Int.toNat (IntKind.wrap IntKind.i64 (t - (7 : Int)))) < (List.length w)))
 (cond (inR (IntKind.wrap IntKind.i64 (t - (16 : Int))) (List.length w))
 (cond (decide ((Int.toNat (IntKind.wrap IntKind.i64 (t - (16 : Int)))) < (List.length w)))
 (cond (decide ((((List.length w) + 1) * 4) <= 70368744177664))
 (rec (w ++ ([(IntKind.wrap IntKind.u32 ((IntKind.wrap IntKind.u32 ((IntKind.wrap IntKind.u32 ((zj Go.BinOp.xor IntKind.u32 (zj Go.BinOp.xor IntKind.u32 (zj Go.BinOp.or IntKind.u32 (z39 IntKind.u32 (List.getD w (Int.toNat (IntKind.wrap IntKind.i64 (t - (2 : Int)))) (0 : Int)) (IntKind.wrap IntKind.u64 (17 : Int))) (z8m IntKind.u32 (List.getD w (Int.toNat (IntKind.wrap IntKind.i64 (t - (2 : Int)))) (0 : Int)) (IntKind.wrap IntKind.u64 (IntKind.wrap IntKind.i64 ((32 : Int) - (17 : Int)))))) (zj Go.BinOp.or IntKind.u32 (z39 IntKind.u32 (List.getD w (Int.toNat (IntKind.wrap IntKind.i64 (t - (2 : Int)))) (0 : Int)) (IntKind.wrap IntKind.u64 (19 : Int))) (z8m IntKind.u32 (List.getD w (Int.toNat (IntKind.wrap IntKind.i64 (t - (2 : Int)))) (0 : Int)) (IntKind.wrap IntKind.u64 (IntKind.wrap IntKind.i64 ((32 : Int) - (19 : Int))))))) (z39 IntKind.u32 (List.getD w (Int.toNat (IntKind.wrap IntKind.i64 (t - (2 : Int)))) (0 : Int)) (10 : Int))) + (List.getD w (Int.toNat (IntKind.wrap IntKind.i64 (t - (7 : Int)))) (0 : Int)))) + (zj Go.BinOp.xor IntKind.u32 (zj Go.BinOp.xor IntKind.u32 (zj Go.BinOp.or IntKind.u32 (z39 IntKind.u32 (List.getD w (Int.toNat (IntKind.wrap IntKind.i64 (t - (15 : Int)))) (0 : Int)) (IntKind.wrap IntKind.u64 (7 : Int))) (z8m IntKind.u32 (List.getD w (Int.toNat (IntKind.wrap IntKind.i64 (t - (15 : Int)))) (0 : Int)) (IntKind.wrap IntKind.u64 (IntKind.wrap IntKind.i64 ((32 : Int) - (7 : Int)))))) (zj Go.BinOp.or IntKind.u32 (z39 IntKind.u32 (List.getD w (Int.toNat (IntKind.wrap IntKind.i64 (t - (15 : Int)))) (0 : Int)) (IntKind.wrap IntKind.u64 (18 : Int))) (z8m IntKind.u32 (List.getD w (Int.toNat (IntKind.wrap IntKind.i64 (t - (15 : Int)))) (0 : Int)) (IntKind.wrap IntKind.u64 (IntKind.wrap IntKind.i64 ((32 : Int) - (18 : Int))))))) (z39 IntKind.u32 (List.getD w (Int.toNat (IntKind.wrap IntKind.i64 (t - (15 : Int)))) (0 : Int)) (3 : Int))))) + (List.getD w (Int.toNat (IntKind.wrap IntKind.i64 (t - (16 : Int)))) (0 : Int))))] : List Int)) (IntKind.wrap IntKind.i64 (t + (1 : Int))))
 (none))
 (none))
 (none))
 (none))
 (none))
 (none))
 (none))
 (none))
 (none))
 (k0 w)

def z7h (N : Nat) (k : (List Int)) (h : (List Int)) (x8 : (List Int)) (w : (List Int)) (t : Int) (k0 : (List Int) -> Option (List Int)) : Option (List Int) :=
 iter (fun (v : ((List Int) × Int)) r => z7e N k h x8 v.1 v.2 (fun w t => (r (w, t))) k0) N (w, t)

def z1nr (N : Nat) (i : ((List Int) × (List Int) × (List Int))) (v : ((List Int) × Int)) (r : ((List Int) × Int) -> Option (List Int)) (K : Ex -> List A -> Option (List Int)) : Option (List Int) :=
 z7e N i.1 i.2.1 i.2.2 v.1 v.2 (fun w t => (r (w, t))) (fun a3 => (K (.exit 2) (mkS SQ56 207 (i.1, i.2.1, i.2.2, a3, ()))))

def z1lu (N : Nat) : Hd (List Int) := fun st K => (unS SQ39 204 (restr [12, 9, 4, 3, 8] 0 st)).bind fun x => iter (fun v r => z1nr N ((fun x => (x.1, x.2.1, x.2.2.1)) x) v r K) N ((fun x => (x.2.2.2.1, x.2.2.2.2.1)) x)

def t2_84 (N : Nat) : Tab (List Int) := []

theorem z1jh {N : Nat} {c : Ctx} (hb : Base Tryz.prog (z1gb N) c) : zo Tryz.prog c (zl zf4 [0, 1, 0, 1, 1, 1]) (z1lu N) :=
  z1i (s := SQ39) (m := 204) (z1nr N) [12, 9, 4, 3, 8] N (fun x => (x.1, x.2.1, x.2.2.1)) (fun x => (x.2.2.2.1, x.2.2.2.2.1)) (fun i v => (i.1, i.2.1, i.2.2, v.1, v.2, ())) (fun _ => rfl) (zi hb N (t2_84 N) z1gy zf4 TabOk.nil z149 _ rfl) (fun i v r K => by kernel_rfl)

def z7d (N : Nat) (k : (List Int)) (h : (List Int)) (x8 : (List Int)) (w : (List Int)) (v_ : (List Int)) (t : Int) (rec : (List Int) -> Int -> Option (List Int)) (k0 : (List Int) -> Option (List Int)) : Option (List Int) :=
 cond (decide (t < (64 : Int)))
 (cond (decide (4 < (List.length v_)))
 (cond (decide (4 < (List.length v_)))
 (cond (decide (4 < (List.length v_)))
 (cond (decide (4 < (List.length v_)))
 (cond (decide (5 < (List.length v_)))
 (cond (decide (4 < (List.length v_)))
 (cond (decide (6 < (List.length v_)))
 (cond (decide (7 < (List.length v_)))
 (cond (inR t (List.length k))
 (cond (inR t (List.length w))
 (cond (decide ((Int.toNat t) < (List.length w)))
 (cond (decide (0 < (List.length v_)))
 (cond (decide (0 < (List.length v_)))
 (cond (decide (0 < (List.length v_)))
 (cond (decide (0 < (List.length v_)))
 (cond (decide (1 < (List.length v_)))
 (cond (decide (0 < (List.length v_)))
 (cond (decide (2 < (List.length v_)))
 (cond (decide (1 < (List.length v_)))
 (cond (decide (2 < (List.length v_)))
 (cond (decide (0 < (List.length v_)))
 (cond (decide (1 < (List.length v_)))
 (cond (decide (2 < (List.length v_)))
 (cond (decide (3 < (List.length v_)))
 (cond (decide (4 < (List.length v_)))
 (cond (decide (5 < (List.length v_)))
 (cond (decide (6 < (List.length v_)))
 (rec ([(IntKind.wrap IntKind.u32 ((IntKind.wrap IntKind.u32 ((IntKind.wrap IntKind.u32 ((IntKind.wrap IntKind.u32 ((IntKind.wrap IntKind.u32 ((IntKind.wrap IntKind.u32 ((List.getD v_ 7 (0 : Int)) + (zj Go.BinOp.xor IntKind.u32 (zj Go.BinOp.xor IntKind.u32 (zj Go.BinOp.or IntKind.u32 (z39 IntKind.u32 (List.getD v_ 4 (0 : Int)) (IntKind.wrap IntKind.u64 (6 : Int))) (z8m IntKind.u32 (List.getD v_ 4 (0 : Int)) (IntKind.wrap IntKind.u64 (IntKind.wrap IntKind.i64 ((32 : Int) - (6 : Int)))))) (zj Go.BinOp.or IntKind.u32 (z39 IntKind.u32 (List.getD v_ 4 (0 : Int)) (IntKind.wrap IntKind.u64 (11 : Int))) (z8m IntKind.u32 (List.getD v_ 4 (0 : Int)) (IntKind.wrap IntKind.u64 (IntKind.wrap IntKind.i64 ((32 : Int) - (11 : Int))))))) (zj Go.BinOp.or IntKind.u32 (z39 IntKind.u32 (List.getD v_ 4 (0 : Int)) (IntKind.wrap IntKind.u64 (25 : Int))) (z8m IntKind.u32 (List.getD v_ 4 (0 : Int)) (IntKind.wrap IntKind.u64 (IntKind.wrap IntKind.i64 ((32 : Int) - (25 : Int))))))))) + (zj Go.BinOp.xor IntKind.u32 (zj Go.BinOp.and IntKind.u32 (List.getD v_ 4 (0 : Int)) (List.getD v_ 5 (0 : Int))) (zj Go.BinOp.and IntKind.u32 (zj Go.BinOp.xor IntKind.u32 (if ((IntKind.signed IntKind.u32) = true) then (-(1 : Int)) else (IntKind.max IntKind.u32)) (List.getD v_ 4 (0 : Int))) (List.getD v_ 6 (0 : Int)))))) + (List.getD k (Int.toNat t) (0 : Int)))) + (List.getD w (Int.toNat t) (0 : Int)))) + (zj Go.BinOp.xor IntKind.u32 (zj Go.BinOp.xor IntKind.u32 (zj Go.BinOp.or IntKind.u32 (z39 IntKind.u32 (List.getD v_ 0 (0 : Int)) (IntKind.wrap IntKind.u64 (2 : Int))) (z8m IntKind.u32 (List.getD v_ 0 (0 : Int)) (IntKind.wrap IntKind.u64 (IntKind.wrap IntKind.i64 ((32 : Int) - (2 : Int)))))) (zj Go.BinOp.or IntKind.u32 (z39 IntKind.u32 (List.getD v_ 0 (0 : Int)) (IntKind.wrap IntKind.u64 (13 : Int))) (z8m IntKind.u32 (List.getD v_ 0 (0 : Int)) (IntKind.wrap IntKind.u64 (IntKind.wrap IntKind.i64 ((32 : Int) - (13 : Int))))))) (zj Go.BinOp.or IntKind.u32 (z39 IntKind.u32 (List.getD v_ 0 (0 : Int)) (IntKind.wrap IntKind.u64 (22 : Int))) (z8m IntKind.u32 (List.getD v_ 0 (0 : Int)) (IntKind.wrap IntKind.u64 (IntKind.wrap IntKind.i64 ((32 : Int) - (22 : Int))))))))) + (zj Go.BinOp.xor IntKind.u32 (zj Go.BinOp.xor IntKind.u32 (zj Go.BinOp.and IntKind.u32 (List.getD v_ 0 (0 : Int)) (List.getD v_ 1 (0 : Int))) (zj Go.BinOp.and IntKind.u32 (List.getD v_ 0 (0 : Int)) (List.getD v_ 2 (0 : Int)))) (zj Go.BinOp.and IntKind.u32 (List.getD v_ 1 (0 : Int)) (List.getD v_ 2 (0 : Int)))))), (List.getD v_ 0 (0 : Int)), (List.getD v_ 1 (0 : Int)), (List.getD v_ 2 (0 : Int)), (IntKind.wrap IntKind.u32 ((List.getD v_ 3 (0 : Int)) + (IntKind.wrap IntKind.u32 ((IntKind.wrap IntKind.u32 ((IntKind.wrap IntKind.u32 ((IntKind.wrap IntKind.u32 ((List.getD v_ 7 (0 : Int)) + (zj Go.BinOp.xor IntKind.u32 (zj Go.BinOp.xor IntKind.u32 (zj Go.BinOp.or IntKind.u32 (z39 IntKind.u32 (List.getD v_ 4 (0 : Int)) (IntKind.wrap IntKind.u64 (6 : Int))) (z8m IntKind.u32 (List.getD v_ 4 (0 : Int)) (IntKind.wrap IntKind.u64 (IntKind.wrap IntKind.i64 ((32 : Int) - (6 : Int)))))) (zj Go.BinOp.or IntKind.u32 (z39 IntKind.u32 (List.getD v_ 4 (0 : Int)) (IntKind.wrap IntKind.u64 (11 : Int))) (z8m IntKind.u32 (List.getD v_ 4 (0 : Int)) (IntKind.wrap IntKind.u64 (IntKind.wrap IntKind.i64 ((32 : Int) - (11 : Int))))))) (zj Go.BinOp.or IntKind.u32 (z39 IntKind.u32 (List.getD v_ 4 (0 : Int)) (IntKind.wrap IntKind.u64 (25 : Int))) (z8m IntKind.u32 (List.getD v_ 4 (0 : Int)) (IntKind.wrap IntKind.u64 (IntKind.wrap IntKind.i64 ((32 : Int) - (25 : Int))))))))) + (zj Go.BinOp.xor IntKind.u32 (zj Go.BinOp.and IntKind.u32 (List.getD v_ 4 (0 : Int)) (List.getD v_ 5 (0 : Int))) (zj Go.BinOp.and IntKind.u32 (zj Go.BinOp.xor IntKind.u32 (if ((IntKind.signed IntKind.u32) = true) then (-(1 : Int)) else (IntKind.max IntKind.u32)) (List.getD v_ 4 (0 : Int))) (List.getD v_ 6 (0 : Int)))))) + (List.getD k (Int.toNat t) (0 : Int)))) + (List.getD w (Int.toNat t) (0 : Int)))))), (List.getD v_ 4 (0 : Int)), (List.getD v_ 5 (0 : Int)), (List.getD v_ 6 (0 : Int))] : List Int) (IntKind.wrap IntKind.i64 (t + (1 : Int))))
 (none))
 (none))
 (none))
 (none))
 (none))
 (none))
 (none))
 (none))
 (none))
 (none))
 (none))
 (none))
 (none))
 (none))
 (none))
 (none))
 (none))
 (none))
 (none))
 (none))
 (none))
 (none))
 (none))
 (none))
 (none))
 (none))
 (none))
 (k0 v_)

def z7g (N : Nat) (k : (List Int)) (h : (List Int)) (x8 : (List Int)) (w : (List Int)) (v_ : (List Int)) (t : Int) (k0 : (List Int) -> Option (List Int)) : Option (List Int) :=
 iter (fun (v : ((List Int) × Int)) r => z7d N k h x8 w v.1 v.2 (fun v_ t => (r (v_, t))) k0) N (v_, t)

def z1nl (N : Nat) (i : ((List Int) × (List Int) × (List Int) × (List Int))) (v : ((List Int) × Int)) (r : ((List Int) × Int) -> Option (List Int)) (K : Ex -> List A -> Option (List Int)) : Option (List Int) :=
 z7d N i.1 i.2.1 i.2.2.1 i.2.2.2 v.1 v.2 (fun v_ t => (r (v_, t))) (fun a2 => (K (.exit 4) (mkS [(4, .box (.arr 8 (.int .u32))), (3, .box (.arr 8 (.int .u32))), (8, .box (.arr 8 (.int .u32)))] 199 (i.2.1, i.2.2.1, a2, ()))))

def z1lo (N : Nat) : Hd (List Int) := fun st K => (unS SQ25 198 (restr zx7 0 st)).bind fun x => iter (fun v r => z1nl N ((fun x => (x.1, x.2.1, x.2.2.1, x.2.2.2.1)) x) v r K) N ((fun x => (x.2.2.2.2.1, x.2.2.2.2.2.1)) x)

def t3_84 (N : Nat) : Tab (List Int) := []

theorem z1jb {N : Nat} {c : Ctx} (hb : Base Tryz.prog (z1gb N) c) : zo Tryz.prog c (zl zf4 z173) (z1lo N) :=
  z1i (s := SQ25) (m := 198) (z1nl N) zx7 N (fun x => (x.1, x.2.1, x.2.2.1, x.2.2.2.1)) (fun x => (x.2.2.2.2.1, x.2.2.2.2.2.1)) (fun i v => (i.1, i.2.1, i.2.2.1, i.2.2.2, v.1, v.2, ())) (fun _ => rfl) (zi hb N (t3_84 N) z1gy zf4 TabOk.nil z13w _ rfl) (fun i v r K => by kernel_rfl)

def zbl (N : Nat) (h : (List Int)) (x8 : (List Int)) (v_ : (List Int)) (i : Int) (rec : (List Int) -> Int -> Option (List Int)) (k0 : (List Int) -> Option (List Int)) : Option (List Int) :=
 cond (decide (i < (8 : Int)))
 (cond (inR i 8)
 (cond (decide ((Int.toNat i) < (List.length v_)))
 (cond (inR i 8)
 (cond (decide ((Int.toNat i) < (List.length h)))
 (cond (inR i 8)
 (cond (decide ((Int.toNat i) < (List.length v_)))
 (rec (List.set v_ (Int.toNat i) (IntKind.wrap IntKind.u32 ((List.getD v_ (Int.toNat i) (0 : Int)) + (List.getD h (Int.toNat i) (0 : Int))))) (IntKind.wrap IntKind.i64 (i + (1 : Int))))
 (none))
 (none))
 (none))
 (none))
 (none))
 (none))
 (k0 v_)

def zbm (N : Nat) (h : (List Int)) (x8 : (List Int)) (v_ : (List Int)) (i : Int) (k0 : (List Int) -> Option (List Int)) : Option (List Int) :=
 iter (fun (v : ((List Int) × Int)) r => zbl N h x8 v.1 v.2 (fun v_ i => (r (v_, i))) k0) N (v_, i)

def z1ng (N : Nat) (i : ((List Int) × (List Int))) (v : ((List Int) × Int)) (r : ((List Int) × Int) -> Option (List Int)) (K : Ex -> List A -> Option (List Int)) : Option (List Int) :=
 zbl N i.1 i.2 v.1 v.2 (fun v_ i => (r (v_, i))) (fun a1 => (K (.exit 6) (mkS [(8, .box (.arr 8 (.int .u32))), (8, .box (.arr 8 (.int .u32)))] 199 (i.2, a1, ()))))

def z1lj (N : Nat) : Hd (List Int) := fun st K => (unS SQ53 192 (restr [24, 17, 4, 8] 0 st)).bind fun x => iter (fun v r => z1ng N ((fun x => (x.1, x.2.1)) x) v r K) N ((fun x => (x.2.2.1, x.2.2.2.1)) x)

def t4_84 (N : Nat) : Tab (List Int) := []

theorem z1j6 {N : Nat} {c : Ctx} (hb : Base Tryz.prog (z1gb N) c) : zo Tryz.prog c (zl zf4 [0, 1, 0, 1, 1, 1, 1, 1, 1]) (z1lj N) :=
  z1i (s := SQ53) (m := 192) (z1ng N) [24, 17, 4, 8] N (fun x => (x.1, x.2.1)) (fun x => (x.2.2.1, x.2.2.2.1)) (fun i v => (i.1, i.2, v.1, v.2, ())) (fun _ => rfl) (zi hb N (t4_84 N) z1gy zf4 TabOk.nil [0, 0, 1, 0, 1, 1, 1, 1, 1, 1] _ rfl) (fun i v r K => by kernel_rfl)

def z4p (N : Nat) (h : (List Int)) (s : (List UInt8)) (at_ : Int) (k : (List Int)) : Option (List Int) :=
 z7i N s at_ k h ([(0 : Int), (0 : Int), (0 : Int), (0 : Int), (0 : Int), (0 : Int), (0 : Int), (0 : Int)] : List Int) ([] : List Int) (0 : Int)
 (fun w => z7h N k h ([(0 : Int), (0 : Int), (0 : Int), (0 : Int), (0 : Int), (0 : Int), (0 : Int), (0 : Int)] : List Int) w (16 : Int)
 (fun w1 => z7g N k h ([(0 : Int), (0 : Int), (0 : Int), (0 : Int), (0 : Int), (0 : Int), (0 : Int), (0 : Int)] : List Int) w1 h (0 : Int)
 (fun v_ => zbm N h ([(0 : Int), (0 : Int), (0 : Int), (0 : Int), (0 : Int), (0 : Int), (0 : Int), (0 : Int)] : List Int) v_ (0 : Int)
 (fun v_1 => some v_1))))

def t_84 (N : Nat) : Tab (List Int) := [([0, 1, 0, 1, 1], z1mf N), ([0, 1, 0, 1, 1, 1], z1lu N), (z173, z1lo N), ([0, 1, 0, 1, 1, 1, 1, 1, 1], z1lj N)]

theorem z1bk (N : Nat) (x : z1j SQ36) : z2j (z1gb N) N (t_84 N) z1gy Tryz.f70 (mkS SQ36 0 x) (z1h (.v (.arr 8 (.int .u32))) 4) = z4p N x.1 x.2.1 x.2.2.1 x.2.2.2.1 := by kernel_rfl

def zah (N : Nat) : List A -> Res := z12 SQ36 (fun x => z4p N x.1 x.2.1 x.2.2.1 x.2.2.2.1) (z2k (.v (.arr 8 (.int .u32))) 4)

theorem zj1 (N : Nat) : Contract Tryz.prog glob 70 (zah N) :=
  Contract.of (E := z1gb N) (H := t_84 N) (L := z1gy) (N := N) (body := zf4) (K := (z1h (.v (.arr 8 (.int .u32))) 4)) (z1qf N) Tryz.func70 (by kernel_rfl) (by decide) (fun _ hb => (TabOk.cons (z1k2 hb) (TabOk.cons (z1jh hb) (TabOk.cons (z1jb hb) (TabOk.cons (z1j6 hb) TabOk.nil))))) (fun x y h => by rw [z1bk]; exact h) (zm (s := (.v (.arr 8 (.int .u32)))) (m := 4))

def zwo : Code := (Tryz.f71.body).getD .skip

def L_85 : List (List Nat × List Nat) := [([0], [1]), ([0, 1], [3, 1]), ([0, 0, 1, 1], [4, 3, 1]), ([0, 1, 0, 1, 1], [4, 3, 1]), (z193, [6, 3, 4, 1]), (z192, [3, 4, 1]), (z194, [3]), ([0, 0, 1, 0, 0, 1, 0, 1, 1], [4, 3, 1]), (PQ9, [4, 3, 1]), (z191, [4, 3, 1]), ([1, 0, 1, 1], [3]), ([0, 1, 1, 1], [2]), ([1, 1, 1, 1], [2])]

def E_85 (N : Nat) : Env := z16 tys glob [] [(3, (.int .u8))] [] [] false [] [(123, zd N), (66, zb N), (98, z7 N)]

theorem z1qe (N : Nat) : EnvOk Tryz.prog (E_85 N) := zk mixed zp (FnsOk.nil) (ItsOk.cons (zf N) (ItsOk.cons (ze N) (ItsOk.cons (z8 N) (ItsOk.nil))))

def zbo (N : Nat) (h : (List Int)) (b : (List Int)) (i : Int) (rec : (List Int) -> Int -> Option (List UInt8)) (k0 : (List Int) -> Option (List UInt8)) : Option (List UInt8) :=
 cond (decide (i < (8 : Int)))
 (cond (inR i 8)
 (cond (decide ((Int.toNat i) < (List.length h)))
 (cond (inR i 8)
 (cond (decide ((Int.toNat i) < (List.length h)))
 (cond (inR i 8)
 (cond (decide ((Int.toNat i) < (List.length h)))
 (cond (inR i 8)
 (cond (decide ((Int.toNat i) < (List.length h)))
 (cond (decide ((((List.length b) + 4) * 1) <= 70368744177664))
 (rec (b ++ ([(IntKind.wrap IntKind.u8 (z39 IntKind.u32 (List.getD h (Int.toNat i) (0 : Int)) (24 : Int))), (IntKind.wrap IntKind.u8 (z39 IntKind.u32 (List.getD h (Int.toNat i) (0 : Int)) (16 : Int))), (IntKind.wrap IntKind.u8 (z39 IntKind.u32 (List.getD h (Int.toNat i) (0 : Int)) (8 : Int))), (IntKind.wrap IntKind.u8 (List.getD h (Int.toNat i) (0 : Int)))] : List Int)) (IntKind.wrap IntKind.i64 (i + (1 : Int))))
 (none))
 (none))
 (none))
 (none))
 (none))
 (none))
 (none))
 (none))
 (none))
 (k0 b)

def zj2 (N : Nat) (h : (List Int)) (b : (List Int)) (i : Int) (k0 : (List Int) -> Option (List UInt8)) : Option (List UInt8) :=
 iter (fun (v : ((List Int) × Int)) r => zbo N h v.1 v.2 (fun b i => (r (b, i))) k0) N (b, i)

def z1ob (N : Nat) (i : (List Int)) (v : ((List Int) × Int)) (r : ((List Int) × Int) -> Option (List UInt8)) (K : Ex -> List A -> Option (List UInt8)) : Option (List UInt8) :=
 zbo N i v.1 v.2 (fun b i => (r (b, i))) (fun a0 => (K (.exit 0) (mkS [(3, .row (.int .u8))] 29 (a0, ()))))

def z1me (N : Nat) : Hd (List UInt8) := fun st K => (unS [(1, .box (.arr 8 (.int .u32))), (1, .row (.int .u8)), (0, .v (.int .i64))] 28 (restr [4, 3, 1] 0 st)).bind fun x => iter (fun v r => z1ob N ((fun x => x.1) x) v r K) N ((fun x => (x.2.1, x.2.2.1)) x)

def t1_85 (N : Nat) : Tab (List UInt8) := []

theorem z1k1 {N : Nat} {c : Ctx} (hb : Base Tryz.prog (E_85 N) c) : zo Tryz.prog c (zl zwo [0, 1, 0, 1, 1]) (z1me N) :=
  z1i (s := [(1, .box (.arr 8 (.int .u32))), (1, .row (.int .u8)), (0, .v (.int .i64))]) (m := 28) (z1ob N) [4, 3, 1] N (fun x => x.1) (fun x => (x.2.1, x.2.2.1)) (fun i v => (i, v.1, v.2, ())) (fun _ => rfl) (zi hb N (t1_85 N) L_85 zwo TabOk.nil [0, 0, 1, 0, 1, 1] _ rfl) (fun i v r K => by kernel_rfl)

def z3h (N : Nat) (h : (List Int)) : Option (List UInt8) :=
 zj2 N h ([] : List Int) (0 : Int)
 (fun b => some (z27 b))

def t_85 (N : Nat) : Tab (List UInt8) := [([0, 1, 0, 1, 1], z1me N)]

theorem z1bj (N : Nat) (x : z1j z1go) : z2j (E_85 N) N (t_85 N) L_85 Tryz.f71 (mkS z1go 0 x) (z1h (.v .str) 1) = z3h N x.1 := by kernel_rfl

def zai (N : Nat) : List A -> Res := z12 z1go (fun x => z3h N x.1) (z2k (.v .str) 1)

theorem zj3 (N : Nat) : Contract Tryz.prog glob 71 (zai N) :=
  Contract.of (E := E_85 N) (H := t_85 N) (L := L_85) (N := N) (body := zwo) (K := (z1h (.v .str) 1)) (z1qe N) Tryz.func71 (by kernel_rfl) (by decide) (fun _ hb => (TabOk.cons (z1k1 hb) TabOk.nil)) (fun x y h => by rw [z1bj]; exact h) (zm (s := (.v .str)) (m := 1))

def zwn : Code := (Tryz.f42.body).getD .skip

def L_86 : List (List Nat × List Nat) := [([0], [0]), ([0, 1], [3]), ([0, 1, 1], [3, 4]), ([0, 1, 1, 1], [3, 5, 4]), ([0, 0, 1, 1, 1, 1], [6, 3, 5, 4]), (z13t, [6, 3, 5, 4]), ([0, 0, 0, 0, 1, 0, 1, 1, 1, 1], [14, 5, 3, 6, 4]), ([1, 0, 0, 0, 1, 0, 1, 1, 1, 1], [5, 3, 6, 4]), ([1, 1, 0, 0, 0, 1, 0, 1, 1, 1, 1], [5]), ([0, 0, 1, 0, 0, 1, 0, 1, 1, 1, 1], [6, 3, 5, 4]), ([0, 1, 0, 0, 1, 0, 1, 1, 1, 1], [6, 3, 5, 4]), ([1, 1, 0, 0, 1, 0, 1, 1, 1, 1], [6, 3, 5, 4]), ([1, 0, 1, 1, 1, 1], [5]), ([0, 1, 1, 1, 1, 1], [2]), ([1, 1, 1, 1, 1, 1], [2])]

def E_86 (N : Nat) : Env := z16 tys glob [(71, zai N), (70, zah N), (69, z9m N), (68, z9l N), (67, zbp N)] [(4, (.int .u32))] [] [] false [] [(123, zd N), (66, zb N), (98, z7 N)]

theorem z1qd (N : Nat) : EnvOk Tryz.prog (E_86 N) := zk mixed zp (FnsOk.cons (zj3 N) (FnsOk.cons (zj1 N) (FnsOk.cons (zhq N) (FnsOk.cons (zhp N) (FnsOk.cons (zk0 N) (FnsOk.nil)))))) (ItsOk.cons (zf N) (ItsOk.cons (ze N) (ItsOk.cons (z8 N) (ItsOk.nil))))

def z80 (N : Nat) (p : (List UInt8)) (k : (List Int)) (h : (List Int)) (at_ : Int) (rec : (List Int) -> Int -> Option (List UInt8)) (k0 : (List Int) -> Option (List UInt8)) : Option (List UInt8) :=
 cond (decide (at_ < (((List.length p) : Nat) : Int)))
 ((z4p N h p at_ k).bind fun y =>
 rec y (IntKind.wrap IntKind.i64 (at_ + (64 : Int))))
 (k0 h)

def z50 (N : Nat) (p : (List UInt8)) (k : (List Int)) (h : (List Int)) (at_ : Int) (k0 : (List Int) -> Option (List UInt8)) : Option (List UInt8) :=
 iter (fun (v : ((List Int) × Int)) r => z80 N p k v.1 v.2 (fun h at_ => (r (h, at_))) k0) N (h, at_)

def z1oa (N : Nat) (i : ((List UInt8) × (List Int))) (v : ((List Int) × Int)) (r : ((List Int) × Int) -> Option (List UInt8)) (K : Ex -> List A -> Option (List UInt8)) : Option (List UInt8) :=
 z80 N i.1 i.2 v.1 v.2 (fun h at_ => (r (h, at_))) (fun a0 => (K (.exit 0) (mkS [(5, .box (.arr 8 (.int .u32)))] 18 (a0, ()))))

def z1md (N : Nat) : Hd (List UInt8) := fun st K => (unS SQ92 17 (restr [6, 3, 5, 4] 0 st)).bind fun x => iter (fun v r => z1oa N ((fun x => (x.1, x.2.1)) x) v r K) N ((fun x => (x.2.2.1, x.2.2.2.1)) x)

def t1_86 (N : Nat) : Tab (List UInt8) := []

theorem z1k0 {N : Nat} {c : Ctx} (hb : Base Tryz.prog (E_86 N) c) : zo Tryz.prog c (zl zwn z13t) (z1md N) :=
  z1i (s := SQ92) (m := 17) (z1oa N) [6, 3, 5, 4] N (fun x => (x.1, x.2.1)) (fun x => (x.2.2.1, x.2.2.2.1)) (fun i v => (i.1, i.2, v.1, v.2, ())) (fun _ => rfl) (zi hb N (t1_86 N) L_86 zwn TabOk.nil z1pp _ rfl) (fun i v r K => by kernel_rfl)

def z2o (N : Nat) (s : (List UInt8)) : Option (List UInt8) :=
 (z40 N s).bind fun y =>
 z50 N y (List.set (List.set (List.set (List.set (List.set (List.set (List.set (List.set (List.set (List.set (List.set (List.set (List.set (List.set (List.set (List.set (List.set (List.set (List.set (List.set (List.set (List.set (List.set (List.set (List.set (List.set (List.set (List.set (List.set (List.set (List.set (List.set (List.set (List.set (List.set (List.set (List.set (List.set (List.set (List.set (List.set (List.set (List.set (List.set (List.set (List.set (List.set (List.set (List.set (List.set (List.set (List.set (List.set (List.set (List.set (List.set (List.set (List.set (List.set (List.set (List.set (List.set (List.set (List.set (List.replicate 64 (0 : Int)) 0 (1116352408 : Int)) 1 (1899447441 : Int)) 2 (3049323471 : Int)) 3 (3921009573 : Int)) 4 (961987163 : Int)) 5 (1508970993 : Int)) 6 (2453635748 : Int)) 7 (2870763221 : Int)) 8 (3624381080 : Int)) 9 (310598401 : Int)) 10 (607225278 : Int)) 11 (1426881987 : Int)) 12 (1925078388 : Int)) 13 (2162078206 : Int)) 14 (2614888103 : Int)) 15 (3248222580 : Int)) 16 (3835390401 : Int)) 17 (4022224774 : Int)) 18 (264347078 : Int)) 19 (604807628 : Int)) 20 (770255983 : Int)) 21 (1249150122 : Int)) 22 (1555081692 : Int)) 23 (1996064986 : Int)) 24 (2554220882 : Int)) 25 (2821834349 : Int)) 26 (2952996808 : Int)) 27 (3210313671 : Int)) 28 (3336571891 : Int)) 29 (3584528711 : Int)) 30 (113926993 : Int)) 31 (338241895 : Int)) 32 (666307205 : Int)) 33 (773529912 : Int)) 34 (1294757372 : Int)) 35 (1396182291 : Int)) 36 (1695183700 : Int)) 37 (1986661051 : Int)) 38 (2177026350 : Int)) 39 (2456956037 : Int)) 40 (2730485921 : Int)) 41 (2820302411 : Int)) 42 (3259730800 : Int)) 43 (3345764771 : Int)) 44 (3516065817 : Int)) 45 (3600352804 : Int)) 46 (4094571909 : Int)) 47 (275423344 : Int)) 48 (430227734 : Int)) 49 (506948616 : Int)) 50 (659060556 : Int)) 51 (883997877 : Int)) 52 (958139571 : Int)) 53 (1322822218 : Int)) 54 (1537002063 : Int)) 55 (1747873779 : Int)) 56 (1955562222 : Int)) 57 (2024104815 : Int)) 58 (2227730452 : Int)) 59 (2361852424 : Int)) 60 (2428436474 : Int)) 61 (2756734187 : Int)) 62 (3204031479 : Int)) 63 (3329325298 : Int)) ([(1779033703 : Int), (3144134277 : Int), (1013904242 : Int), (2773480762 : Int), (1359893119 : Int), (2600822924 : Int), (528734635 : Int), (1541459225 : Int)] : List Int) (0 : Int)
 (fun h => (z3h N h).bind fun y1 =>
 some y1)

def t_86 (N : Nat) : Tab (List UInt8) := [(z13t, z1md N)]

theorem z1bi (N : Nat) (x : z1j [(0, .v .str)]) : z2j (E_86 N) N (t_86 N) L_86 Tryz.f42 (mkS [(0, .v .str)] 0 x) (z1h (.v .str) 1) = z2o N x.1 := by kernel_rfl

def z4g (N : Nat) : List A -> Res := z12 [(0, .v .str)] (fun x => z2o N x.1) (z2k (.v .str) 1)

theorem z81 (N : Nat) : Contract Tryz.prog glob 42 (z4g N) :=
  Contract.of (E := E_86 N) (H := t_86 N) (L := L_86) (N := N) (body := zwn) (K := (z1h (.v .str) 1)) (z1qd N) Tryz.func42 (by kernel_rfl) (by decide) (fun _ hb => (TabOk.cons (z1k0 hb) TabOk.nil)) (fun x y h => by rw [z1bi]; exact h) (zm (s := (.v .str)) (m := 1))

def zwm : Code := (Tryz.f90.body).getD .skip

def L_87 : List (List Nat × List Nat) := [([0], [1, 0]), ([0, 0, 1], [7, 0, 1]), ([1, 0, 1], [0, 1]), ([0, 1, 0, 1], [0, 1]), ([0, 0, 1, 1], [11, 0, 1]), ([1, 0, 1, 1], [1, 0]), ([0, 0, 1, 0, 1, 1], [4]), ([1, 0, 1, 0, 1, 1], [4]), ([0, 1, 1, 1], [0, 5]), ([0, 1, 1, 1, 1], [4]), ([1, 1, 1, 1, 1], [4])]

def E_87 (N : Nat) : Env := z16 tys glob [] [] [] [] false [] [(123, zd N), (66, zb N), (98, z7 N)]

theorem z1qc (N : Nat) : EnvOk Tryz.prog (E_87 N) := zk mixed zp (FnsOk.nil) (ItsOk.cons (zf N) (ItsOk.cons (ze N) (ItsOk.cons (z8 N) (ItsOk.nil))))

def z52 (N : Nat) (s : (List UInt8)) (n : Int) (k0 : Int -> Option (List UInt8)) : Option (List UInt8) :=
 cond (decide ((65536 : Int) < n))
 (k0 (65536 : Int))
 (k0 n)

def z1o9 (N : Nat) (x : z1j z10f) (K : Ex -> List A -> Option (List UInt8)) : Option (List UInt8) :=
 z52 N x.1 x.2.1 (fun a1 => (K .normal (mkS z10f 20 (x.1, a1, ()))))

def z1mc (N : Nat) : Hd (List UInt8) := fun st K => (unS z10f 20 (restr [1, 0] 0 st)).bind fun x => z1o9 N x K

def t1_87 (N : Nat) : Tab (List UInt8) := []

theorem z1jz {N : Nat} {c : Ctx} (hb : Base Tryz.prog (E_87 N) c) : zo Tryz.prog c (zl zwm [0, 1]) (z1mc N) :=
  z14 (s := z10f) (m := 20) (g := z1o9 N) [1, 0] (zi hb N (t1_87 N) L_87 zwm TabOk.nil [0, 1] _ rfl) (fun x K => by kernel_rfl)

def z59 (N : Nat) (s : (List UInt8)) (n : Int) : Option (List UInt8) :=
 z52 N s n
 (fun n1 => cond (decide (n1 <= (((List.length s) : Nat) : Int)))
 (some s)
 (cond (decide (((0 : Int) <= (IntKind.wrap IntKind.i64 (n1 - (((List.length s) : Nat) : Int)))) /\ (((IntKind.wrap IntKind.i64 (n1 - (((List.length s) : Nat) : Int))) <= (IntKind.wrap IntKind.i64 (n1 - (((List.length s) : Nat) : Int)))) /\ ((((IntKind.wrap IntKind.i64 (n1 - (((List.length s) : Nat) : Int))) * (1 : Int)) <= (281474976710656 : Int)) /\ ((IntKind.wrap IntKind.i64 (n1 - (((List.length s) : Nat) : Int))) <= (9223372036854775807 : Int))))))
 (cond (decide (((List.length s) + (List.length (z27 (List.replicate (Int.toNat (IntKind.wrap IntKind.i64 (n1 - (((List.length s) : Nat) : Int)))) (0 : Int))))) <= 9223372036854775807))
 (some (s ++ (z27 (List.replicate (Int.toNat (IntKind.wrap IntKind.i64 (n1 - (((List.length s) : Nat) : Int)))) (0 : Int)))))
 (none))
 (none)))

def t_87 (N : Nat) : Tab (List UInt8) := [([0, 1], z1mc N)]

theorem z1bh (N : Nat) (x : z1j z10f) : z2j (E_87 N) N (t_87 N) L_87 Tryz.f90 (mkS z10f 0 x) (z1h (.v .str) 2) = z59 N x.1 x.2.1 := by kernel_rfl

def zbq (N : Nat) : List A -> Res := z12 z10f (fun x => z59 N x.1 x.2.1) (z2k (.v .str) 2)

theorem zk1 (N : Nat) : Contract Tryz.prog glob 90 (zbq N) :=
  Contract.of (E := E_87 N) (H := t_87 N) (L := L_87) (N := N) (body := zwm) (K := (z1h (.v .str) 2)) (z1qc N) Tryz.func90 (by kernel_rfl) (by decide) (fun _ hb => (TabOk.cons (z1jz hb) TabOk.nil)) (fun x y h => by rw [z1bh]; exact h) (zm (s := (.v .str)) (m := 2))

def zwl : Code := (Tryz.f62.body).getD .skip

def L_88 : List (List Nat × List Nat) := [([0], [0]), ([0, 0, 1], [5, 0]), ([1, 0, 1], [0]), ([0, 1, 0, 1], [0]), ([0, 1, 1], [2]), ([1, 1, 1], [2])]

def E_88 (N : Nat) : Env := z16 tys glob [(90, zbq N), (42, z4g N)] [] [] [] false [] [(123, zd N), (66, zb N), (98, z7 N)]

theorem z1qb (N : Nat) : EnvOk Tryz.prog (E_88 N) := zk mixed zp (FnsOk.cons (zk1 N) (FnsOk.cons (z81 N) (FnsOk.nil))) (ItsOk.cons (zf N) (ItsOk.cons (ze N) (ItsOk.cons (z8 N) (ItsOk.nil))))

def z4z (N : Nat) (k : (List UInt8)) (k0 : (List UInt8) -> Option (List UInt8)) : Option (List UInt8) :=
 cond (decide ((64 : Int) < (((List.length k) : Nat) : Int)))
 ((z2o N k).bind fun y =>
 k0 y)
 (k0 k)

def z1o8 (N : Nat) (x : z1j [(0, .v .str)]) (K : Ex -> List A -> Option (List UInt8)) : Option (List UInt8) :=
 z4z N x.1 (fun a0 => (K .normal (mkS [(0, .v .str)] 9 (a0, ()))))

def z1mb (N : Nat) : Hd (List UInt8) := fun st K => (unS [(0, .v .str)] 9 (restr [0] 0 st)).bind fun x => z1o8 N x K

def t1_88 (N : Nat) : Tab (List UInt8) := []

theorem z1jy {N : Nat} {c : Ctx} (hb : Base Tryz.prog (E_88 N) c) : zo Tryz.prog c (zl zwl [0, 1]) (z1mb N) :=
  z14 (s := [(0, .v .str)]) (m := 9) (g := z1o8 N) [0] (zi hb N (t1_88 N) L_88 zwl TabOk.nil [0, 1] _ rfl) (fun x K => by kernel_rfl)

def z3z (N : Nat) (k : (List UInt8)) : Option (List UInt8) :=
 z4z N k
 (fun k1 => (z59 N k1 (64 : Int)).bind fun y =>
 some y)

def t_88 (N : Nat) : Tab (List UInt8) := [([0, 1], z1mb N)]

theorem z1bg (N : Nat) (x : z1j [(0, .v .str)]) : z2j (E_88 N) N (t_88 N) L_88 Tryz.f62 (mkS [(0, .v .str)] 0 x) (z1h (.v .str) 1) = z3z N x.1 := by kernel_rfl

def zbk (N : Nat) : List A -> Res := z12 [(0, .v .str)] (fun x => z3z N x.1) (z2k (.v .str) 1)

theorem zjy (N : Nat) : Contract Tryz.prog glob 62 (zbk N) :=
  Contract.of (E := E_88 N) (H := t_88 N) (L := L_88) (N := N) (body := zwl) (K := (z1h (.v .str) 1)) (z1qb N) Tryz.func62 (by kernel_rfl) (by decide) (fun _ hb => (TabOk.cons (z1jy hb) TabOk.nil)) (fun x y h => by rw [z1bg]; exact h) (zm (s := (.v .str)) (m := 1))

def zc3 : Code := (Tryz.f89.body).getD .skip

def z1fs : List (List Nat × List Nat) := [([0], [0, 1]), ([0, 1], [0, 1, 5]), ([0, 0, 1, 1], [6, 0, 1, 5]), ([0, 1, 0, 1, 1], [6, 0, 1, 5]), (z193, [21, 0, 6, 1, 5]), (z192, [0, 6, 1, 5]), (z194, [5]), (z174, [7, 8, 9, 10, 5, 6, 0, 1]), (z1fo, z1fc), ([0, 1, 0, 1, 0, 0, 1, 0, 0, 1, 0, 1, 1], z1fc), ([0, 0, 0, 0, 1, 0, 1, 0, 0, 1, 0, 0, 1, 0, 1, 1], [33, 7, 8, 9, 10, 11, 5, 6, 0, 1]), ([1, 0, 0, 0, 1, 0, 1, 0, 0, 1, 0, 0, 1, 0, 1, 1], z13v), ([1, 1, 0, 0, 0, 1, 0, 1, 0, 0, 1, 0, 0, 1, 0, 1, 1], [5, 9, 6, 0, 1]), ([0, 0, 0, 0, 1, 0, 0, 1, 0, 1, 0, 0, 1, 0, 0, 1, 0, 1, 1], [40, 9, 10, 7, 8, 11, 5, 6, 0, 1]), ([1, 0, 0, 0, 1, 0, 0, 1, 0, 1, 0, 0, 1, 0, 0, 1, 0, 1, 1], [7, 8, 10, 11, 9, 5, 6, 0, 1]), ([0, 1, 0, 0, 0, 1, 0, 0, 1, 0, 1, 0, 0, 1, 0, 0, 1, 0, 1, 1], [7, 8, 10, 11, 9, 5, 6, 0, 1]), ([0, 1, 0, 0, 1, 0, 0, 1, 0, 1, 0, 0, 1, 0, 0, 1, 0, 1, 1], [8, 10, 11, 7, 9, 5, 6, 0, 1]), ([0, 1, 1, 0, 0, 1, 0, 0, 1, 0, 1, 0, 0, 1, 0, 0, 1, 0, 1, 1], [10, 11, 7, 8, 9, 5, 6, 0, 1]), ([1, 1, 1, 0, 0, 1, 0, 0, 1, 0, 1, 0, 0, 1, 0, 0, 1, 0, 1, 1], z1fc), (PQ85, z1fc), ([1, 1, 0, 0, 1, 0, 1, 0, 0, 1, 0, 0, 1, 0, 1, 1], z1fc), (z1fn, [5, 9, 6, 0, 1]), ([1, 1, 0, 0, 1, 0, 0, 1, 0, 1, 1], [6, 0, 1, 5]), (PQ9, [6, 0, 1, 5]), (z191, [6, 0, 1, 5]), ([1, 0, 1, 1], [5]), ([0, 1, 1, 1], [4]), ([1, 1, 1, 1], [4])]

def z195 (N : Nat) : Env := z16 tys glob [(88, z2x N)] [] [] [] false [] [(123, zd N), (66, zb N), (98, z7 N)]

theorem z1qa (N : Nat) : EnvOk Tryz.prog (z195 N) := zk mixed zp (FnsOk.cons (z4h N) (FnsOk.nil)) (ItsOk.cons (zf N) (ItsOk.cons (ze N) (ItsOk.cons (z8 N) (ItsOk.nil))))

def z8b (N : Nat) (a : (List UInt8)) (b : (List UInt8)) (out : (List UInt8)) (i : Int) (k0 : Option (List UInt8)) (k1 : Option (List UInt8)) : Option (List UInt8) :=
 cond (decide (i < (((List.length a) : Nat) : Int)))
 (cond (decide (i < (((List.length b) : Nat) : Int)))
 (k0)
 (k1))
 (k1)

def z1nq (N : Nat) (x : z1j z1gu) (K : Ex -> List A -> Option (List UInt8)) : Option (List UInt8) :=
 z8b N x.1 x.2.1 x.2.2.1 x.2.2.2.1 (K .normal (mkS z1gu 48 (x.1, x.2.1, x.2.2.1, x.2.2.2.1, ()))) (K (.exit 0) (mkS [(5, .v .str)] 49 (x.2.2.1, ())))

def z1lt (N : Nat) : Hd (List UInt8) := fun st K => (unS z1gu 48 (restr [6, 0, 1, 5] 0 st)).bind fun x => z1nq N x K

def t2_89 (N : Nat) : Tab (List UInt8) := []

theorem z1jg {N : Nat} {c : Ctx} (hb : Base Tryz.prog (z195 N) c) : zo Tryz.prog c (zl zc3 z14a) (z1lt N) :=
  z14 (s := z1gu) (m := 48) (g := z1nq N) [6, 0, 1, 5] (zi hb N (t2_89 N) z1fs zc3 TabOk.nil z14a _ rfl) (fun x K => by kernel_rfl)

def z88 (N : Nat) (a : (List UInt8)) (b : (List UInt8)) (out : (List UInt8)) (i : Int) (x7 : Int) (y : Int) (n : Int) (bit : Int) (k : Int) (k0 : Int -> Option (List UInt8)) : Option (List UInt8) :=
 cond ((Int.tmod x7 (2 : Int)) != (Int.tmod y (2 : Int)))
 (k0 (IntKind.wrap IntKind.i64 (n + bit)))
 (k0 n)

def z1nc (N : Nat) (x : z1j SQ1) (K : Ex -> List A -> Option (List UInt8)) : Option (List UInt8) :=
 z88 N x.1 x.2.1 x.2.2.1 x.2.2.2.1 x.2.2.2.2.1 x.2.2.2.2.2.1 x.2.2.2.2.2.2.1 x.2.2.2.2.2.2.2.1 x.2.2.2.2.2.2.2.2.1 (fun a6 => (K .normal (mkS SQ1 43 (x.1, x.2.1, x.2.2.1, x.2.2.2.1, x.2.2.2.2.1, x.2.2.2.2.2.1, a6, x.2.2.2.2.2.2.2.1, x.2.2.2.2.2.2.2.2.1, ()))))

def z1lf (N : Nat) : Hd (List UInt8) := fun st K => (unS SQ1 43 (restr z13v 0 st)).bind fun x => z1nc N x K

def t5_89 (N : Nat) : Tab (List UInt8) := []

theorem z1j2 {N : Nat} {c : Ctx} (hb : Base Tryz.prog (z195 N) c) : zo Tryz.prog c (zl zc3 z1fq) (z1lf N) :=
  z14 (s := SQ1) (m := 43) (g := z1nc N) z13v (zi hb N (t5_89 N) z1fs zc3 TabOk.nil z1fq _ rfl) (fun x K => by kernel_rfl)

def z89 (N : Nat) (a : (List UInt8)) (b : (List UInt8)) (out : (List UInt8)) (i : Int) (x7 : Int) (y : Int) (n : Int) (bit : Int) (k : Int) (k0 : Int -> Int -> Int -> Int -> Option (List UInt8)) : Option (List UInt8) :=
 z88 N a b out i x7 y n bit k
 (fun n1 => k0 (IntKind.wrap IntKind.i64 (Int.tdiv x7 (2 : Int))) (IntKind.wrap IntKind.i64 (Int.tdiv y (2 : Int))) n1 (IntKind.wrap IntKind.i64 (bit * (2 : Int))))

def z1nf (N : Nat) (x : z1j SQ1) (K : Ex -> List A -> Option (List UInt8)) : Option (List UInt8) :=
 z89 N x.1 x.2.1 x.2.2.1 x.2.2.2.1 x.2.2.2.2.1 x.2.2.2.2.2.1 x.2.2.2.2.2.2.1 x.2.2.2.2.2.2.2.1 x.2.2.2.2.2.2.2.2.1 (fun a4 a5 a6 a7 => (K .normal (mkS SQ1 43 (x.1, x.2.1, x.2.2.1, x.2.2.2.1, a4, a5, a6, a7, x.2.2.2.2.2.2.2.2.1, ()))))

def z1li (N : Nat) : Hd (List UInt8) := fun st K => (unS SQ1 43 (restr z13v 0 st)).bind fun x => z1nf N x K

def t4_89 (N : Nat) : Tab (List UInt8) := [(z1fq, z1lf N)]

theorem z1j5 {N : Nat} {c : Ctx} (hb : Base Tryz.prog (z195 N) c) : zo Tryz.prog c (zl zc3 PQ85) (z1li N) :=
  z14 (s := SQ1) (m := 43) (g := z1nf N) z13v (zi hb N (t4_89 N) z1fs zc3 (TabOk.cons (z1j2 hb) TabOk.nil) PQ85 _ rfl) (fun x K => by kernel_rfl)

def z86 (N : Nat) (a : (List UInt8)) (b : (List UInt8)) (out : (List UInt8)) (i : Int) (x7 : Int) (y : Int) (n : Int) (bit : Int) (k : Int) (rec : Int -> Int -> Int -> Int -> Int -> Option (List UInt8)) (k0 : Int -> Option (List UInt8)) : Option (List UInt8) :=
 cond (decide (k < (8 : Int)))
 (z89 N a b out i x7 y n bit k
 (fun x71 y1 n1 bit1 => rec x71 y1 n1 bit1 (IntKind.wrap IntKind.i64 (k + (1 : Int)))))
 (k0 n)

def z8a (N : Nat) (a : (List UInt8)) (b : (List UInt8)) (out : (List UInt8)) (i : Int) (x7 : Int) (y : Int) (n : Int) (bit : Int) (k : Int) (k0 : Int -> Option (List UInt8)) : Option (List UInt8) :=
 iter (fun (v : (Int × Int × Int × Int × Int)) r => z86 N a b out i v.1 v.2.1 v.2.2.1 v.2.2.2.1 v.2.2.2.2 (fun x7 y n bit k => (r (x7, y, n, bit, k))) k0) N (x7, y, n, bit, k)

def z1nk (N : Nat) (i : ((List UInt8) × (List UInt8) × (List UInt8) × Int)) (v : (Int × Int × Int × Int × Int)) (r : (Int × Int × Int × Int × Int) -> Option (List UInt8)) (K : Ex -> List A -> Option (List UInt8)) : Option (List UInt8) :=
 z86 N i.1 i.2.1 i.2.2.1 i.2.2.2 v.1 v.2.1 v.2.2.1 v.2.2.2.1 v.2.2.2.2 (fun x7 y n bit k => (r (x7, y, n, bit, k))) (fun a4 => (K (.exit 2) (mkS [(0, .v .str), (0, .v .str), (3, .v .str), (0, .v (.int .i64)), (2, .v (.int .i64))] 45 (i.1, i.2.1, i.2.2.1, i.2.2.2, a4, ()))))

def z1ln (N : Nat) : Hd (List UInt8) := fun st K => (unS SQ1 43 (restr z1fc 0 st)).bind fun x => iter (fun v r => z1nk N ((fun x => (x.1, x.2.1, x.2.2.1, x.2.2.2.1)) x) v r K) N ((fun x => (x.2.2.2.2.1, x.2.2.2.2.2.1, x.2.2.2.2.2.2.1, x.2.2.2.2.2.2.2.1, x.2.2.2.2.2.2.2.2.1)) x)

def t3_89 (N : Nat) : Tab (List UInt8) := [(PQ85, z1li N)]

theorem z1ja {N : Nat} {c : Ctx} (hb : Base Tryz.prog (z195 N) c) : zo Tryz.prog c (zl zc3 [0, 1, 0, 1, 0, 0, 1, 0, 0, 1, 0, 1, 1]) (z1ln N) :=
  z1i (s := SQ1) (m := 43) (z1nk N) z1fc N (fun x => (x.1, x.2.1, x.2.2.1, x.2.2.2.1)) (fun x => (x.2.2.2.2.1, x.2.2.2.2.2.1, x.2.2.2.2.2.2.1, x.2.2.2.2.2.2.2.1, x.2.2.2.2.2.2.2.2.1)) (fun i v => (i.1, i.2.1, i.2.2.1, i.2.2.2, v.1, v.2.1, v.2.2.1, v.2.2.2.1, v.2.2.2.2, ())) (fun _ => rfl) (zi hb N (t3_89 N) z1fs zc3 (TabOk.cons (z1j5 hb) TabOk.nil) [0, 0, 1, 0, 1, 0, 0, 1, 0, 0, 1, 0, 1, 1] _ rfl) (fun i v r K => by kernel_rfl)

def z87 (N : Nat) (a : (List UInt8)) (b : (List UInt8)) (out : (List UInt8)) (i : Int) (rec : (List UInt8) -> Int -> Option (List UInt8)) (k0 : (List UInt8) -> Option (List UInt8)) : Option (List UInt8) :=
 z8b N a b out i
 (cond (inR i (List.length a))
 (cond (inR i (List.length b))
 (z8a N a b out i (IntKind.wrap IntKind.i64 (((UInt8.toNat (List.getD a (Int.toNat i) (0 : UInt8))) : Nat) : Int)) (IntKind.wrap IntKind.i64 (((UInt8.toNat (List.getD b (Int.toNat i) (0 : UInt8))) : Nat) : Int)) (0 : Int) (1 : Int) (0 : Int)
 (fun n => cond (decide (((List.length out) + (List.length (z27 ([(IntKind.wrap IntKind.u8 n)] : List Int)))) <= 9223372036854775807))
 (rec (out ++ (z27 ([(IntKind.wrap IntKind.u8 n)] : List Int))) (IntKind.wrap IntKind.i64 (i + (1 : Int))))
 (none)))
 (none))
 (none))
 (k0 out)

def zce (N : Nat) (a : (List UInt8)) (b : (List UInt8)) (out : (List UInt8)) (i : Int) (k0 : (List UInt8) -> Option (List UInt8)) : Option (List UInt8) :=
 iter (fun (v : ((List UInt8) × Int)) r => z87 N a b v.1 v.2 (fun out i => (r (out, i))) k0) N (out, i)

def z1o7 (N : Nat) (i : ((List UInt8) × (List UInt8))) (v : ((List UInt8) × Int)) (r : ((List UInt8) × Int) -> Option (List UInt8)) (K : Ex -> List A -> Option (List UInt8)) : Option (List UInt8) :=
 z87 N i.1 i.2 v.1 v.2 (fun out i => (r (out, i))) (fun a0 => (K (.exit 0) (mkS [(5, .v .str)] 49 (a0, ()))))

def z1ma (N : Nat) : Hd (List UInt8) := fun st K => (unS z1gu 48 (restr [6, 0, 1, 5] 0 st)).bind fun x => iter (fun v r => z1o7 N ((fun x => (x.1, x.2.1)) x) v r K) N ((fun x => (x.2.2.1, x.2.2.2.1)) x)

def t1_89 (N : Nat) : Tab (List UInt8) := [(z14a, z1lt N), ([0, 1, 0, 1, 0, 0, 1, 0, 0, 1, 0, 1, 1], z1ln N)]

theorem z1jx {N : Nat} {c : Ctx} (hb : Base Tryz.prog (z195 N) c) : zo Tryz.prog c (zl zc3 [0, 1, 0, 1, 1]) (z1ma N) :=
  z1i (s := z1gu) (m := 48) (z1o7 N) [6, 0, 1, 5] N (fun x => (x.1, x.2.1)) (fun x => (x.2.2.1, x.2.2.2.1)) (fun i v => (i.1, i.2, v.1, v.2, ())) (fun _ => rfl) (zi hb N (t1_89 N) z1fs zc3 (TabOk.cons (z1jg hb) (TabOk.cons (z1ja hb) TabOk.nil)) [0, 0, 1, 0, 1, 1] _ rfl) (fun i v r K => by kernel_rfl)

def z41 (N : Nat) (a : (List UInt8)) (b : (List UInt8)) : Option (List UInt8) :=
 zce N a b ([] : List UInt8) (0 : Int)
 (fun out => some out)

def t_89 (N : Nat) : Tab (List UInt8) := [([0, 1, 0, 1, 1], z1ma N)]

theorem z1bf (N : Nat) (x : z1j SQ0) : z2j (z195 N) N (t_89 N) z1fs Tryz.f89 (mkS SQ0 0 x) (z1h (.v .str) 2) = z41 N x.1 x.2.1 := by kernel_rfl

def z7j (N : Nat) : List A -> Res := z12 SQ0 (fun x => z41 N x.1 x.2.1) (z2k (.v .str) 2)

theorem zcf (N : Nat) : Contract Tryz.prog glob 89 (z7j N) :=
  Contract.of (E := z195 N) (H := t_89 N) (L := z1fs) (N := N) (body := zc3) (K := (z1h (.v .str) 2)) (z1qa N) Tryz.func89 (by kernel_rfl) (by decide) (fun _ hb => (TabOk.cons (z1jx hb) TabOk.nil)) (fun x y h => by rw [z1bf]; exact h) (zm (s := (.v .str)) (m := 2))

def zwk : Code := (Tryz.f61.body).getD .skip

def L_90 : List (List Nat × List Nat) := [([0], [1, 0]), ([0, 1], [5, 1, 0]), ([0, 0, 1, 1], [5, 1, 0]), ([0, 0, 0, 0, 0, 1, 1], [8, 5, 1, 0]), ([1, 0, 0, 0, 0, 1, 1], [5, 1, 0]), ([1, 1, 0, 0, 0, 0, 1, 1], [0, 5]), ([0, 1, 0, 0, 0, 1, 1], [5, 1, 0]), ([1, 0, 0, 0, 1, 1], [5, 1, 0]), ([0, 1, 1], [0, 5]), ([0, 1, 1, 1], [4]), ([1, 1, 1, 1], [4])]

def E_90 (N : Nat) : Env := z16 tys glob [(89, z7j N), (88, z2x N)] [] [] [] false [] [(123, zd N), (66, zb N), (98, z7 N)]

theorem z1q9 (N : Nat) : EnvOk Tryz.prog (E_90 N) := zk mixed zp (FnsOk.cons (zcf N) (FnsOk.cons (z4h N) (FnsOk.nil))) (ItsOk.cons (zf N) (ItsOk.cons (ze N) (ItsOk.cons (z8 N) (ItsOk.nil))))

def zbh (N : Nat) (k : (List UInt8)) (n : Int) (p : (List UInt8)) (rec : (List UInt8) -> Option (List UInt8)) (k0 : (List UInt8) -> Option (List UInt8)) : Option (List UInt8) :=
 cond (decide ((((List.length p) : Nat) : Int) < (64 : Int)))
 (cond (decide (((List.length p) + (List.length (z27 ([(IntKind.wrap IntKind.u8 n)] : List Int)))) <= 9223372036854775807))
 (rec (p ++ (z27 ([(IntKind.wrap IntKind.u8 n)] : List Int))))
 (none))
 (k0 p)

def zbi (N : Nat) (k : (List UInt8)) (n : Int) (p : (List UInt8)) (k0 : (List UInt8) -> Option (List UInt8)) : Option (List UInt8) :=
 iter (fun (v : (List UInt8)) r => zbh N k n v (fun p => (r p)) k0) N p

def z1o6 (N : Nat) (i : ((List UInt8) × Int)) (v : (List UInt8)) (r : (List UInt8) -> Option (List UInt8)) (K : Ex -> List A -> Option (List UInt8)) : Option (List UInt8) :=
 zbh N i.1 i.2 v (fun p => (r p)) (fun a1 => (K (.exit 0) (mkS [(0, .v .str), (4, .v .str)] 10 (i.1, a1, ()))))

def z1m9 (N : Nat) : Hd (List UInt8) := fun st K => (unS [(0, .v .str), (0, .v (.int .i64)), (3, .v .str)] 10 (restr [5, 1, 0] 0 st)).bind fun x => iter (fun v r => z1o6 N ((fun x => (x.1, x.2.1)) x) v r K) N ((fun x => x.2.2.1) x)

def t1_90 (N : Nat) : Tab (List UInt8) := []

theorem z1jw {N : Nat} {c : Ctx} (hb : Base Tryz.prog (E_90 N) c) : zo Tryz.prog c (zl zwk [0, 0, 1, 1]) (z1m9 N) :=
  z1i (s := [(0, .v .str), (0, .v (.int .i64)), (3, .v .str)]) (m := 10) (z1o6 N) [5, 1, 0] N (fun x => (x.1, x.2.1)) (fun x => x.2.2.1) (fun i v => (i.1, i.2, v, ())) (fun _ => rfl) (zi hb N (t1_90 N) L_90 zwk TabOk.nil [0, 0, 0, 1, 1] _ rfl) (fun i v r K => by kernel_rfl)

def z3f (N : Nat) (k : (List UInt8)) (n : Int) : Option (List UInt8) :=
 zbi N k n ([] : List UInt8)
 (fun p => (z41 N k p).bind fun y =>
 some y)

def t_90 (N : Nat) : Tab (List UInt8) := [([0, 0, 1, 1], z1m9 N)]

theorem z1be (N : Nat) (x : z1j z10f) : z2j (E_90 N) N (t_90 N) L_90 Tryz.f61 (mkS z10f 0 x) (z1h (.v .str) 2) = z3f N x.1 x.2.1 := by kernel_rfl

def zaf (N : Nat) : List A -> Res := z12 z10f (fun x => z3f N x.1 x.2.1) (z2k (.v .str) 2)

theorem ziy (N : Nat) : Contract Tryz.prog glob 61 (zaf N) :=
  Contract.of (E := E_90 N) (H := t_90 N) (L := L_90) (N := N) (body := zwk) (K := (z1h (.v .str) 2)) (z1q9 N) Tryz.func61 (by kernel_rfl) (by decide) (fun _ hb => (TabOk.cons (z1jw hb) TabOk.nil)) (fun x y h => by rw [z1be]; exact h) (zm (s := (.v .str)) (m := 2))

def z1dy : Code := (Tryz.f33.body).getD .skip

def L_91 : List (List Nat × List Nat) := [([0], [0, 1]), ([0, 1], [5, 0]), ([0, 1, 1], [4]), ([1, 1, 1], [4])]

def E_91 (N : Nat) : Env := z16 tys glob [(61, zaf N), (62, zbk N), (42, z4g N)] [(4, .str)] [] [] true [] [(123, zd N), (66, zb N), (98, z7 N)]

theorem z1q8 (N : Nat) : EnvOk Tryz.prog (E_91 N) := zk mixed zp (FnsOk.cons (ziy N) (FnsOk.cons (zjy N) (FnsOk.cons (z81 N) (FnsOk.nil)))) (ItsOk.cons (zf N) (ItsOk.cons (ze N) (ItsOk.cons (z8 N) (ItsOk.nil))))

def z19 (N : Nat) (k : (List UInt8)) (text : (List UInt8)) : Option (List (List UInt8)) :=
 (z3z N k).bind fun y =>
 (z3f N y (54 : Int)).bind fun y1 =>
 cond (decide (((List.length y1) + (List.length text)) <= 9223372036854775807))
 ((z3z N k).bind fun y2 =>
 (z3f N y2 (92 : Int)).bind fun y3 =>
 (z2o N (y1 ++ text)).bind fun y4 =>
 cond (decide (((List.length y3) + (List.length y4)) <= 9223372036854775807))
 (some ([(y1 ++ text), (y3 ++ y4)] : List (List UInt8)))
 (none))
 (none)

def t_91 (N : Nat) : Tab (List (List UInt8)) := []

theorem z1bd (N : Nat) (x : z1j SQ0) : z2j (E_91 N) N (t_91 N) L_91 Tryz.f33 (mkS SQ0 0 x) (z1h (.row .str) 2) = z19 N x.1 x.2.1 := by kernel_rfl

def z2m (N : Nat) : List A -> Res := z12 SQ0 (fun x => z19 N x.1 x.2.1) (z2k (.row .str) 2)

theorem z3t (N : Nat) : Contract Tryz.prog glob 33 (z2m N) :=
  Contract.of (E := E_91 N) (H := t_91 N) (L := L_91) (N := N) (body := z1dy) (K := (z1h (.row .str) 2)) (z1q8 N) Tryz.func33 (by kernel_rfl) (by decide) (fun _ hb => TabOk.nil) (fun x y h => by rw [z1bd]; exact h) (zm (s := (.row .str)) (m := 2))

def z1dx : Code := (Tryz.f60.body).getD .skip

def L_92 : List (List Nat × List Nat) := [([0], [0, 1]), ([0, 1], [5]), ([0, 1, 1], [4]), ([1, 1, 1], [4])]

def E_92 (N : Nat) : Env := z16 tys glob [(33, z2m N), (42, z4g N)] [] [] [] false [] [(123, zd N), (66, zb N), (98, z7 N)]

theorem z1q7 (N : Nat) : EnvOk Tryz.prog (E_92 N) := zk mixed zp (FnsOk.cons (z3t N) (FnsOk.cons (z81 N) (FnsOk.nil))) (ItsOk.cons (zf N) (ItsOk.cons (ze N) (ItsOk.cons (z8 N) (ItsOk.nil))))

def z3b (N : Nat) (k : (List UInt8)) (text : (List UInt8)) : Option (List UInt8) :=
 (z19 N k text).bind fun y =>
 cond (inR (1 : Int) (List.length y))
 ((z2o N (List.getD y 1 ([] : List UInt8))).bind fun y1 =>
 some y1)
 (none)

def t_92 (N : Nat) : Tab (List UInt8) := []

theorem z1bc (N : Nat) (x : z1j SQ0) : z2j (E_92 N) N (t_92 N) L_92 Tryz.f60 (mkS SQ0 0 x) (z1h (.v .str) 2) = z3b N x.1 x.2.1 := by kernel_rfl

def z7c (N : Nat) : List A -> Res := z12 SQ0 (fun x => z3b N x.1 x.2.1) (z2k (.v .str) 2)

theorem zcd (N : Nat) : Contract Tryz.prog glob 60 (z7c N) :=
  Contract.of (E := E_92 N) (H := t_92 N) (L := L_92) (N := N) (body := z1dx) (K := (z1h (.v .str) 2)) (z1q7 N) Tryz.func60 (by kernel_rfl) (by decide) (fun _ hb => TabOk.nil) (fun x y h => by rw [z1bc]; exact h) (zm (s := (.v .str)) (m := 2))

def z1dw : Code := (Tryz.f31.body).getD .skip

def L_93 : List (List Nat × List Nat) := [([0], [0, 1]), ([0, 1], [4]), ([1, 1], [4])]

def E_93 (N : Nat) : Env := z16 tys glob [(60, z7c N), (34, z2n N)] [] [] [] false [] [(123, zd N), (66, zb N), (98, z7 N)]

theorem z1q6 (N : Nat) : EnvOk Tryz.prog (E_93 N) := zk mixed zp (FnsOk.cons (zcd N) (FnsOk.cons (z3v N) (FnsOk.nil))) (ItsOk.cons (zf N) (ItsOk.cons (ze N) (ItsOk.cons (z8 N) (ItsOk.nil))))

def zy (N : Nat) (k : (List UInt8)) (l : (List (List UInt8))) : Option (List UInt8) :=
 (z1d N l).bind fun y =>
 (z3b N k y).bind fun y1 =>
 some y1

def t_93 (N : Nat) : Tab (List UInt8) := []

theorem z1bb (N : Nat) (x : z1j z1gp) : z2j (E_93 N) N (t_93 N) L_93 Tryz.f31 (mkS z1gp 0 x) (z1h (.v .str) 2) = zy N x.1 x.2.1 := by kernel_rfl

def z1s (N : Nat) : List A -> Res := z12 z1gp (fun x => zy N x.1 x.2.1) (z2k (.v .str) 2)

theorem z2b (N : Nat) : Contract Tryz.prog glob 31 (z1s N) :=
  Contract.of (E := E_93 N) (H := t_93 N) (L := L_93) (N := N) (body := z1dw) (K := (z1h (.v .str) 2)) (z1q6 N) Tryz.func31 (by kernel_rfl) (by decide) (fun _ hb => TabOk.nil) (fun x y h => by rw [z1bb]; exact h) (zm (s := (.v .str)) (m := 2))

def z1dv : Code := (Tryz.f44.body).getD .skip

def L_94 : List (List Nat × List Nat) := [([0], [1]), ([0, 0, 1], [5, 1]), ([1, 0, 1], [1]), ([0, 0, 1, 0, 1], [2]), ([1, 0, 1, 0, 1], [2]), ([0, 1, 1], [2]), ([1, 1, 1], [2])]

def E_94 (N : Nat) : Env := z16 tys glob [] [] [] [] false [] [(123, zd N), (66, zb N), (98, z7 N)]

theorem z1q5 (N : Nat) : EnvOk Tryz.prog (E_94 N) := zk mixed zp (FnsOk.nil) (ItsOk.cons (zf N) (ItsOk.cons (ze N) (ItsOk.cons (z8 N) (ItsOk.nil))))

def z24 (N : Nat) (l : DT8) : Option (List (List UInt8)) :=
 cond (l.2.1 == ([] : List UInt8))
 (some ([([(102 : UInt8), (105 : UInt8), (114 : UInt8), (115 : UInt8), (116 : UInt8)] : List UInt8), l.1] : List (List UInt8)))
 (some ([([(116 : UInt8), (104 : UInt8), (105 : UInt8), (114 : UInt8), (100 : UInt8)] : List UInt8), l.2.1, l.1] : List (List UInt8)))

def t_94 (N : Nat) : Tab (List (List UInt8)) := []

theorem z1ba (N : Nat) (x : z1j [(0, .v zje)]) : z2j (E_94 N) N (t_94 N) L_94 Tryz.f44 (mkS [(0, .v zje)] 0 x) (z1h (.v (.sl .str)) 1) = z24 N x.1 := by kernel_rfl

def z3n (N : Nat) : List A -> Res := z12 [(0, .v zje)] (fun x => z24 N x.1) (z2k (.v (.sl .str)) 1)

theorem z7r (N : Nat) : Contract Tryz.prog glob 44 (z3n N) :=
  Contract.of (E := E_94 N) (H := t_94 N) (L := L_94) (N := N) (body := z1dv) (K := (z1h (.v (.sl .str)) 1)) (z1q5 N) Tryz.func44 (by kernel_rfl) (by decide) (fun _ hb => TabOk.nil) (fun x y h => by rw [z1ba]; exact h) (zm (s := (.v (.sl .str))) (m := 1))

def zwj : Code := (Tryz.f29.body).getD .skip

def L_95 : List (List Nat × List Nat) := [([0], [0, 3]), ([0, 1], [5, 3]), ([0, 1, 1], [3, 5, 6]), ([0, 0, 1, 1, 1], [7, 3, 5, 6]), ([0, 1, 0, 1, 1, 1], [7, 3, 5, 6]), (z1fb, [19, 5, 3, 7, 6]), (z1fa, [5, 3, 7, 6]), (z1fd, [6]), (z1fh, [6, 5, 7, 3]), ([1, 0, 0, 1, 0, 0, 1, 0, 1, 1, 1], [7, 3, 5, 6]), (z10m, [7, 3, 5, 6]), (z1f9, [7, 3, 5, 6]), ([1, 0, 1, 1, 1], [6]), ([0, 1, 1, 1, 1], [4]), ([1, 1, 1, 1, 1], [4])]

def E_95 (N : Nat) : Env := z16 tys glob [(44, z3n N), (31, z1s N), (43, z3m N)] [(6, .str), (4, .str)] [] [] false [] [(123, zd N), (66, zb N), (98, z7 N)]

theorem z1q4 (N : Nat) : EnvOk Tryz.prog (E_95 N) := zk mixed zp (FnsOk.cons (z7r N) (FnsOk.cons (z2b N) (FnsOk.cons (z7q N) (FnsOk.nil)))) (ItsOk.cons (zf N) (ItsOk.cons (ze N) (ItsOk.cons (z8 N) (ItsOk.nil))))

def z78 (N : Nat) (t : DT1) (tag : (List UInt8)) (out : (List (List UInt8))) (i : Int) (rec : (List UInt8) -> (List (List UInt8)) -> Int -> Option (List (List UInt8))) (k0 : (List (List UInt8)) -> Option (List (List UInt8))) : Option (List (List UInt8)) :=
 cond (decide (i < (((List.length t.2.1) : Nat) : Int)))
 (cond (inR i (List.length t.2.1))
 ((z24 N (List.getD t.2.1 (Int.toNat i) (([] : List UInt8), (([] : List UInt8), ())))).bind fun y =>
 (zy N tag y).bind fun y1 =>
 cond (decide ((((List.length out) + 1) * 16) <= 70368744177664))
 (rec y1 (out ++ ([y1] : List (List UInt8))) (IntKind.wrap IntKind.i64 (i + (1 : Int))))
 (none))
 (none))
 (k0 out)

def zbe (N : Nat) (t : DT1) (tag : (List UInt8)) (out : (List (List UInt8))) (i : Int) (k0 : (List (List UInt8)) -> Option (List (List UInt8))) : Option (List (List UInt8)) :=
 iter (fun (v : ((List UInt8) × (List (List UInt8)) × Int)) r => z78 N t v.1 v.2.1 v.2.2 (fun tag out i => (r (tag, out, i))) k0) N (tag, out, i)

def z1o5 (N : Nat) (i : DT1) (v : ((List UInt8) × (List (List UInt8)) × Int)) (r : ((List UInt8) × (List (List UInt8)) × Int) -> Option (List (List UInt8))) (K : Ex -> List A -> Option (List (List UInt8))) : Option (List (List UInt8)) :=
 z78 N i v.1 v.2.1 v.2.2 (fun tag out i => (r (tag, out, i))) (fun a0 => (K (.exit 0) (mkS [(6, .row .str)] 28 (a0, ()))))

def z1m8 (N : Nat) : Hd (List (List UInt8)) := fun st K => (unS [(3, .box TT0), (1, .v .str), (0, .row .str), (0, .v (.int .i64))] 27 (restr [7, 3, 5, 6] 0 st)).bind fun x => iter (fun v r => z1o5 N ((fun x => x.1) x) v r K) N ((fun x => (x.2.1, x.2.2.1, x.2.2.2.1)) x)

def t1_95 (N : Nat) : Tab (List (List UInt8)) := []

theorem z1jv {N : Nat} {c : Ctx} (hb : Base Tryz.prog (E_95 N) c) : zo Tryz.prog c (zl zwj [0, 1, 0, 1, 1, 1]) (z1m8 N) :=
  z1i (s := [(3, .box TT0), (1, .v .str), (0, .row .str), (0, .v (.int .i64))]) (m := 27) (z1o5 N) [7, 3, 5, 6] N (fun x => x.1) (fun x => (x.2.1, x.2.2.1, x.2.2.2.1)) (fun i v => (i, v.1, v.2.1, v.2.2, ())) (fun _ => rfl) (zi hb N (t1_95 N) L_95 zwj TabOk.nil z149 _ rfl) (fun i v r K => by kernel_rfl)

def z2u (N : Nat) (key : (List UInt8)) (t : DT1) : Option (List (List UInt8)) :=
 (zy N key ([([(114 : UInt8), (111 : UInt8), (111 : UInt8), (116 : UInt8)] : List UInt8), t.1] : List (List UInt8))).bind fun y =>
 zbe N t y ([y] : List (List UInt8)) (0 : Int)
 (fun out => some out)

def t_95 (N : Nat) : Tab (List (List UInt8)) := [([0, 1, 0, 1, 1, 1], z1m8 N)]

theorem z1b9 (N : Nat) (x : z1j z16y) : z2j (E_95 N) N (t_95 N) L_95 Tryz.f29 (mkS z16y 0 x) (z1h (.v (.sl .str)) 2) = z2u N x.1 x.2.1 := by kernel_rfl

def z66 (N : Nat) : List A -> Res := z12 z16y (fun x => z2u N x.1 x.2.1) (z2k (.v (.sl .str)) 2)

theorem zbf (N : Nat) : Contract Tryz.prog glob 29 (z66 N) :=
  Contract.of (E := E_95 N) (H := t_95 N) (L := L_95) (N := N) (body := zwj) (K := (z1h (.v (.sl .str)) 2)) (z1q4 N) Tryz.func29 (by kernel_rfl) (by decide) (fun _ hb => (TabOk.cons (z1jv hb) TabOk.nil)) (fun x y h => by rw [z1b9]; exact h) (zm (s := (.v (.sl .str))) (m := 2))

def zwi : Code := (Tryz.f18.body).getD .skip

def L_96 : List (List Nat × List Nat) := [([0], [0, 3]), ([0, 1], [0, 3, 5]), ([0, 1, 1], [3, 6, 5]), ([0, 0, 1, 1, 1], [7, 3, 6, 5]), ([0, 1, 0, 1, 1, 1], [7, 3, 6, 5]), (z1fb, [21, 6, 5, 7, 3]), (z1fa, [6, 5, 7, 3]), (z1fd, [6]), ([0, 0, 1, 0, 0, 1, 0, 1, 1, 1], [7, 3, 6, 5]), (z10m, [7, 3, 6, 5]), (z1f9, [7, 3, 6, 5]), ([1, 0, 1, 1, 1], [6]), ([0, 1, 1, 1, 1], [4]), ([1, 1, 1, 1, 1], [4])]

def E_96 (N : Nat) : Env := z16 tys glob [(29, z66 N), (44, z3n N), (33, z2m N), (34, z2n N), (43, z3m N)] [(5, .str), (6, .str), (4, .str)] [] [] true [] [(123, zd N), (66, zb N), (98, z7 N)]

theorem z1q3 (N : Nat) : EnvOk Tryz.prog (E_96 N) := zk mixed zp (FnsOk.cons (zbf N) (FnsOk.cons (z7r N) (FnsOk.cons (z3t N) (FnsOk.cons (z3v N) (FnsOk.cons (z7q N) (FnsOk.nil)))))) (ItsOk.cons (zf N) (ItsOk.cons (ze N) (ItsOk.cons (z8 N) (ItsOk.nil))))

def z65 (N : Nat) (t : DT1) (l : (List (List UInt8))) (out : (List (List UInt8))) (i : Int) (rec : (List (List UInt8)) -> Int -> Option (List (List UInt8))) (k0 : (List (List UInt8)) -> Option (List (List UInt8))) : Option (List (List UInt8)) :=
 cond (decide (i < (((List.length t.2.1) : Nat) : Int)))
 (cond (inR i (List.length l))
 (cond (inR i (List.length t.2.1))
 ((z24 N (List.getD t.2.1 (Int.toNat i) (([] : List UInt8), (([] : List UInt8), ())))).bind fun y =>
 (z1d N y).bind fun y1 =>
 (z19 N (List.getD l (Int.toNat i) ([] : List UInt8)) y1).bind fun y2 =>
 cond (decide ((((List.length out) + (List.length y2)) * 16) <= 70368744177664))
 (rec (out ++ y2) (IntKind.wrap IntKind.i64 (i + (1 : Int))))
 (none))
 (none))
 (none))
 (k0 out)

def zaa (N : Nat) (t : DT1) (l : (List (List UInt8))) (out : (List (List UInt8))) (i : Int) (k0 : (List (List UInt8)) -> Option (List (List UInt8))) : Option (List (List UInt8)) :=
 iter (fun (v : ((List (List UInt8)) × Int)) r => z65 N t l v.1 v.2 (fun out i => (r (out, i))) k0) N (out, i)

def z1o4 (N : Nat) (i : (DT1 × (List (List UInt8)))) (v : ((List (List UInt8)) × Int)) (r : ((List (List UInt8)) × Int) -> Option (List (List UInt8))) (K : Ex -> List A -> Option (List (List UInt8))) : Option (List (List UInt8)) :=
 z65 N i.1 i.2 v.1 v.2 (fun out i => (r (out, i))) (fun a0 => (K (.exit 0) (mkS [(6, .row .str)] 32 (a0, ()))))

def z1m7 (N : Nat) : Hd (List (List UInt8)) := fun st K => (unS [(3, .box TT0), (1, .v (.sl .str)), (0, .row .str), (0, .v (.int .i64))] 31 (restr [7, 3, 6, 5] 0 st)).bind fun x => iter (fun v r => z1o4 N ((fun x => (x.1, x.2.1)) x) v r K) N ((fun x => (x.2.2.1, x.2.2.2.1)) x)

def t1_96 (N : Nat) : Tab (List (List UInt8)) := []

theorem z1ju {N : Nat} {c : Ctx} (hb : Base Tryz.prog (E_96 N) c) : zo Tryz.prog c (zl zwi [0, 1, 0, 1, 1, 1]) (z1m7 N) :=
  z1i (s := [(3, .box TT0), (1, .v (.sl .str)), (0, .row .str), (0, .v (.int .i64))]) (m := 31) (z1o4 N) [7, 3, 6, 5] N (fun x => (x.1, x.2.1)) (fun x => (x.2.2.1, x.2.2.2.1)) (fun i v => (i.1, i.2, v.1, v.2, ())) (fun _ => rfl) (zi hb N (t1_96 N) L_96 zwi TabOk.nil z149 _ rfl) (fun i v r K => by kernel_rfl)

def z34 (N : Nat) (key : (List UInt8)) (t : DT1) : Option (List (List UInt8)) :=
 (z2u N key t).bind fun y =>
 (z1d N ([([(114 : UInt8), (111 : UInt8), (111 : UInt8), (116 : UInt8)] : List UInt8), t.1] : List (List UInt8))).bind fun y1 =>
 (z19 N key y1).bind fun y2 =>
 zaa N t y y2 (0 : Int)
 (fun out => some out)

def t_96 (N : Nat) : Tab (List (List UInt8)) := [([0, 1, 0, 1, 1, 1], z1m7 N)]

theorem z1b8 (N : Nat) (x : z1j z16y) : z2j (E_96 N) N (t_96 N) L_96 Tryz.f18 (mkS z16y 0 x) (z1h (.row .str) 2) = z34 N x.1 x.2.1 := by kernel_rfl

def z9d (N : Nat) : List A -> Res := z12 z16y (fun x => z34 N x.1 x.2.1) (z2k (.row .str) 2)

theorem zhk (N : Nat) : Contract Tryz.prog glob 18 (z9d N) :=
  Contract.of (E := E_96 N) (H := t_96 N) (L := L_96) (N := N) (body := zwi) (K := (z1h (.row .str) 2)) (z1q3 N) Tryz.func18 (by kernel_rfl) (by decide) (fun _ hb => (TabOk.cons (z1ju hb) TabOk.nil)) (fun x y h => by rw [z1b8]; exact h) (zm (s := (.row .str)) (m := 2))

def z1du : Code := (Tryz.f30.body).getD .skip

def L_97 : List (List Nat × List Nat) := [([0], [0]), ([0, 1], [2]), ([1, 1], [2])]

def E_97 (N : Nat) : Env := z16 tys glob [] [] [] [] false [] [(123, zd N), (66, zb N), (98, z7 N)]

theorem z1q2 (N : Nat) : EnvOk Tryz.prog (E_97 N) := zk mixed zp (FnsOk.nil) (ItsOk.cons (zf N) (ItsOk.cons (ze N) (ItsOk.cons (z8 N) (ItsOk.nil))))

def z2t (N : Nat) (l : (List (List UInt8))) : Option (List UInt8) :=
 cond (inR (IntKind.wrap IntKind.i64 ((((List.length l) : Nat) : Int) - (1 : Int))) (List.length l))
 (some (List.getD l (Int.toNat (IntKind.wrap IntKind.i64 ((((List.length l) : Nat) : Int) - (1 : Int)))) ([] : List UInt8)))
 (none)

def t_97 (N : Nat) : Tab (List UInt8) := []

theorem z1b7 (N : Nat) (x : z1j [(0, .v (.sl .str))]) : z2j (E_97 N) N (t_97 N) L_97 Tryz.f30 (mkS [(0, .v (.sl .str))] 0 x) (z1h (.v .str) 1) = z2t N x.1 := by kernel_rfl

def za8 (N : Nat) : List A -> Res := z12 [(0, .v (.sl .str))] (fun x => z2t N x.1) (z2k (.v .str) 1)

theorem zit (N : Nat) : Contract Tryz.prog glob 30 (za8 N) :=
  Contract.of (E := E_97 N) (H := t_97 N) (L := L_97) (N := N) (body := z1du) (K := (z1h (.v .str) 1)) (z1q2 N) Tryz.func30 (by kernel_rfl) (by decide) (fun _ hb => TabOk.nil) (fun x y h => by rw [z1b7]; exact h) (zm (s := (.v .str)) (m := 1))

def z1dt : Code := (Tryz.f32.body).getD .skip

def L_98 : List (List Nat × List Nat) := [([0], []), ([0, 1], [0]), ([1, 1], [0])]

def E_98 (N : Nat) : Env := z16 tys glob [] [] [] [] false [] [(123, zd N), (66, zb N), (98, z7 N)]

theorem z1q1 (N : Nat) : EnvOk Tryz.prog (E_98 N) := zk mixed zp (FnsOk.nil) (ItsOk.cons (zf N) (ItsOk.cons (ze N) (ItsOk.cons (z8 N) (ItsOk.nil))))

def z9e (N : Nat) : Option (List (List UInt8)) :=
 some ([([(115 : UInt8), (101 : UInt8), (97 : UInt8), (108 : UInt8)] : List UInt8)] : List (List UInt8))

def t_98 (N : Nat) : Tab (List (List UInt8)) := []

theorem z1b6 (N : Nat) (x : z1j []) : z2j (E_98 N) N (t_98 N) L_98 Tryz.f32 (mkS [] 0 x) (z1h (.v (.sl .str)) 0) = z9e N := by kernel_rfl

def z6o (N : Nat) : List A -> Res := z12 [] (fun x => z9e N) (z2k (.v (.sl .str)) 0)

theorem zde (N : Nat) : Contract Tryz.prog glob 32 (z6o N) :=
  Contract.of (E := E_98 N) (H := t_98 N) (L := L_98) (N := N) (body := z1dt) (K := (z1h (.v (.sl .str)) 0)) (z1q1 N) Tryz.func32 (by kernel_rfl) (by decide) (fun _ hb => TabOk.nil) (fun x y h => by rw [z1b6]; exact h) (zm (s := (.v (.sl .str))) (m := 0))

def zpb : Code := (Tryz.f35.body).getD .skip

def L_99 : List (List Nat × List Nat) := [([0], [1, 0]), ([0, 0, 1], [13, 0, 1]), ([1, 0, 1], [0, 1]), ([0, 0, 1, 0, 1], [4]), ([1, 0, 1, 0, 1], [4]), ([0, 1, 1], [5, 0, 1]), ([0, 1, 1, 1], [4]), ([1, 1, 1, 1], [4])]

def z1sa (N : Nat) : Env := z16 tys glob [(31, z1s N), (33, z2m N), (34, z2n N)] [(4, .str), (5, .str)] [] [] true [] [(123, zd N), (66, zb N), (98, z7 N)]

theorem z1q0 (N : Nat) : EnvOk Tryz.prog (z1sa N) := zk mixed zp (FnsOk.cons (z2b N) (FnsOk.cons (z3t N) (FnsOk.cons (z3v N) (FnsOk.nil)))) (ItsOk.cons (zf N) (ItsOk.cons (ze N) (ItsOk.cons (z8 N) (ItsOk.nil))))

def z2v (N : Nat) (key : (List UInt8)) (s : (List UInt8)) (k0 : Bool -> Option (List (List UInt8))) : Option (List (List UInt8)) :=
 cond (decide ((((List.length s) : Nat) : Int) < (48 : Int)))
 (k0 true)
 (k0 (decide ((4144 : Int) < (((List.length s) : Nat) : Int))))

def z1np (N : Nat) (x : z1j SQ0) (K : Ex -> List A -> Option (List (List UInt8))) : Option (List (List UInt8)) :=
 z2v N x.1 x.2.1 (fun a2 => (K .normal (mkS [(0, .v .str), (0, .v .str), (11, .v .bool)] 15 (x.1, x.2.1, a2, ()))))

def z1ls (N : Nat) : Hd (List (List UInt8)) := fun st K => (unS SQ0 27 (restr [1, 0] 0 st)).bind fun x => z1np N x K

def t2_99 (N : Nat) : Tab (List (List UInt8)) := []

theorem z1jf {N : Nat} {c : Ctx} (hb : Base Tryz.prog (z1sa N) c) : zo Tryz.prog c (zl zpb [0, 0, 1]) (z1ls N) :=
  z14 (s := SQ0) (m := 27) (g := z1np N) [1, 0] (zi hb N (t2_99 N) L_99 zpb TabOk.nil [0, 0, 1] _ rfl) (fun x K => by kernel_rfl)

def z2w (N : Nat) (key : (List UInt8)) (s : (List UInt8)) (k0 : (List (List UInt8)) -> Option (List (List UInt8))) (k1 : Option (List (List UInt8))) : Option (List (List UInt8)) :=
 z2v N key s
 (fun x13 => cond x13
 (k0 ([] : List (List UInt8)))
 (k1))

def z1o3 (N : Nat) (x : z1j SQ0) (K : Ex -> List A -> Option (List (List UInt8))) : Option (List (List UInt8)) :=
 z2w N x.1 x.2.1 (fun a0 => (K .ret (mkS [(4, .row .str)] 24 (a0, ())))) (K .normal (mkS SQ0 27 (x.1, x.2.1, ())))

def z1m6 (N : Nat) : Hd (List (List UInt8)) := fun st K => (unS SQ0 27 (restr [1, 0] 0 st)).bind fun x => z1o3 N x K

def t1_99 (N : Nat) : Tab (List (List UInt8)) := [([0, 0, 1], z1ls N)]

theorem z1jt {N : Nat} {c : Ctx} (hb : Base Tryz.prog (z1sa N) c) : zo Tryz.prog c (zl zpb [0, 1]) (z1m6 N) :=
  z14 (s := SQ0) (m := 27) (g := z1o3 N) [1, 0] (zi hb N (t1_99 N) L_99 zpb (TabOk.cons (z1jf hb) TabOk.nil) [0, 1] _ rfl) (fun x K => by kernel_rfl)

def z25 (N : Nat) (key : (List UInt8)) (s : (List UInt8)) : Option (List (List UInt8)) :=
 z2w N key s
 (fun x4 => some x4)
 ((z1d N ([([(116 : UInt8), (97 : UInt8), (103 : UInt8)] : List UInt8)] : List (List UInt8))).bind fun y =>
 (z19 N key y).bind fun y1 =>
 (zy N key ([([(116 : UInt8), (97 : UInt8), (103 : UInt8)] : List UInt8)] : List (List UInt8))).bind fun y2 =>
 cond (decide (((0 : Int) <= (IntKind.wrap IntKind.i64 ((((List.length s) : Nat) : Int) - (32 : Int)))) /\ ((IntKind.wrap IntKind.i64 ((((List.length s) : Nat) : Int) - (32 : Int))) <= (((List.length s) : Nat) : Int))))
 ((z19 N y2 (cut s 0 (Int.toNat (IntKind.wrap IntKind.i64 ((((List.length s) : Nat) : Int) - (32 : Int)))))).bind fun y3 =>
 cond (decide ((((List.length y1) + (List.length y3)) * 16) <= 70368744177664))
 (some (y1 ++ y3))
 (none))
 (none))

def t_99 (N : Nat) : Tab (List (List UInt8)) := [([0, 1], z1m6 N)]

theorem z1b5 (N : Nat) (x : z1j SQ0) : z2j (z1sa N) N (t_99 N) L_99 Tryz.f35 (mkS SQ0 0 x) (z1h (.row .str) 2) = z25 N x.1 x.2.1 := by kernel_rfl

def z9i (N : Nat) : List A -> Res := z12 SQ0 (fun x => z25 N x.1 x.2.1) (z2k (.row .str) 2)

theorem zhm (N : Nat) : Contract Tryz.prog glob 35 (z9i N) :=
  Contract.of (E := z1sa N) (H := t_99 N) (L := L_99) (N := N) (body := zpb) (K := (z1h (.row .str) 2)) (z1q0 N) Tryz.func35 (by kernel_rfl) (by decide) (fun _ hb => (TabOk.cons (z1jt hb) TabOk.nil)) (fun x y h => by rw [z1b5]; exact h) (zm (s := (.row .str)) (m := 2))

def zss : Code := (Tryz.f114.body).getD .skip

def z1fw : List (List Nat × List Nat) := [([0], [0]), ([0, 1], [0, 3]), ([0, 0, 1, 1], [4, 0, 3]), ([0, 1, 0, 1, 1], [4, 0, 3]), (z193, [6, 0, 3, 4]), (z192, [0, 3, 4]), (z194, [3]), (z174, [0, 4, 3]), (z1pl, [4, 0, 3]), (PQ9, [4, 0, 3]), (z191, [4, 0, 3]), ([1, 0, 1, 1], [3]), ([0, 1, 1, 1], [2]), ([1, 1, 1, 1], [2])]

def z17d (N : Nat) : Env := z16 tys glob [(88, z2x N)] [] [] [] false [] [(123, zd N), (66, zb N), (98, z7 N)]

theorem z1g9 (N : Nat) : EnvOk Tryz.prog (z17d N) := zk mixed zp (FnsOk.cons (z4h N) (FnsOk.nil)) (ItsOk.cons (zf N) (ItsOk.cons (ze N) (ItsOk.cons (z8 N) (ItsOk.nil))))

def z9j (N : Nat) (n : Int) (out : (List UInt8)) (i : Int) (rec : Int -> (List UInt8) -> Int -> Option (List UInt8)) (k0 : (List UInt8) -> Option (List UInt8)) : Option (List UInt8) :=
 cond (decide (i < (8 : Int)))
 (cond (decide (((List.length (z27 ([(IntKind.wrap IntKind.u8 (Int.tmod n (256 : Int)))] : List Int))) + (List.length out)) <= 9223372036854775807))
 (rec (IntKind.wrap IntKind.i64 (Int.tdiv n (256 : Int))) ((z27 ([(IntKind.wrap IntKind.u8 (Int.tmod n (256 : Int)))] : List Int)) ++ out) (IntKind.wrap IntKind.i64 (i + (1 : Int))))
 (none))
 (k0 out)

def zg6 (N : Nat) (n : Int) (out : (List UInt8)) (i : Int) (k0 : (List UInt8) -> Option (List UInt8)) : Option (List UInt8) :=
 iter (fun (v : (Int × (List UInt8) × Int)) r => z9j N v.1 v.2.1 v.2.2 (fun n out i => (r (n, out, i))) k0) N (n, out, i)

def z18k (N : Nat) (i : Unit) (v : (Int × (List UInt8) × Int)) (r : (Int × (List UInt8) × Int) -> Option (List UInt8)) (K : Ex -> List A -> Option (List UInt8)) : Option (List UInt8) :=
 z9j N v.1 v.2.1 v.2.2 (fun n out i => (r (n, out, i))) (fun a0 => (K (.exit 0) (mkS [(3, .v .str)] 13 (a0, ()))))

def z183 (N : Nat) : Hd (List UInt8) := fun st K => (unS SQ57 12 (restr [4, 0, 3] 0 st)).bind fun x => iter (fun v r => z18k N ((fun x => ()) x) v r K) N ((fun x => (x.1, x.2.1, x.2.2.1)) x)

def z1ih (N : Nat) : Tab (List UInt8) := []

theorem z1aq {N : Nat} {c : Ctx} (hb : Base Tryz.prog (z17d N) c) : zo Tryz.prog c (zl zss [0, 1, 0, 1, 1]) (z183 N) :=
  z1i (s := SQ57) (m := 12) (z18k N) [4, 0, 3] N (fun x => ()) (fun x => (x.1, x.2.1, x.2.2.1)) (fun i v => (v.1, v.2.1, v.2.2, ())) (fun _ => rfl) (zi hb N (z1ih N) z1fw zss TabOk.nil [0, 0, 1, 0, 1, 1] _ rfl) (fun i v r K => by kernel_rfl)

def z2s (N : Nat) (n : Int) : Option (List UInt8) :=
 zg6 N n ([] : List UInt8) (0 : Int)
 (fun out => some out)

def z1i6 (N : Nat) : Tab (List UInt8) := [([0, 1, 0, 1, 1], z183 N)]

theorem z161 (N : Nat) (x : z1j [(0, .v (.int .i64))]) : z2j (z17d N) N (z1i6 N) z1fw Tryz.f114 (mkS [(0, .v (.int .i64))] 0 x) (z1h (.v .str) 1) = z2s N x.1 := by kernel_rfl

def z8p (N : Nat) : List A -> Res := z12 [(0, .v (.int .i64))] (fun x => z2s N x.1) (z2k (.v .str) 1)

theorem zg7 (N : Nat) : Contract Tryz.prog glob 114 (z8p N) :=
  Contract.of (E := z17d N) (H := z1i6 N) (L := z1fw) (N := N) (body := zss) (K := (z1h (.v .str) 1)) (z1g9 N) Tryz.func114 (by kernel_rfl) (by decide) (fun _ hb => (TabOk.cons (z1aq hb) TabOk.nil)) (fun x y h => by rw [z161]; exact h) (zm (s := (.v .str)) (m := 1))

def z16n : Code := (Tryz.f105.body).getD .skip

def z1pv : List (List Nat × List Nat) := [([0], [2, 0, 1]), ([0, 0, 1], [8, 0, 1, 2]), ([1, 0, 1], [0, 1, 2]), ([0, 0, 1, 0, 1], [6]), ([1, 0, 1, 0, 1], [6]), ([0, 1, 1], [6]), ([1, 1, 1], [6])]

def z1gi (N : Nat) : Env := z16 tys glob [(114, z8p N), (31, z1s N)] [] [] [] false [] [(123, zd N), (66, zb N), (98, z7 N)]

theorem z1g8 (N : Nat) : EnvOk Tryz.prog (z1gi N) := zk mixed zp (FnsOk.cons (zg7 N) (FnsOk.cons (z2b N) (FnsOk.nil))) (ItsOk.cons (zf N) (ItsOk.cons (ze N) (ItsOk.cons (z8 N) (ItsOk.nil))))

def z3y (N : Nat) (key : (List UInt8)) (nonce : (List UInt8)) (i : Int) : Option (List UInt8) :=
 cond (decide (i < (0 : Int)))
 (some ([] : List UInt8))
 ((z2s N i).bind fun y =>
 (zy N key ([([(115 : UInt8), (116 : UInt8), (114 : UInt8), (101 : UInt8), (97 : UInt8), (109 : UInt8)] : List UInt8), nonce, y] : List (List UInt8))).bind fun y1 =>
 some y1)

def z1i5 (N : Nat) : Tab (List UInt8) := []

theorem z160 (N : Nat) (x : z1j SQ3) : z2j (z1gi N) N (z1i5 N) z1pv Tryz.f105 (mkS SQ3 0 x) (z1h (.v .str) 3) = z3y N x.1 x.2.1 x.2.2.1 := by kernel_rfl

def z9k (N : Nat) : List A -> Res := z12 SQ3 (fun x => z3y N x.1 x.2.1 x.2.2.1) (z2k (.v .str) 3)

theorem zhn (N : Nat) : Contract Tryz.prog glob 105 (z9k N) :=
  Contract.of (E := z1gi N) (H := z1i5 N) (L := z1pv) (N := N) (body := z16n) (K := (z1h (.v .str) 3)) (z1g8 N) Tryz.func105 (by kernel_rfl) (by decide) (fun _ hb => TabOk.nil) (fun x y h => by rw [z160]; exact h) (zm (s := (.v .str)) (m := 3))

def zks : Code := (Tryz.f91.body).getD .skip

def z178 : List (List Nat × List Nat) := [([0], [2, 0, 1]), ([0, 0, 1], [10, 0, 1, 2]), ([1, 0, 1], [2, 0, 1]), ([0, 1, 0, 1], [2, 0, 1]), ([0, 1, 1], [7, 2, 0, 1]), ([0, 0, 1, 1, 1], [7, 2, 0, 1, 8]), ([0, 1, 0, 1, 1, 1], [7, 2, 0, 1, 8]), (z1fb, [14, 7, 0, 1, 8, 2]), (z1fa, [7, 0, 1, 8, 2]), (z1fd, [2, 7]), ([0, 0, 1, 0, 0, 1, 0, 1, 1, 1], [8, 7, 2, 0, 1]), (z10m, [8, 7, 2, 0, 1]), (z1f9, [7, 2, 0, 1, 8]), ([1, 0, 1, 1, 1], [2, 7]), ([0, 0, 1, 1, 1, 1], [24, 7, 2]), ([1, 0, 1, 1, 1, 1], [7, 2]), (z1pp, [6]), (z1fl, [6]), ([0, 1, 1, 1, 1, 1], [6]), ([1, 1, 1, 1, 1, 1], [6])]

def z13z (N : Nat) : Env := z16 tys glob [(105, z9k N)] [] [] [] false [] [(123, zd N), (66, zb N), (98, z7 N)]

theorem z1g7 (N : Nat) : EnvOk Tryz.prog (z13z N) := zk mixed zp (FnsOk.cons (zhn N) (FnsOk.nil)) (ItsOk.cons (zf N) (ItsOk.cons (ze N) (ItsOk.cons (z8 N) (ItsOk.nil))))

def z7a (N : Nat) (key : (List UInt8)) (nonce : (List UInt8)) (n : Int) (k0 : Int -> Option (List UInt8)) : Option (List UInt8) :=
 cond (decide ((65536 : Int) < n))
 (k0 (65536 : Int))
 (k0 n)

def z18j (N : Nat) (x : z1j SQ3) (K : Ex -> List A -> Option (List UInt8)) : Option (List UInt8) :=
 z7a N x.1 x.2.1 x.2.2.1 (fun a2 => (K .normal (mkS SQ3 25 (x.1, x.2.1, a2, ()))))

def z182 (N : Nat) : Hd (List UInt8) := fun st K => (unS SQ3 25 (restr [2, 0, 1] 0 st)).bind fun x => z18j N x K

def z1ig (N : Nat) : Tab (List UInt8) := []

theorem z1ap {N : Nat} {c : Ctx} (hb : Base Tryz.prog (z13z N) c) : zo Tryz.prog c (zl zks [0, 1]) (z182 N) :=
  z14 (s := SQ3) (m := 25) (g := z18j N) [2, 0, 1] (zi hb N (z1ig N) z178 zks TabOk.nil [0, 1] _ rfl) (fun x K => by kernel_rfl)

def z79 (N : Nat) (key : (List UInt8)) (nonce : (List UInt8)) (n : Int) (out : (List UInt8)) (i : Int) (rec : (List UInt8) -> Int -> Option (List UInt8)) (k0 : (List UInt8) -> Option (List UInt8)) : Option (List UInt8) :=
 cond (decide ((((List.length out) : Nat) : Int) < n))
 ((z3y N key nonce i).bind fun y =>
 cond (decide (((List.length out) + (List.length y)) <= 9223372036854775807))
 (rec (out ++ y) (IntKind.wrap IntKind.i64 (i + (1 : Int))))
 (none))
 (k0 out)

def zbg (N : Nat) (key : (List UInt8)) (nonce : (List UInt8)) (n : Int) (out : (List UInt8)) (i : Int) (k0 : (List UInt8) -> Option (List UInt8)) : Option (List UInt8) :=
 iter (fun (v : ((List UInt8) × Int)) r => z79 N key nonce n v.1 v.2 (fun out i => (r (out, i))) k0) N (out, i)

def z18d (N : Nat) (i : ((List UInt8) × (List UInt8) × Int)) (v : ((List UInt8) × Int)) (r : ((List UInt8) × Int) -> Option (List UInt8)) (K : Ex -> List A -> Option (List UInt8)) : Option (List UInt8) :=
 z79 N i.1 i.2.1 i.2.2 v.1 v.2 (fun out i => (r (out, i))) (fun a1 => (K (.exit 0) (mkS [(2, .v (.int .i64)), (4, .v .str)] 20 (i.2.2, a1, ()))))

def z17w (N : Nat) : Hd (List UInt8) := fun st K => (unS [(0, .v .str), (0, .v .str), (0, .v (.int .i64)), (4, .v .str), (0, .v (.int .i64))] 19 (restr [7, 2, 0, 1, 8] 0 st)).bind fun x => iter (fun v r => z18d N ((fun x => (x.1, x.2.1, x.2.2.1)) x) v r K) N ((fun x => (x.2.2.2.1, x.2.2.2.2.1)) x)

def z1ia (N : Nat) : Tab (List UInt8) := []

theorem z1aj {N : Nat} {c : Ctx} (hb : Base Tryz.prog (z13z N) c) : zo Tryz.prog c (zl zks [0, 1, 0, 1, 1, 1]) (z17w N) :=
  z1i (s := [(0, .v .str), (0, .v .str), (0, .v (.int .i64)), (4, .v .str), (0, .v (.int .i64))]) (m := 19) (z18d N) [7, 2, 0, 1, 8] N (fun x => (x.1, x.2.1, x.2.2.1)) (fun x => (x.2.2.2.1, x.2.2.2.2.1)) (fun i v => (i.1, i.2.1, i.2.2, v.1, v.2, ())) (fun _ => rfl) (zi hb N (z1ia N) z178 zks TabOk.nil z149 _ rfl) (fun i v r K => by kernel_rfl)

def z4o (N : Nat) (key : (List UInt8)) (nonce : (List UInt8)) (n : Int) : Option (List UInt8) :=
 z7a N key nonce n
 (fun n1 => zbg N key nonce n1 ([] : List UInt8) (0 : Int)
 (fun out => cond (decide (n1 < (1 : Int)))
 (some ([] : List UInt8))
 (cond (decide (((0 : Int) <= n1) /\ (n1 <= (((List.length out) : Nat) : Int))))
 (some (cut out 0 (Int.toNat n1)))
 (none))))

def z1i4 (N : Nat) : Tab (List UInt8) := [([0, 1], z182 N), ([0, 1, 0, 1, 1, 1], z17w N)]

theorem z15z (N : Nat) (x : z1j SQ3) : z2j (z13z N) N (z1i4 N) z178 Tryz.f91 (mkS SQ3 0 x) (z1h (.v .str) 3) = z4o N x.1 x.2.1 x.2.2.1 := by kernel_rfl

def zae (N : Nat) : List A -> Res := z12 SQ3 (fun x => z4o N x.1 x.2.1 x.2.2.1) (z2k (.v .str) 3)

theorem zix (N : Nat) : Contract Tryz.prog glob 91 (zae N) :=
  Contract.of (E := z13z N) (H := z1i4 N) (L := z178) (N := N) (body := zks) (K := (z1h (.v .str) 3)) (z1g7 N) Tryz.func91 (by kernel_rfl) (by decide) (fun _ hb => (TabOk.cons (z1ap hb) (TabOk.cons (z1aj hb) TabOk.nil))) (fun x y h => by rw [z15z]; exact h) (zm (s := (.v .str)) (m := 3))

def z16m : Code := (Tryz.f64.body).getD .skip

def z1pu : List (List Nat × List Nat) := [([0], [2, 0, 1]), ([0, 0, 1], [9, 2, 0, 1]), ([1, 0, 1], [2, 0, 1]), ([0, 0, 1, 0, 1], [6]), ([1, 0, 1, 0, 1], [6]), ([0, 1, 1], [6]), ([1, 1, 1], [6])]

def z1gh (N : Nat) : Env := z16 tys glob [(91, zae N), (89, z7j N)] [] [] [] false [] [(123, zd N), (66, zb N), (98, z7 N)]

theorem z1g6 (N : Nat) : EnvOk Tryz.prog (z1gh N) := zk mixed zp (FnsOk.cons (zix N) (FnsOk.cons (zcf N) (FnsOk.nil))) (ItsOk.cons (zf N) (ItsOk.cons (ze N) (ItsOk.cons (z8 N) (ItsOk.nil))))

def z2l (N : Nat) (key : (List UInt8)) (nonce : (List UInt8)) (text : (List UInt8)) : Option (List UInt8) :=
 cond (decide ((65536 : Int) < (((List.length text) : Nat) : Int)))
 (some ([] : List UInt8))
 ((z4o N key nonce (((List.length text) : Nat) : Int)).bind fun y =>
 (z41 N text y).bind fun y1 =>
 some y1)

def z1i3 (N : Nat) : Tab (List UInt8) := []

theorem z15y (N : Nat) (x : z1j SQ2) : z2j (z1gh N) N (z1i3 N) z1pu Tryz.f64 (mkS SQ2 0 x) (z1h (.v .str) 3) = z2l N x.1 x.2.1 x.2.2.1 := by kernel_rfl

def z7b (N : Nat) : List A -> Res := z12 SQ2 (fun x => z2l N x.1 x.2.1 x.2.2.1) (z2k (.v .str) 3)

theorem zcc (N : Nat) : Contract Tryz.prog glob 64 (z7b N) :=
  Contract.of (E := z1gh N) (H := z1i3 N) (L := z1pu) (N := N) (body := z16m) (K := (z1h (.v .str) 3)) (z1g6 N) Tryz.func64 (by kernel_rfl) (by decide) (fun _ hb => TabOk.nil) (fun x y h => by rw [z15y]; exact h) (zm (s := (.v .str)) (m := 3))

def z16l : Code := (Tryz.f65.body).getD .skip

def z1pt : List (List Nat × List Nat) := [([0], [1, 2, 0]), ([0, 0, 1], [11, 2, 1, 0]), ([1, 0, 1], [2, 1, 0]), ([0, 0, 1, 0, 1], [6, 7]), ([1, 0, 1, 0, 1], [6, 7]), ([0, 0, 1, 1], [14, 1, 0, 2]), ([1, 0, 1, 1], [1, 0, 2]), ([0, 0, 1, 0, 1, 1], [6, 7]), ([1, 0, 1, 0, 1, 1], [6, 7]), ([0, 1, 1, 1], [8, 0]), ([0, 1, 1, 1, 1], [6, 7]), ([1, 1, 1, 1, 1], [6, 7])]

def z1gg (N : Nat) : Env := z16 tys glob [(64, z7b N), (31, z1s N), (60, z7c N)] [] [] [] false [] [(123, zd N), (66, zb N), (98, z7 N)]

theorem z1g5 (N : Nat) : EnvOk Tryz.prog (z1gg N) := zk mixed zp (FnsOk.cons (zcc N) (FnsOk.cons (z2b N) (FnsOk.cons (zcd N) (FnsOk.nil)))) (ItsOk.cons (zf N) (ItsOk.cons (ze N) (ItsOk.cons (z8 N) (ItsOk.nil))))

def z3e (N : Nat) (key : (List UInt8)) (nonce : (List UInt8)) (text : (List UInt8)) : Option ((List UInt8) × Int × Unit) :=
 cond ((((List.length nonce) : Nat) : Int) != (16 : Int))
 (some (([] : List UInt8), ((7 : Int), ())))
 (cond (decide ((4096 : Int) < (((List.length text) : Nat) : Int)))
 (some (([] : List UInt8), ((3 : Int), ())))
 ((zy N key ([([(104 : UInt8), (105 : UInt8), (100 : UInt8), (101 : UInt8)] : List UInt8)] : List (List UInt8))).bind fun y =>
 (z2l N y nonce text).bind fun y1 =>
 cond (decide (((List.length nonce) + (List.length y1)) <= 9223372036854775807))
 ((zy N key ([([(116 : UInt8), (97 : UInt8), (103 : UInt8)] : List UInt8)] : List (List UInt8))).bind fun y2 =>
 (z3b N y2 (nonce ++ y1)).bind fun y3 =>
 cond (decide (((List.length (nonce ++ y1)) + (List.length y3)) <= 9223372036854775807))
 (some (((nonce ++ y1) ++ y3), ((0 : Int), ())))
 (none))
 (none)))

def z1i2 (N : Nat) : Tab ((List UInt8) × Int × Unit) := []

theorem z15x (N : Nat) (x : z1j SQ2) : z2j (z1gg N) N (z1i2 N) z1pt Tryz.f65 (mkS SQ2 0 x) (z1h (.tup [.str, (.int .i64)]) 3) = z3e N x.1 x.2.1 x.2.2.1 := by kernel_rfl

def zac (N : Nat) : List A -> Res := z12 SQ2 (fun x => z3e N x.1 x.2.1 x.2.2.1) (z2k (.tup [.str, (.int .i64)]) 3)

theorem ziv (N : Nat) : Contract Tryz.prog glob 65 (zac N) :=
  Contract.of (E := z1gg N) (H := z1i2 N) (L := z1pt) (N := N) (body := z16l) (K := (z1h (.tup [.str, (.int .i64)]) 3)) (z1g5 N) Tryz.func65 (by kernel_rfl) (by decide) (fun _ hb => TabOk.nil) (fun x y h => by rw [z15x]; exact h) (zm (s := (.tup [.str, (.int .i64)])) (m := 3))

def z16k : Code := (Tryz.f36.body).getD .skip

def z1ps : List (List Nat × List Nat) := [([0], [1, 0]), ([0, 0, 1], [12, 1, 0]), ([1, 0, 1], [1, 0]), ([0, 0, 1, 0, 1], [4, 5]), ([1, 0, 1, 0, 1], [4, 5]), ([0, 0, 1, 1], [15, 1, 0]), ([1, 0, 1, 1], [1, 0]), ([0, 0, 1, 0, 1, 1], [4, 5]), ([1, 0, 1, 0, 1, 1], [4, 5]), ([0, 1, 1, 1], [0, 1, 6]), ([0, 1, 1, 1, 1], [0, 1, 7]), ([0, 1, 1, 1, 1, 1], [8, 1, 7]), ([0, 0, 1, 1, 1, 1, 1, 1], [38, 7]), ([1, 0, 1, 1, 1, 1, 1, 1], [7]), ([0, 0, 1, 0, 1, 1, 1, 1, 1, 1], [4, 5]), ([1, 0, 1, 0, 1, 1, 1, 1, 1, 1], [4, 5]), (z1fm, [4, 5]), ([1, 1, 1, 1, 1, 1, 1, 1], [4, 5])]

def z1gf (N : Nat) : Env := z16 tys glob [(65, zac N), (64, z7b N), (31, z1s N)] [] [] [] false [] [(123, zd N), (66, zb N), (98, z7 N)]

theorem z1g4 (N : Nat) : EnvOk Tryz.prog (z1gf N) := zk mixed zp (FnsOk.cons (ziv N) (FnsOk.cons (zcc N) (FnsOk.cons (z2b N) (FnsOk.nil)))) (ItsOk.cons (zf N) (ItsOk.cons (ze N) (ItsOk.cons (z8 N) (ItsOk.nil))))

def z1p (N : Nat) (key : (List UInt8)) (s : (List UInt8)) : Option ((List UInt8) × Int × Unit) :=
 cond (decide ((((List.length s) : Nat) : Int) < (48 : Int)))
 (some (([] : List UInt8), ((1 : Int), ())))
 (cond (decide ((4144 : Int) < (((List.length s) : Nat) : Int)))
 (some (([] : List UInt8), ((3 : Int), ())))
 ((zy N key ([([(104 : UInt8), (105 : UInt8), (100 : UInt8), (101 : UInt8)] : List UInt8)] : List (List UInt8))).bind fun y =>
 cond (decide (((0 : Int) <= (16 : Int)) /\ ((16 : Int) <= (((List.length s) : Nat) : Int))))
 (cond (decide (((0 : Int) <= (IntKind.wrap IntKind.i64 ((((List.length s) : Nat) : Int) - (32 : Int)))) /\ ((IntKind.wrap IntKind.i64 ((((List.length s) : Nat) : Int) - (32 : Int))) <= (((List.length s) : Nat) : Int))))
 (cond (decide (((0 : Int) <= (16 : Int)) /\ ((16 : Int) <= (IntKind.wrap IntKind.i64 ((((List.length s) : Nat) : Int) - (32 : Int))))))
 ((z2l N y (cut s 0 16) (cut s 16 (Int.toNat (IntKind.wrap IntKind.i64 ((((List.length s) : Nat) : Int) - (32 : Int)))))).bind fun y1 =>
 cond (decide (((0 : Int) <= (16 : Int)) /\ ((16 : Int) <= (((List.length s) : Nat) : Int))))
 ((z3e N key (cut s 0 16) y1).bind fun y2 =>
 cond (!(y2.1 == s))
 (some (([] : List UInt8), ((8 : Int), ())))
 (some (y1, ((0 : Int), ()))))
 (none))
 (none))
 (none))
 (none)))

def z1i1 (N : Nat) : Tab ((List UInt8) × Int × Unit) := []

theorem z15w (N : Nat) (x : z1j SQ0) : z2j (z1gf N) N (z1i1 N) z1ps Tryz.f36 (mkS SQ0 0 x) (z1h (.tup [.str, (.int .i64)]) 2) = z1p N x.1 x.2.1 := by kernel_rfl

def zad (N : Nat) : List A -> Res := z12 SQ0 (fun x => z1p N x.1 x.2.1) (z2k (.tup [.str, (.int .i64)]) 2)

theorem ziw (N : Nat) : Contract Tryz.prog glob 36 (zad N) :=
  Contract.of (E := z1gf N) (H := z1i1 N) (L := z1ps) (N := N) (body := z16k) (K := (z1h (.tup [.str, (.int .i64)]) 2)) (z1g4 N) Tryz.func36 (by kernel_rfl) (by decide) (fun _ hb => TabOk.nil) (fun x y h => by rw [z15w]; exact h) (zm (s := (.tup [.str, (.int .i64)])) (m := 2))

def z16j : Code := (Tryz.f37.body).getD .skip

def z1pr : List (List Nat × List Nat) := [([0], [0]), ([0, 1], [2]), ([1, 1], [2])]

def z1ge (N : Nat) : Env := z16 tys glob [] [] [] [] false [] [(123, zd N), (66, zb N), (98, z7 N)]

theorem z1g3 (N : Nat) : EnvOk Tryz.prog (z1ge N) := zk mixed zp (FnsOk.nil) (ItsOk.cons (zf N) (ItsOk.cons (ze N) (ItsOk.cons (z8 N) (ItsOk.nil))))

def z9g (N : Nat) (other : (List UInt8)) : Option (List (List UInt8)) :=
 some ([([(98 : UInt8), (105 : UInt8), (110 : UInt8), (100 : UInt8)] : List UInt8), other] : List (List UInt8))

def z1i0 (N : Nat) : Tab (List (List UInt8)) := []

theorem z15v (N : Nat) (x : z1j [(0, .v .str)]) : z2j (z1ge N) N (z1i0 N) z1pr Tryz.f37 (mkS [(0, .v .str)] 0 x) (z1h (.v (.sl .str)) 1) = z9g N x.1 := by kernel_rfl

def z6p (N : Nat) : List A -> Res := z12 [(0, .v .str)] (fun x => z9g N x.1) (z2k (.v (.sl .str)) 1)

theorem zdf (N : Nat) : Contract Tryz.prog glob 37 (z6p N) :=
  Contract.of (E := z1ge N) (H := z1i0 N) (L := z1pr) (N := N) (body := z16j) (K := (z1h (.v (.sl .str)) 1)) (z1g3 N) Tryz.func37 (by kernel_rfl) (by decide) (fun _ hb => TabOk.nil) (fun x y h => by rw [z15v]; exact h) (zm (s := (.v (.sl .str))) (m := 1))

def z16i : Code := (Tryz.f10.body).getD .skip

def z1pq : List (List Nat × List Nat) := [([0], [3, 0]), ([0, 0, 1], [8, 3, 0]), ([1, 0, 1], [3, 0]), ([0, 0, 1, 0, 1], [4]), ([1, 0, 1, 0, 1], [4]), ([0, 1, 1], [5, 0]), ([0, 1, 1, 1], [5]), ([0, 1, 1, 1, 1], [4]), ([1, 1, 1, 1, 1], [4])]

def z1gd (N : Nat) : Env := z16 tys glob [(28, z54 N), (27, z8s N), (26, z8q N)] [] [] [] false [] [(123, zd N), (66, zb N), (98, z7 N)]

theorem z1g2 (N : Nat) : EnvOk Tryz.prog (z1gd N) := zk mixed zp (FnsOk.cons (za2 N) (FnsOk.cons (zf9 N) (FnsOk.cons (zf7 N) (FnsOk.nil)))) (ItsOk.cons (zf N) (ItsOk.cons (ze N) (ItsOk.cons (z8 N) (ItsOk.nil))))

def z4d (N : Nat) (key : (List UInt8)) (b : zxa) : Option Int :=
 (z5f N b).bind fun y =>
 cond (!y)
 (some (0 : Int))
 ((z4c N b).bind fun y1 =>
 (z33 N y1 key).bind fun y2 =>
 some y2.2.1.2.2.2.2.1)

def z1hz (N : Nat) : Tab Int := []

theorem z15u (N : Nat) (x : z1j z1gt) : z2j (z1gd N) N (z1hz N) z1pq Tryz.f10 (mkS z1gt 0 x) (z1h (.v (.int .i64)) 2) = z4d N x.1 x.2.1 := by kernel_rfl

def zfq (N : Nat) : List A -> Res := z12 z1gt (fun x => z4d N x.1 x.2.1) (z2k (.v (.int .i64)) 2)

theorem zpq (N : Nat) : Contract Tryz.prog glob 10 (zfq N) :=
  Contract.of (E := z1gd N) (H := z1hz N) (L := z1pq) (N := N) (body := z16i) (K := (z1h (.v (.int .i64)) 2)) (z1g2 N) Tryz.func10 (by kernel_rfl) (by decide) (fun _ hb => TabOk.nil) (fun x y h => by rw [z15u]; exact h) (zm (s := (.v (.int .i64))) (m := 2))

def zkr : Code := (Tryz.f11.body).getD .skip

def z177 : List (List Nat × List Nat) := [([0], [1]), ([0, 1], [1, 3]), ([0, 0, 1, 1], [14, 13, 12, 3]), ([0, 1, 0, 1, 1], [14, 13, 12, 3]), (z14a, [15, 12, 14, 3, 13]), (PQ9, [12, 14, 3, 13]), (z1fg, [3]), (z1fi, [3, 5, 14, 13, 12]), ([0, 1, 0, 0, 1, 1, 0, 0, 1, 0, 1, 1], [5, 3, 14, 13, 12]), ([0, 1, 1, 0, 0, 1, 1, 0, 0, 1, 0, 1, 1], z190), (z1fj, z190), ([0, 0, 0, 1, 1, 1, 0, 0, 1, 1, 0, 0, 1, 0, 1, 1], [28, 25, 27, 3, 26, 14, 13, 12]), ([0, 1, 0, 0, 1, 1, 1, 0, 0, 1, 1, 0, 0, 1, 0, 1, 1], [25, 27, 3, 26, 14, 13, 12]), ([1, 0, 1, 0, 0, 1, 1, 1, 0, 0, 1, 1, 0, 0, 1, 0, 1, 1], [14, 13, 12, 3]), ([0, 0, 0, 1, 1, 0, 0, 1, 1, 1, 0, 0, 1, 1, 0, 0, 1, 0, 1, 1], [7, 3, 27, 26, 25, 14, 13, 12]), ([0, 1, 0, 0, 1, 1, 0, 0, 1, 1, 1, 0, 0, 1, 1, 0, 0, 1, 0, 1, 1], [33, 3, 27, 26, 25, 14, 13, 12]), ([1, 1, 0, 0, 1, 1, 0, 0, 1, 1, 1, 0, 0, 1, 1, 0, 0, 1, 0, 1, 1], z190), ([0, 1, 1, 0, 0, 1, 1, 0, 0, 1, 1, 1, 0, 0, 1, 1, 0, 0, 1, 0, 1, 1], z190), ([0, 1, 1, 0, 0, 1, 1, 1, 0, 0, 1, 1, 0, 0, 1, 0, 1, 1], z190), ([1, 1, 1, 0, 0, 1, 1, 1, 0, 0, 1, 1, 0, 0, 1, 0, 1, 1], z190), ([1, 1, 1, 0, 0, 1, 1, 0, 0, 1, 0, 1, 1], [14, 13, 12, 3]), (z1ff, [14, 13, 12, 3]), (z1fe, [14, 13, 12, 3]), ([1, 0, 1, 1], [3]), ([0, 1, 1, 1], [2]), ([1, 1, 1, 1], [2])]

def z13y (N : Nat) : Env := z16 tys glob [(39, zco N), (38, z8r N)] [] [] [] false [] [(123, zd N), (66, zb N), (98, z7 N)]

theorem z1g1 (N : Nat) : EnvOk Tryz.prog (z13y N) := zk mixed zp (FnsOk.cons (zjf N) (FnsOk.cons (zf8 N) (FnsOk.nil))) (ItsOk.cons (zf N) (ItsOk.cons (ze N) (ItsOk.cons (z8 N) (ItsOk.nil))))

def zcp (N : Nat) (x12 : (List DT1)) (x13 : Int) (x14 : Int) (x25 : (List DT8)) (x26 : Int) (most : Int) (x27 : Int) (rec : Int -> Int -> Option Int) (k0 : Int -> Option Int) : Option Int :=
 cond (decide (x27 < x26))
 (cond (inR x27 (List.length x25))
 (cond (!(eqD (T.pair T.str (T.pair T.str T.unit)) (List.getD x25 (Int.toNat x27) (([] : List UInt8), (([] : List UInt8), ()))) ((List.getD x25 (Int.toNat x27) (([] : List UInt8), (([] : List UInt8), ()))).1, (([] : List UInt8), ()))))
 (rec (IntKind.wrap IntKind.i64 (most + (1 : Int))) (IntKind.wrap IntKind.i64 (x27 + (1 : Int))))
 (rec most (IntKind.wrap IntKind.i64 (x27 + (1 : Int)))))
 (none))
 (k0 most)

def zcr (N : Nat) (most : Int) (x12 : (List DT1)) (x13 : Int) (x14 : Int) (x25 : (List DT8)) (x26 : Int) (x27 : Int) (k0 : Int -> Option Int) : Option Int :=
 iter (fun (v : (Int × Int)) r => zcp N x12 x13 x14 x25 x26 v.1 v.2 (fun most x27 => (r (most, x27))) k0) N (most, x27)

def z18c (N : Nat) (i : ((List DT1) × Int × Int × (List DT8) × Int)) (v : (Int × Int)) (r : (Int × Int) -> Option Int) (K : Ex -> List A -> Option Int) : Option Int :=
 zcp N i.1 i.2.1 i.2.2.1 i.2.2.2.1 i.2.2.2.2 v.1 v.2 (fun most x27 => (r (most, x27))) (fun a0 => (K (.exit 2) (mkS SQ50 24 (a0, i.1, i.2.1, i.2.2.1, ()))))

def z17v (N : Nat) : Hd Int := fun st K => (unS SQ35 11 (restr z190 0 st)).bind fun x => iter (fun v r => z18c N ((fun x => (x.2.1, x.2.2.1, x.2.2.2.1, x.2.2.2.2.1, x.2.2.2.2.2.1)) x) v r K) N ((fun x => (x.1, x.2.2.2.2.2.2.1)) x)

def z1i9 (N : Nat) : Tab Int := []

theorem z1ai {N : Nat} {c : Ctx} (hb : Base Tryz.prog (z13y N) c) : zo Tryz.prog c (zl zkr z1fj) (z17v N) :=
  z1i (s := SQ35) (m := 11) (z18c N) z190 N (fun x => (x.2.1, x.2.2.1, x.2.2.2.1, x.2.2.2.2.1, x.2.2.2.2.2.1)) (fun x => (x.1, x.2.2.2.2.2.2.1)) (fun i v => (v.1, i.1, i.2.1, i.2.2.1, i.2.2.2.1, i.2.2.2.2, v.2, ())) (fun _ => rfl) (zi hb N (z1i9 N) z177 zkr TabOk.nil [0, 0, 1, 1, 1, 0, 0, 1, 1, 0, 0, 1, 0, 1, 1] _ rfl) (fun i v r K => by kernel_rfl)

def zcq (N : Nat) (x12 : (List DT1)) (x13 : Int) (most : Int) (x14 : Int) (rec : Int -> Int -> Option Int) (k0 : Int -> Option Int) : Option Int :=
 cond (decide (x14 < x13))
 (cond (inR x14 (List.length x12))
 (zcr N (IntKind.wrap IntKind.i64 (most + (IntKind.wrap IntKind.i64 ((((List.length (List.getD x12 (Int.toNat x14) (([] : List UInt8), (([] : List DT8), (([] : List UInt8), ())))).2.1) : Nat) : Int) + (1 : Int))))) x12 x13 x14 (List.getD x12 (Int.toNat x14) (([] : List UInt8), (([] : List DT8), (([] : List UInt8), ())))).2.1 (((List.length (List.getD x12 (Int.toNat x14) (([] : List UInt8), (([] : List DT8), (([] : List UInt8), ())))).2.1) : Nat) : Int) (0 : Int)
 (fun most1 => rec most1 (IntKind.wrap IntKind.i64 (x14 + (1 : Int)))))
 (none))
 (k0 most)

def zcs (N : Nat) (most : Int) (x12 : (List DT1)) (x13 : Int) (x14 : Int) (k0 : Int -> Option Int) : Option Int :=
 iter (fun (v : (Int × Int)) r => zcq N x12 x13 v.1 v.2 (fun most x14 => (r (most, x14))) k0) N (most, x14)

def z18i (N : Nat) (i : ((List DT1) × Int)) (v : (Int × Int)) (r : (Int × Int) -> Option Int) (K : Ex -> List A -> Option Int) : Option Int :=
 zcq N i.1 i.2 v.1 v.2 (fun most x14 => (r (most, x14))) (fun a0 => (K (.exit 0) (mkS [(3, .v (.int .i64))] 35 (a0, ()))))

def z181 (N : Nat) : Hd Int := fun st K => (unS SQ50 24 (restr [14, 13, 12, 3] 0 st)).bind fun x => iter (fun v r => z18i N ((fun x => (x.2.1, x.2.2.1)) x) v r K) N ((fun x => (x.1, x.2.2.2.1)) x)

def z1if (N : Nat) : Tab Int := [(z1fj, z17v N)]

theorem z1ao {N : Nat} {c : Ctx} (hb : Base Tryz.prog (z13y N) c) : zo Tryz.prog c (zl zkr [0, 1, 0, 1, 1]) (z181 N) :=
  z1i (s := SQ50) (m := 24) (z18i N) [14, 13, 12, 3] N (fun x => (x.2.1, x.2.2.1)) (fun x => (x.1, x.2.2.2.1)) (fun i v => (v.1, i.1, i.2, v.2, ())) (fun _ => rfl) (zi hb N (z1if N) z177 zkr (TabOk.cons (z1ai hb) TabOk.nil) [0, 0, 1, 0, 1, 1] _ rfl) (fun i v r K => by kernel_rfl)

def z6y (N : Nat) (b : zxa) : Option Int :=
 (z5g N b).bind fun y =>
 zcs N (((List.length b.2.1) : Nat) : Int) y (((List.length y) : Nat) : Int) (0 : Int)
 (fun most => some most)

def z1hy (N : Nat) : Tab Int := [([0, 1, 0, 1, 1], z181 N)]

theorem z15t (N : Nat) (x : z1j [(0, .v TT7)]) : z2j (z13y N) N (z1hy N) z177 Tryz.f11 (mkS [(0, .v TT7)] 0 x) (z1h (.v (.int .i64)) 1) = z6y N x.1 := by kernel_rfl

def zfr (N : Nat) : List A -> Res := z12 [(0, .v TT7)] (fun x => z6y N x.1) (z2k (.v (.int .i64)) 1)

theorem zpr (N : Nat) : Contract Tryz.prog glob 11 (zfr N) :=
  Contract.of (E := z13y N) (H := z1hy N) (L := z177) (N := N) (body := zkr) (K := (z1h (.v (.int .i64)) 1)) (z1g1 N) Tryz.func11 (by kernel_rfl) (by decide) (fun _ hb => (TabOk.cons (z1ao hb) TabOk.nil)) (fun x y h => by rw [z15t]; exact h) (zm (s := (.v (.int .i64))) (m := 1))

def zf6 : Code := (Tryz.f12.body).getD .skip

def z13x : List (List Nat × List Nat) := [([0], [1]), ([0, 1], [1, 3]), ([0, 1, 1], [4, 3]), ([0, 0, 1, 1, 1], [5, 4, 3]), ([0, 1, 0, 1, 1, 1], [5, 4, 3]), (z1fb, [19, 3, 4, 5]), (z1fa, [3, 4, 5]), (z1fd, [3]), (z1fh, [4, 5, 3]), ([0, 1, 0, 0, 1, 0, 0, 1, 0, 1, 1, 1], [6, 4, 5, 3]), (z1pn, [6, 4, 5, 3]), ([0, 0, 0, 0, 1, 1, 0, 0, 1, 0, 0, 1, 0, 1, 1, 1], [38, 4, 5, 6, 3]), ([1, 0, 0, 0, 1, 1, 0, 0, 1, 0, 0, 1, 0, 1, 1, 1], [4, 5, 6, 3]), ([1, 1, 0, 0, 0, 1, 1, 0, 0, 1, 0, 0, 1, 0, 1, 1, 1], [5, 4, 3]), ([0, 0, 0, 1, 0, 0, 1, 1, 0, 0, 1, 0, 0, 1, 0, 1, 1, 1], [50, 3, 6, 4, 5]), ([1, 0, 0, 1, 0, 0, 1, 1, 0, 0, 1, 0, 0, 1, 0, 1, 1, 1], [6, 4, 5, 3]), ([0, 1, 0, 0, 1, 0, 0, 1, 1, 0, 0, 1, 0, 0, 1, 0, 1, 1, 1], [6, 4, 5, 3]), (PQ86, [6, 4, 5, 3]), ([1, 1, 0, 0, 1, 1, 0, 0, 1, 0, 0, 1, 0, 1, 1, 1], [6, 4, 5, 3]), ([1, 1, 0, 0, 1, 0, 0, 1, 0, 1, 1, 1], [5, 4, 3]), (z10m, [5, 4, 3]), (z1f9, [5, 4, 3]), ([1, 0, 1, 1, 1], [3]), ([0, 1, 1, 1, 1], [2]), ([1, 1, 1, 1, 1], [2])]

def z10i (N : Nat) : Env := z16 tys glob [] [(4, TT0)] [] [] false [] [(123, zd N), (66, zb N), (98, z7 N)]

theorem z1g0 (N : Nat) : EnvOk Tryz.prog (z10i N) := zk mixed zp (FnsOk.nil) (ItsOk.cons (zf N) (ItsOk.cons (ze N) (ItsOk.cons (z8 N) (ItsOk.nil))))

def z73 (N : Nat) (n : Int) (all : (List DT1)) (i : Int) (k : Int) (k0 : Int -> Option Int) : Option Int :=
 cond (inR i (List.length all))
 (cond (decide ((Int.toNat i) < (List.length all)))
 (cond (inR k (List.length (List.getD all (Int.toNat i) (([] : List UInt8), (([] : List DT8), (([] : List UInt8), ())))).2.1))
 (cond (!((List.getD (List.getD all (Int.toNat i) (([] : List UInt8), (([] : List DT8), (([] : List UInt8), ())))).2.1 (Int.toNat k) (([] : List UInt8), (([] : List UInt8), ()))).2.1 == ([] : List UInt8)))
 (k0 (IntKind.wrap IntKind.i64 (n + (1 : Int))))
 (k0 n))
 (none))
 (none))
 (none)

def z18a (N : Nat) (x : z1j z1gv) (K : Ex -> List A -> Option Int) : Option Int :=
 z73 N x.1 x.2.1 x.2.2.1 x.2.2.2.1 (fun a0 => (K .normal (mkS z1gv 47 (a0, x.2.1, x.2.2.1, x.2.2.2.1, ()))))

def z17t (N : Nat) : Hd Int := fun st K => (unS z1gv 47 (restr [4, 5, 6, 3] 0 st)).bind fun x => z18a N x K

def z1i7 (N : Nat) : Tab Int := []

theorem z1ag {N : Nat} {c : Ctx} (hb : Base Tryz.prog (z10i N) c) : zo Tryz.prog c (zl zf6 PQ86) (z17t N) :=
  z14 (s := z1gv) (m := 47) (g := z18a N) [4, 5, 6, 3] (zi hb N (z1i7 N) z13x zf6 TabOk.nil PQ86 _ rfl) (fun x K => by kernel_rfl)

def z6z (N : Nat) (all : (List DT1)) (i : Int) (n : Int) (k : Int) (rec : Int -> Int -> Option Int) (k0 : Int -> Option Int) : Option Int :=
 cond (inR i (List.length all))
 (cond (decide ((Int.toNat i) < (List.length all)))
 (cond (decide (k < (((List.length (List.getD all (Int.toNat i) (([] : List UInt8), (([] : List DT8), (([] : List UInt8), ())))).2.1) : Nat) : Int)))
 (z73 N n all i k
 (fun n1 => rec n1 (IntKind.wrap IntKind.i64 (k + (1 : Int)))))
 (k0 n))
 (none))
 (none)

def z74 (N : Nat) (n : Int) (all : (List DT1)) (i : Int) (k : Int) (k0 : Int -> Option Int) : Option Int :=
 iter (fun (v : (Int × Int)) r => z6z N all i v.1 v.2 (fun n k => (r (n, k))) k0) N (n, k)

def z18b (N : Nat) (i : ((List DT1) × Int)) (v : (Int × Int)) (r : (Int × Int) -> Option Int) (K : Ex -> List A -> Option Int) : Option Int :=
 z6z N i.1 i.2 v.1 v.2 (fun n k => (r (n, k))) (fun a0 => (K (.exit 2) (mkS z1f8 48 (a0, i.1, i.2, ()))))

def z17u (N : Nat) : Hd Int := fun st K => (unS z1gv 47 (restr [6, 4, 5, 3] 0 st)).bind fun x => iter (fun v r => z18b N ((fun x => (x.2.1, x.2.2.1)) x) v r K) N ((fun x => (x.1, x.2.2.2.1)) x)

def z1i8 (N : Nat) : Tab Int := [(PQ86, z17t N)]

theorem z1ah {N : Nat} {c : Ctx} (hb : Base Tryz.prog (z10i N) c) : zo Tryz.prog c (zl zf6 z1pn) (z17u N) :=
  z1i (s := z1gv) (m := 47) (z18b N) [6, 4, 5, 3] N (fun x => (x.2.1, x.2.2.1)) (fun x => (x.1, x.2.2.2.1)) (fun i v => (v.1, i.1, i.2, v.2, ())) (fun _ => rfl) (zi hb N (z1i8 N) z13x zf6 (TabOk.cons (z1ag hb) TabOk.nil) [0, 0, 1, 1, 0, 0, 1, 0, 0, 1, 0, 1, 1, 1] _ rfl) (fun i v r K => by kernel_rfl)

def z71 (N : Nat) (all : (List DT1)) (n : Int) (i : Int) (rec : Int -> Int -> Option Int) (k0 : Int -> Option Int) : Option Int :=
 cond (decide (i < (((List.length all) : Nat) : Int)))
 (cond (inR i (List.length all))
 (cond (decide ((Int.toNat i) < (List.length all)))
 (z74 N (IntKind.wrap IntKind.i64 ((IntKind.wrap IntKind.i64 (n + (1 : Int))) + (((List.length (List.getD all (Int.toNat i) (([] : List UInt8), (([] : List DT8), (([] : List UInt8), ())))).2.1) : Nat) : Int))) all i (0 : Int)
 (fun n1 => rec n1 (IntKind.wrap IntKind.i64 (i + (1 : Int)))))
 (none))
 (none))
 (k0 n)

def z77 (N : Nat) (n : Int) (all : (List DT1)) (i : Int) (k0 : Int -> Option Int) : Option Int :=
 iter (fun (v : (Int × Int)) r => z71 N all v.1 v.2 (fun n i => (r (n, i))) k0) N (n, i)

def z18h (N : Nat) (i : (List DT1)) (v : (Int × Int)) (r : (Int × Int) -> Option Int) (K : Ex -> List A -> Option Int) : Option Int :=
 z71 N i v.1 v.2 (fun n i => (r (n, i))) (fun a0 => (K (.exit 0) (mkS [(3, .v (.int .i64))] 50 (a0, ()))))

def z180 (N : Nat) : Hd Int := fun st K => (unS z1f8 48 (restr [5, 4, 3] 0 st)).bind fun x => iter (fun v r => z18h N ((fun x => x.2.1) x) v r K) N ((fun x => (x.1, x.2.2.1)) x)

def z1ie (N : Nat) : Tab Int := [(z1pn, z17u N)]

theorem z1an {N : Nat} {c : Ctx} (hb : Base Tryz.prog (z10i N) c) : zo Tryz.prog c (zl zf6 [0, 1, 0, 1, 1, 1]) (z180 N) :=
  z1i (s := z1f8) (m := 48) (z18h N) [5, 4, 3] N (fun x => x.2.1) (fun x => (x.1, x.2.2.1)) (fun i v => (v.1, i, v.2, ())) (fun _ => rfl) (zi hb N (z1ie N) z13x zf6 (TabOk.cons (z1ah hb) TabOk.nil) z149 _ rfl) (fun i v r K => by kernel_rfl)

def z4n (N : Nat) (b : zxa) : Option Int :=
 cond (decide (((1 + (List.length b.2.1)) * 56) <= 70368744177664))
 (z77 N (((List.length b.2.1) : Nat) : Int) (([b.1] : List DT1) ++ b.2.1) (0 : Int)
 (fun n => some n))
 (none)

def z1hx (N : Nat) : Tab Int := [([0, 1, 0, 1, 1, 1], z180 N)]

theorem z15s (N : Nat) (x : z1j [(0, .v TT7)]) : z2j (z10i N) N (z1hx N) z13x Tryz.f12 (mkS [(0, .v TT7)] 0 x) (z1h (.v (.int .i64)) 1) = z4n N x.1 := by kernel_rfl

def za9 (N : Nat) : List A -> Res := z12 [(0, .v TT7)] (fun x => z4n N x.1) (z2k (.v (.int .i64)) 1)

theorem ziu (N : Nat) : Contract Tryz.prog glob 12 (za9 N) :=
  Contract.of (E := z10i N) (H := z1hx N) (L := z13x) (N := N) (body := zf6) (K := (z1h (.v (.int .i64)) 1)) (z1g0 N) Tryz.func12 (by kernel_rfl) (by decide) (fun _ hb => (TabOk.cons (z1an hb) TabOk.nil)) (fun x y h => by rw [z15s]; exact h) (zm (s := (.v (.int .i64))) (m := 1))

def zsr : Code := (Tryz.f13.body).getD .skip

def z1fv : List (List Nat × List Nat) := [([0], [0, 1]), ([0, 0, 1], [10, 0, 1]), ([1, 0, 1], [0, 1]), ([0, 0, 1, 0, 1], [4]), ([1, 0, 1, 0, 1], [4]), ([0, 0, 1, 1], [5, 0, 1]), ([0, 1, 0, 1, 1], [5, 0, 1]), (z193, [14, 0, 5, 1]), (z192, [0, 5, 1]), (z194, []), (z174, [25, 5, 0, 1]), (z1pl, [5, 0, 1]), (z1fo, [4]), (z1fn, [4]), (PQ9, [5, 0, 1]), (z191, [5, 0, 1]), ([1, 0, 1, 1], []), ([0, 1, 1, 1], [4]), ([1, 1, 1, 1], [4])]

def z17c (N : Nat) : Env := z16 tys glob [] [] [] [] false [] [(123, zd N), (66, zb N), (98, z7 N)]

theorem z1fz (N : Nat) : EnvOk Tryz.prog (z17c N) := zk mixed zp (FnsOk.nil) (ItsOk.cons (zf N) (ItsOk.cons (ze N) (ItsOk.cons (z8 N) (ItsOk.nil))))

def z4i (N : Nat) (a : (List (List UInt8))) (b : (List (List UInt8))) (i : Int) (rec : Int -> Option Bool) (k0 : Bool -> Option Bool) (k1 : Option Bool) : Option Bool :=
 cond (decide (i < (((List.length a) : Nat) : Int)))
 (cond (inR i (List.length a))
 (cond (inR i (List.length b))
 (cond (!((List.getD a (Int.toNat i) ([] : List UInt8)) == (List.getD b (Int.toNat i) ([] : List UInt8))))
 (k0 false)
 (rec (IntKind.wrap IntKind.i64 (i + (1 : Int)))))
 (none))
 (none))
 (k1)

def z8c (N : Nat) (a : (List (List UInt8))) (b : (List (List UInt8))) (i : Int) (k0 : Bool -> Option Bool) (k1 : Option Bool) : Option Bool :=
 iter (fun (v : Int) r => z4i N a b v (fun i => (r i)) k0 k1) N i

def z18g (N : Nat) (i : ((List (List UInt8)) × (List (List UInt8)))) (v : Int) (r : Int -> Option Bool) (K : Ex -> List A -> Option Bool) : Option Bool :=
 z4i N i.1 i.2 v (fun i => (r i)) (fun a0 => (K .ret (mkS [(4, .v .bool)] 21 (a0, ())))) (K (.exit 0) (mkS [] 26 ()))

def z17z (N : Nat) : Hd Bool := fun st K => (unS [(0, .v (.sl .str)), (0, .v (.sl .str)), (3, .v (.int .i64))] 20 (restr [5, 0, 1] 0 st)).bind fun x => iter (fun v r => z18g N ((fun x => (x.1, x.2.1)) x) v r K) N ((fun x => x.2.2.1) x)

def z1id (N : Nat) : Tab Bool := []

theorem z1am {N : Nat} {c : Ctx} (hb : Base Tryz.prog (z17c N) c) : zo Tryz.prog c (zl zsr [0, 1, 0, 1, 1]) (z17z N) :=
  z1i (s := [(0, .v (.sl .str)), (0, .v (.sl .str)), (3, .v (.int .i64))]) (m := 20) (z18g N) [5, 0, 1] N (fun x => (x.1, x.2.1)) (fun x => x.2.2.1) (fun i v => (i.1, i.2, v, ())) (fun _ => rfl) (zi hb N (z1id N) z1fv zsr TabOk.nil [0, 0, 1, 0, 1, 1] _ rfl) (fun i v r K => by kernel_rfl)

def z2y (N : Nat) (a : (List (List UInt8))) (b : (List (List UInt8))) : Option Bool :=
 cond ((((List.length a) : Nat) : Int) != (((List.length b) : Nat) : Int))
 (some false)
 (z8c N a b (0 : Int)
 (fun x4 => some x4)
 (some true))

def z1hw (N : Nat) : Tab Bool := [([0, 1, 0, 1, 1], z17z N)]

theorem z15r (N : Nat) (x : z1j [(0, .v (.sl .str)), (0, .v (.sl .str))]) : z2j (z17c N) N (z1hw N) z1fv Tryz.f13 (mkS [(0, .v (.sl .str)), (0, .v (.sl .str))] 0 x) (z1h (.v .bool) 2) = z2y N x.1 x.2.1 := by kernel_rfl

def z7s (N : Nat) : List A -> Res := z12 [(0, .v (.sl .str)), (0, .v (.sl .str))] (fun x => z2y N x.1 x.2.1) (z2k (.v .bool) 2)

theorem zea (N : Nat) : Contract Tryz.prog glob 13 (z7s N) :=
  Contract.of (E := z17c N) (H := z1hw N) (L := z1fv) (N := N) (body := zsr) (K := (z1h (.v .bool) 2)) (z1fz N) Tryz.func13 (by kernel_rfl) (by decide) (fun _ hb => (TabOk.cons (z1am hb) TabOk.nil)) (fun x y h => by rw [z15r]; exact h) (zm (s := (.v .bool)) (m := 2))

end
end Go.Proofs.YtkipbccgnekoaaaGreatDoorLg

set_option linter.all false
set_option maxRecDepth 100000
namespace Go.Proofs.YtkipbccgnekoaaaGreatDoorLg
noncomputable section
open Go Go.Lift

def zsq : Code := (Tryz.f113.body).getD .skip

def z1fu : List (List Nat × List Nat) := [([0], [0]), ([0, 0, 1], [9, 0]), ([1, 0, 1], [0]), ([0, 0, 1, 0, 1], [2, 3, 4]), ([1, 0, 1, 0, 1], [2, 3, 4]), ([0, 1, 1], [5, 0]), ([0, 0, 1, 1, 1], [10, 5, 0]), ([0, 1, 0, 1, 1, 1], [10, 5, 0]), ([0, 0, 0, 1, 0, 1, 1, 1], [11, 10, 5, 0]), (z10m, [10, 5, 0]), ([1, 0, 1, 0, 0, 1, 0, 1, 1, 1], [0, 5]), ([0, 0, 0, 1, 1, 0, 0, 1, 0, 1, 1, 1], [5, 0, 6, 10]), ([1, 0, 0, 1, 1, 0, 0, 1, 0, 1, 1, 1], [10, 5, 0]), ([0, 1, 1, 0, 0, 1, 0, 1, 1, 1], [10, 5, 0]), ([1, 1, 1, 0, 0, 1, 0, 1, 1, 1], [10, 5, 0]), ([1, 0, 1, 1, 1], [0, 5]), ([0, 1, 1, 1, 1], [5, 0]), (z1pm, [27, 0, 5]), (z13u, [0, 5]), (z13w, [2, 3, 4]), ([1, 0, 1, 0, 1, 1, 1, 1, 1], [2, 3, 4]), (PQ91, [2, 3, 4]), ([1, 1, 1, 1, 1, 1, 1], [2, 3, 4])]

def z17b (N : Nat) : Env := z16 tys glob [] [] [] [] false [] [(123, zd N), (66, zb N), (98, z7 N)]

theorem z1fy (N : Nat) : EnvOk Tryz.prog (z17b N) := zk mixed zp (FnsOk.nil) (ItsOk.cons (zf N) (ItsOk.cons (ze N) (ItsOk.cons (z8 N) (ItsOk.nil))))

def zou (N : Nat) (s : (List UInt8)) (n : Int) (x10 : Int) (rec : Int -> Int -> Option ((List UInt8) × (List UInt8) × Bool × Unit)) (k0 : Int -> Option ((List UInt8) × (List UInt8) × Bool × Unit)) : Option ((List UInt8) × (List UInt8) × Bool × Unit) :=
 cond (decide (x10 < (8 : Int)))
 (cond (inR x10 (List.length s))
 (rec (zj Go.BinOp.or IntKind.u64 (z8m IntKind.u64 n (8 : Int)) (IntKind.wrap IntKind.u64 (((UInt8.toNat (List.getD s (Int.toNat x10) (0 : UInt8))) : Nat) : Int))) (IntKind.wrap IntKind.i64 (x10 + (1 : Int))))
 (none))
 (k0 n)

def zvz (N : Nat) (s : (List UInt8)) (n : Int) (x10 : Int) (k0 : Int -> Option ((List UInt8) × (List UInt8) × Bool × Unit)) : Option ((List UInt8) × (List UInt8) × Bool × Unit) :=
 iter (fun (v : (Int × Int)) r => zou N s v.1 v.2 (fun n x10 => (r (n, x10))) k0) N (n, x10)

def z18f (N : Nat) (i : (List UInt8)) (v : (Int × Int)) (r : (Int × Int) -> Option ((List UInt8) × (List UInt8) × Bool × Unit)) (K : Ex -> List A -> Option ((List UInt8) × (List UInt8) × Bool × Unit)) : Option ((List UInt8) × (List UInt8) × Bool × Unit) :=
 zou N i v.1 v.2 (fun n x10 => (r (n, x10))) (fun a1 => (K (.exit 0) (mkS [(0, .v .str), (4, .v (.int .u64))] 28 (i, a1, ()))))

def z17y (N : Nat) : Hd ((List UInt8) × (List UInt8) × Bool × Unit) := fun st K => (unS [(0, .v .str), (4, .v (.int .u64)), (4, .v (.int .i64))] 23 (restr [10, 5, 0] 0 st)).bind fun x => iter (fun v r => z18f N ((fun x => x.1) x) v r K) N ((fun x => (x.2.1, x.2.2.1)) x)

def z1ic (N : Nat) : Tab ((List UInt8) × (List UInt8) × Bool × Unit) := []

theorem z1al {N : Nat} {c : Ctx} (hb : Base Tryz.prog (z17b N) c) : zo Tryz.prog c (zl zsq [0, 1, 0, 1, 1, 1]) (z17y N) :=
  z1i (s := [(0, .v .str), (4, .v (.int .u64)), (4, .v (.int .i64))]) (m := 23) (z18f N) [10, 5, 0] N (fun x => x.1) (fun x => (x.2.1, x.2.2.1)) (fun i v => (i, v.1, v.2, ())) (fun _ => rfl) (zi hb N (z1ic N) z1fu zsq TabOk.nil z149 _ rfl) (fun i v r K => by kernel_rfl)

def zs4 (N : Nat) (s : (List UInt8)) : Option ((List UInt8) × (List UInt8) × Bool × Unit) :=
 cond (decide ((((List.length s) : Nat) : Int) < (8 : Int)))
 (some (([] : List UInt8), (([] : List UInt8), (false, ()))))
 (zvz N s (0 : Int) (0 : Int)
 (fun n => cond (decide (((0 : Int) <= (8 : Int)) /\ ((8 : Int) <= (((List.length s) : Nat) : Int))))
 (cond (decide ((IntKind.wrap IntKind.u64 (((List.length (cut s 8 (List.length s))) : Nat) : Int)) < n))
 (some (([] : List UInt8), (([] : List UInt8), (false, ()))))
 (cond (decide (((0 : Int) <= n) /\ (n <= (((List.length (cut s 8 (List.length s))) : Nat) : Int))))
 (cond (decide (((0 : Int) <= n) /\ (n <= (((List.length (cut s 8 (List.length s))) : Nat) : Int))))
 (some ((cut (cut s 8 (List.length s)) 0 (Int.toNat n)), ((cut (cut s 8 (List.length s)) (Int.toNat n) (List.length (cut s 8 (List.length s)))), (true, ()))))
 (none))
 (none)))
 (none)))

def z1hv (N : Nat) : Tab ((List UInt8) × (List UInt8) × Bool × Unit) := [([0, 1, 0, 1, 1, 1], z17y N)]

theorem z15q (N : Nat) (x : z1j [(0, .v .str)]) : z2j (z17b N) N (z1hv N) z1fu Tryz.f113 (mkS [(0, .v .str)] 0 x) (z1h (.tup [.str, .str, .bool]) 1) = zs4 N x.1 := by kernel_rfl

def zmh (N : Nat) : List A -> Res := z12 [(0, .v .str)] (fun x => zs4 N x.1) (z2k (.tup [.str, .str, .bool]) 1)

theorem zw0 (N : Nat) : Contract Tryz.prog glob 113 (zmh N) :=
  Contract.of (E := z17b N) (H := z1hv N) (L := z1fu) (N := N) (body := zsq) (K := (z1h (.tup [.str, .str, .bool]) 1)) (z1fy N) Tryz.func113 (by kernel_rfl) (by decide) (fun _ hb => (TabOk.cons (z1al hb) TabOk.nil)) (fun x y h => by rw [z15q]; exact h) (zm (s := (.tup [.str, .str, .bool])) (m := 1))

def zsp : Code := (Tryz.f112.body).getD .skip

def z1ft : List (List Nat × List Nat) := [([0], [3, 0]), ([0, 1], [3, 0]), ([0, 0, 0, 0, 1], [9, 3, 0]), ([1, 0, 0, 0, 1], [3, 0]), ([1, 1, 0, 0, 0, 1], [0]), ([0, 0, 1, 0, 0, 1], [0, 4, 6, 5]), ([0, 0, 1, 0, 1, 0, 0, 1], [24, 0, 5]), ([1, 0, 1, 0, 1, 0, 0, 1], [5, 0]), ([0, 1, 0, 1, 0, 1, 0, 0, 1], [0]), ([1, 1, 0, 1, 0, 0, 1], [3, 0]), ([1, 0, 0, 1], [3, 0]), ([1], [0])]

def z17a (N : Nat) : Env := z16 tys glob [(113, zmh N)] [] [] [0] false [] []

theorem z1fx (N : Nat) : EnvOk Tryz.prog (z17a N) := zk mixed zp (FnsOk.cons (zw0 N) (FnsOk.nil)) ItsOk.nil

def zi2 (N : Nat) (s : (List UInt8)) (rec : (List UInt8) -> Option (List ((List UInt8) × Bool × Unit))) (k0 : Option (List ((List UInt8) × Bool × Unit))) (k1 : Option (List ((List UInt8) × Bool × Unit))) : Option (List ((List UInt8) × Bool × Unit)) :=
 cond (!(s == ([] : List UInt8)))
 ((zs4 N s).bind fun y =>
 zsw (y.1, (y.2.2.1, ()))
 (cond (!y.2.2.1)
 (k0)
 (rec y.2.1))
 (k0))
 (k1)

def zq3 (N : Nat) (s : (List UInt8)) (k0 : Option (List ((List UInt8) × Bool × Unit))) (k1 : Option (List ((List UInt8) × Bool × Unit))) : Option (List ((List UInt8) × Bool × Unit)) :=
 iter (fun (v : (List UInt8)) r => zi2 N v (fun s => (r s)) k0 k1) N s

def z18e (N : Nat) (i : Unit) (v : (List UInt8)) (r : (List UInt8) -> Option (List ((List UInt8) × Bool × Unit))) (K : Ex -> List A -> Option (List ((List UInt8) × Bool × Unit))) : Option (List ((List UInt8) × Bool × Unit)) :=
 zi2 N v (fun s => (r s)) (K .ret (mkS [(0, .yld)] 25 ((), ()))) (K (.exit 0) (mkS [(0, .yld)] 25 ((), ())))

def z17x (N : Nat) : Hd (List ((List UInt8) × Bool × Unit)) := fun st K => (unS [(0, .yld), (2, .v .str)] 22 (restr [3, 0] 0 st)).bind fun x => iter (fun v r => z18e N ((fun x => ()) x) v r K) N ((fun x => x.2.1) x)

def z1ib (N : Nat) : Tab (List ((List UInt8) × Bool × Unit)) := []

theorem z1ak {N : Nat} {G : GY [.str, .bool]} (hG : zgz G) (hev : z1px G Tryz.prog (z17a N) N z1ft zsp) : YOk G Tryz.prog (zl zsp [0, 1]) (z17x N) :=
  zn6 hG (s := [(0, .yld), (2, .v .str)]) (m := 22) (z18e N) [3, 0] N (fun x => ()) (fun x => x.2.1) (fun i v => ((), v, ())) (fun _ => rfl) (hev (z1ib N) TabOkY.nil [0, 0, 1]) (fun i v r K => by kernel_rfl)

def zor (N : Nat) (x1 : (List UInt8)) : Option (List ((List UInt8) × Bool × Unit)) :=
 zq3 N x1
 (some ([] : List ((List UInt8) × (Bool × Unit))))
 (some ([] : List ((List UInt8) × (Bool × Unit))))

def z1hu (N : Nat) : Tab (List ((List UInt8) × Bool × Unit)) := [([0, 1], z17x N)]

theorem z15p (N : Nat) (x : T.den (.pair (.ptr .str) .unit)) : z1gm (z17a N) [.str, .bool] zsw N (z1hu N) z1ft Tryz.f112 [.v (.ptr .str) x.1] = zor N x.1 := by kernel_rfl

def zbw (N : Nat) : Dat -> ItRes := zzr (ts := [.str, .bool]) (.pair (.ptr .str) .unit) (fun x => zor N x.1)

theorem zi3 (N : Nat) : ItOk Tryz.prog glob 112 (zbw N) := ItOk.of (ts := [.str, .bool]) (E := z17a N) (H := z1hu N) (L := z1ft) (N := N) (body := zsp) (z1fx N) rfl Tryz.func112 (by kernel_rfl) (by decide) (fun G hG hev => (TabOkY.cons (z1ak hG hev) TabOkY.nil)) (fun x y h => ⟨_, rfl, by rw [z15p]; exact h⟩)

end
end Go.Proofs.YtkipbccgnekoaaaGreatDoorLg

set_option linter.all false
namespace Go.Proofs.YtkipbccgnekoaaaGreatDoorLg
noncomputable section
open Go Go.Lift

theorem zn7 {α σ β : Type} {step : α -> σ -> (σ -> Option β) -> Option β} {fin : σ -> Option β} (I : σ -> List α -> Prop) (g : σ -> α -> σ)
    (h : ∀ y ys v r, I v (y :: ys) -> step y v r = r (g v y) /\ I (g v y) ys) : ∀ (xs : List α) (v : σ), I v xs -> zkb step fin xs v = fin (xs.foldl g v)
  | [], v, _ => rfl
  | y :: ys, v, hI => by
    obtain ⟨h1, h2⟩ := h y ys v (zkb step fin ys) hI
    rw [zkb, h1, zn7 I g h ys _ h2]; rfl

theorem zgq {α : Type} (y : α) (l : List α) : zsw y (some l) (some []) = some (y :: l) := rfl

theorem toStr_ofStr (s : List UInt8) : z27 (z4q s) = s := by
  induction s with
  | nil => rfl
  | cons b s ih =>
    simp only [z27, z4q, List.map_cons, List.cons.injEq]
    refine ⟨?_, by simpa [z27, z4q] using ih⟩
    apply UInt8.toNat_inj.1
    simp

theorem ztt (s : List UInt8) : (z4q s).all (fun n => decide (0 <= n) && decide (n < 256)) = true := by
  rw [List.all_eq_true]
  intro n hn
  obtain ⟨b, _, rfl⟩ := List.mem_map.1 hn
  have := b.toNat_lt
  simp only [Bool.and_eq_true, decide_eq_true_eq]
  omega

end
end Go.Proofs.YtkipbccgnekoaaaGreatDoorLg

set_option linter.all false
namespace Go.Proofs.YtkipbccgnekoaaaGreatDoorPx
noncomputable section
open Go Go.Lift

theorem z2p {σ β : Type} {step : σ -> (σ -> Option β) -> Option β} (I : σ -> Prop) (m : σ -> Nat) (R : σ -> Option β)
    (h : ∀ v r, I v -> (∀ v', I v' -> m v' < m v -> r v' = R v') -> step v r = R v) : ∀ (n : Nat) (v : σ), I v -> m v < n -> iter step n v = R v
  | 0, v, _, hm => by omega
  | n + 1, v, hv, hm => h v (iter step n) hv fun v' hv' hlt => z2p I m R h n v' hv' (by omega)

theorem zoo {σ β : Type} {step : σ -> (σ -> Option β) -> Option β} (I : σ -> Prop) (m : σ -> Nat) (p : Option β -> Prop)
    (h : ∀ v r, I v -> (∀ v', I v' -> m v' < m v -> p (r v')) -> p (step v r)) : ∀ (n : Nat) (v : σ), I v -> m v < n -> p (iter step n v)
  | 0, v, _, hm => by omega
  | n + 1, v, hv, hm => h v (iter step n) hv fun v' hv' hlt => zoo I m p h n v' hv' (by omega)

theorem z1h1 (x : Int) : IntKind.wrap .i64 x = (x + 9223372036854775808) % 18446744073709551616 - 9223372036854775808 := by
  simp only [IntKind.wrap, IntKind.bits, IntKind.signed, Bool.true_and, decide_eq_true_eq, Nat.add_one_sub_one, Int.reducePow, ge_iff_le]
  split <;> omega

def I64 (x : Int) : Prop := -9223372036854775808 <= x /\ x <= 9223372036854775807

instance (x : Int) : Decidable (I64 x) := by unfold I64; infer_instance

theorem z1e {x : Int} (h : I64 x) : IntKind.wrap .i64 x = x := by
  rw [z1h1]; unfold I64 at h; omega

theorem zg {α : Type} {b : Bool} (h : b = true) (x y : α) : cond b x y = x := by rw [h]; rfl
theorem zr {α : Type} {b : Bool} (h : b = false) (x y : α) : cond b x y = y := by rw [h]; rfl

theorem zz {n len : Nat} (h : n < len) : inR (n : Int) len = true := by simp only [inR, decide_eq_true_eq]; omega
theorem zyd {i : Int} {len : Nat} (h : 0 <= i) (h' : i < len) : inR i len = true := by simp only [inR, decide_eq_true_eq]; omega
def zsb : T -> Bool
  | .int _ => true
  | .bool => true
  | .str => true
  | .unit => true
  | .pair a b => zsb a && zsb b
  | .arr _ t => zsb t
  | _ => false

theorem zsa : ∀ (t : T) (x y : t.den), zsb t = true -> (eqD t x y = true ↔ x = y)
  | .int _, x, y, _ => by simp [eqD]
  | .bool, x, y, _ => by simp [eqD]
  | .str, x, y, _ => by simp [eqD]
  | .unit, x, y, _ => by simp [eqD]
  | .pair a b, x, y, h => by
    simp only [zsb, Bool.and_eq_true] at h
    have h1 := zsa a x.1 y.1 h.1
    have h2 := zsa b x.2 y.2 h.2
    simp only [eqD]
    cases hq : eqD a x.1 y.1 with
    | false =>
      rw [hq] at h1
      simp only [cond_false, Bool.false_eq_true, false_iff]
      intro e; exact absurd (h1.2 (by rw [e])) (by simp)
    | true =>
      rw [cond_true, h2]
      constructor
      . intro e; exact Prod.ext (h1.1 hq) e
      . intro e; rw [e]
  | .arr n t, xs, ys, h => by
    have h : zsb t = true := h
    simp only [eqD]
    induction xs generalizing ys with
    | nil => cases ys <;> simp [zyj]
    | cons x xs ih =>
      cases ys with
      | nil => simp [zyj]
      | cons y ys =>
        have h1 := zsa t x y h
        simp only [zyj]
        cases hq : eqD t x y with
        | false =>
          rw [hq] at h1
          simp only [cond_false, Bool.false_eq_true, false_iff]
          intro e
          exact absurd (h1.2 (List.cons.inj e).1) (by simp)
        | true =>
          rw [cond_true]
          have h2 : zyj (eqD t) xs ys = true ↔ xs = ys := ih ys
          constructor
          . intro e; rw [h1.1 hq, h2.1 e]
          . intro e; exact h2.2 (List.cons.inj e).2
  | .opq, x, y, h => by simp [zsb] at h
  | .sl _, x, y, h => by simp [zsb] at h
  | .ptr _, x, y, h => by simp [zsb] at h

end
end Go.Proofs.YtkipbccgnekoaaaGreatDoorPx

set_option linter.all false
set_option maxRecDepth 100000
namespace Go.Proofs.YtkipbccgnekoaaaGreatDoorLg
noncomputable section
open Go Go.Lift Go.Proofs.YtkipbccgnekoaaaGreatDoorPx

def be8 (n : Nat) : List UInt8 := z27 (([56, 48, 40, 32, 24, 16, 8, 0] : List Int).map fun j => IntKind.wrap .u8 (z39 .u64 (IntKind.wrap .u64 ((n : Nat) : Int)) j))

theorem z12l (k : Nat) (s : List UInt8) : zet (k + 9) s = some (be8 s.length) := by kernel_rfl

def zeb (l : List (List UInt8)) : List (List UInt8 × Unit) := (l.map fun p => [(be8 p.length, ()), (p, ())]).flatten

theorem zk2 (p : List UInt8) (l : List (List UInt8)) : zeb (p :: l) = (be8 p.length, ()) :: (p, ()) :: zeb l := rfl

theorem z12w (k : Nat) (l : List (List UInt8)) (hl : l.length < 1000000) (hk : l.length < k + 9) : zck (k + 9) l = some (zeb l) := by
  have key := z2p (step := fun (v : Int) r => z8f (k + 9) l (((List.length l) : Nat) : Int) v (fun x7 => (r x7)) (some []) (some [])) (fun v => 0 <= v /\ v <= (l.length : Int)) (fun v => l.length - v.toNat) (fun v => some (zeb (l.drop v.toNat))) (by
    rintro v r ⟨h0, h1⟩ ih
    unfold z8f
    by_cases hv : v < (l.length : Int)
    . have hn : v.toNat < l.length := by omega
      have hw : IntKind.wrap .i64 (v + 1) = v + 1 := z1e ⟨by omega, by omega⟩
      have hr := ih (v + 1) ⟨by omega, by omega⟩ (by omega)
      have hd : l.drop v.toNat = l[v.toNat] :: l.drop (v + 1).toNat := by
        rw [show (v + 1).toNat = v.toNat + 1 by omega, List.getElem_cons_drop]
      have hg : l.getD v.toNat ([] : List UInt8) = l[v.toNat] := by simp [List.getD, hn]
      rw [zg (by simpa using hv), zg (by simp [inR, h0, hv]), z12l, hg, Option.bind_some, hw]
      dsimp only
      rw [hr, zgq, zgq, hd, zk2]
    . have hn : v.toNat = l.length := by omega
      rw [zr (by simpa using hv), hn, List.drop_length]; rfl) (k + 9) 0 ⟨by omega, by omega⟩ (by simpa using hk)
  exact key

def z1k (l : List (List UInt8)) : List UInt8 := ((zeb l).map (·.1)).flatten

theorem ztu (a b : List UInt8) : z4q (a ++ b) = z4q a ++ z4q b := by simp [z4q]
theorem ofStr_length (a : List UInt8) : (z4q a).length = a.length := by simp [z4q]

theorem zyg (ys : List (List UInt8 × Unit)) : ∀ a : List UInt8, ys.foldl (fun (v : Unit × (List Int × Unit)) (y : List UInt8 × Unit) => ((), (v.2.1 ++ z4q y.1, ()))) ((), (z4q a, ())) = ((), (z4q (a ++ (ys.map (·.1)).flatten), ())) := by
  induction ys with
  | nil => intro a; simp
  | cons y ys ih =>
    intro a
    rw [List.foldl_cons]
    dsimp only
    rw [<- ztu, ih]
    simp

theorem z168 (k : Nat) (l : List (List UInt8)) (hl : l.length < 1000000) (hk : l.length < k + 9) (hb : (z1k l).length <= 70368744177664) : zaw (k + 9) l = some (z1k l) := by
  unfold zaw zkg z8g
  rw [z12w k l hl hk, Option.bind_some]
  rw [zn7 (fun (v : Unit × (List Int × Unit)) (ys : List (List UInt8 × Unit)) => v.2.1.length + ((ys.map (·.1)).flatten).length <= 70368744177664) (fun v y => ((), (v.2.1 ++ z4q y.1, ()))) (by
    rintro y ys ⟨u, xs, u'⟩ r hI
    cases u; cases u'
    simp only [List.map_cons, List.flatten_cons, List.length_append] at hI
    refine ⟨?_, by simp only [List.length_append, ofStr_length]; omega⟩
    unfold zev z1f
    rw [zg (decide_eq_true (by rw [ofStr_length]; dsimp only; omega)), Option.bind_some]) _ _ (by simpa [z1k] using hb)]
  have hf := zyg (zeb l) []
  have h0 : z4q ([] : List UInt8) = [] := rfl
  rw [h0] at hf
  rw [hf]
  unfold zv3
  dsimp only
  rw [zg (by
    rw [Bool.and_eq_true]
    refine ⟨ztt _, decide_eq_true ?_⟩
    rw [ofStr_length]
    exact Nat.le_trans (show (z1k l).length <= _ from hb) (by decide))]
  rw [Option.bind_some]
  dsimp only
  rw [toStr_ofStr]; rfl

end
end Go.Proofs.YtkipbccgnekoaaaGreatDoorLg

set_option linter.all false
set_option maxRecDepth 100000
namespace Go.Proofs.YtkipbccgnekoaaaGreatDoorLg
noncomputable section
open Go Go.Lift Go.Proofs.YtkipbccgnekoaaaGreatDoorPx

def low (n : Int) : Nat -> Int
  | 0 => n
  | j + 1 => IntKind.wrap .i64 (Int.tdiv (low n j) 256)

def z143 (n : Int) (j : Nat) : List UInt8 := z27 [IntKind.wrap .u8 (Int.tmod (low n j) 256)]

theorem z15o (k : Nat) (n : Int) : z3g (k + 9) n = some (z143 n 7 ++ (z143 n 6 ++ (z143 n 5 ++ (z143 n 4 ++ (z143 n 3 ++ (z143 n 2 ++ (z143 n 1 ++ (z143 n 0 ++ [])))))))) := by kernel_rfl

theorem z17o (n : Nat) (hn : n < 9223372036854775808) : ∀ j, low (n : Int) j = ((n / 256 ^ j : Nat) : Int)
  | 0 => by simp [low]
  | j + 1 => by
    have h : n / 256 ^ j <= n := Nat.div_le_self _ _
    have h2 : Int.tdiv ((n / 256 ^ j : Nat) : Int) 256 = ((n / 256 ^ (j + 1) : Nat) : Int) := by
      rw [Nat.pow_succ, <- Nat.div_div_eq_div_mul]; rfl
    have h3 : n / 256 ^ (j + 1) <= n := Nat.div_le_self _ _
    rw [low, z17o n hn j, h2]
    generalize n / 256 ^ (j + 1) = m at h3
    exact z1e ⟨by omega, by omega⟩

theorem z1h0 (x : Int) : IntKind.wrap .u8 x = x % 256 := by
  simp [IntKind.wrap, IntKind.signed, IntKind.bits]

theorem z1b1 (n : Nat) (hn : n < 9223372036854775808) (j : Nat) : z143 (n : Int) j = [UInt8.ofNat (n / 256 ^ j)] := by
  unfold z143
  rw [z17o n hn j]
  generalize n / 256 ^ j = m
  have h1 : Int.tmod ((m : Nat) : Int) 256 = ((m % 256 : Nat) : Int) := rfl
  rw [h1, z1h0]
  simp only [z27, List.map_cons, List.map_nil, List.cons.injEq, and_true]
  apply UInt8.toNat_inj.1
  rw [UInt8.toNat_ofNat', UInt8.toNat_ofNat']
  omega

theorem z1pf (n : Nat) (hn : n < 9223372036854775808) (i : Nat) (hi : i <= 7) : UInt8.ofNat (IntKind.wrap .u8 (z39 .u64 (IntKind.wrap .u64 ((n : Nat) : Int)) ((8 * i : Nat) : Int))).toNat = UInt8.ofNat (n / 256 ^ i) := by
  have h1 : IntKind.wrap .u64 ((n : Nat) : Int) = (n : Int) := by
    simp [IntKind.wrap, IntKind.signed, IntKind.bits]; omega
  have h2 : z39 .u64 (n : Int) ((8 * i : Nat) : Int) = ((n / 256 ^ i : Nat) : Int) := by
    unfold z39
    have hm : min (Int.toNat ((8 * i : Nat) : Int)) (IntKind.u64).bits = 8 * i := by
      rw [Int.toNat_natCast]; exact Nat.min_eq_left (by show 8 * i <= 64; omega)
    rw [hm, Int.fdiv_eq_ediv_of_nonneg _ (Int.pow_nonneg (by decide))]
    have hp : (2 : Int) ^ (8 * i) = ((256 ^ i : Nat) : Int) := by
      rw [show (256 : Nat) = 2 ^ 8 by decide, <- Nat.pow_mul]; simp
    rw [hp]; rfl
  rw [h1, h2, z1h0]
  generalize n / 256 ^ i = m
  apply UInt8.toNat_inj.1
  rw [UInt8.toNat_ofNat', UInt8.toNat_ofNat']
  omega

theorem z12h (k n : Nat) (hn : n < 9223372036854775808) : z3g (k + 9) (n : Int) = some (be8 n) := by
  rw [z15o]
  simp only [z1b1 n hn]
  have e := fun i hi => z1pf n hn i hi
  simp only [be8, z27, List.map_cons, List.map_nil, List.cons_append, List.nil_append, List.append_nil]
  have e7 := e 7 (by omega); have e6 := e 6 (by omega); have e5 := e 5 (by omega); have e4 := e 4 (by omega)
  have e3 := e 3 (by omega); have e2 := e 2 (by omega); have e1 := e 1 (by omega); have e0 := e 0 (by omega)
  simp only [Nat.reduceMul] at e7 e6 e5 e4 e3 e2 e1 e0
  rw [<- e7, <- e6, <- e5, <- e4, <- e3, <- e2, <- e1, <- e0]
  rfl

theorem zp1 (p : List UInt8) (l : List (List UInt8)) : z1k (p :: l) = be8 p.length ++ (p ++ z1k l) := by
  simp [z1k, zk2]

theorem zvb (k : Nat) (l : List (List UInt8)) (hl : l.length < 1000000) (hk : l.length < k + 9) (hb : (z1k l).length <= 70368744177664) : z1d (k + 9) l = some (z1k l) := by
  have key := z2p (step := fun (v : List UInt8 × Int) r => z3u (k + 9) l v.1 v.2 (fun out i => (r (out, i))) (fun out => some out)) (fun v => 0 <= v.2 /\ v.2 <= (l.length : Int) /\ v.1.length + (z1k (l.drop v.2.toNat)).length <= 70368744177664) (fun v => l.length - v.2.toNat) (fun v => some (v.1 ++ z1k (l.drop v.2.toNat))) (by
    rintro ⟨out, v⟩ r ⟨h0, h1, h2⟩ ih
    dsimp only at h0 h1 h2 ⊢
    unfold z3u
    by_cases hv : v < (l.length : Int)
    . have hn : v.toNat < l.length := by omega
      have hw : IntKind.wrap .i64 (v + 1) = v + 1 := z1e ⟨by omega, by omega⟩
      have hd : l.drop v.toNat = l[v.toNat] :: l.drop (v + 1).toNat := by
        rw [show (v + 1).toNat = v.toNat + 1 by omega, List.getElem_cons_drop]
      have hg : l.getD v.toNat ([] : List UInt8) = l[v.toNat] := by simp [List.getD, hn]
      rw [hd, zp1] at h2 ⊢
      simp only [List.length_append] at h2
      have hin : inR v l.length = true := by simp [inR, h0, hv]
      have hr := ih (out ++ be8 l[v.toNat].length ++ l[v.toNat], v + 1) ⟨by dsimp only; omega, by dsimp only; omega, by dsimp only; simp only [List.length_append]; omega⟩ (by dsimp only; omega)
      rw [zg (by simpa using hv), zg hin, hg, z12h _ _ (by omega), Option.bind_some, zg (decide_eq_true (by omega)), zg hin, zg (decide_eq_true (by rw [List.length_append]; omega)), hw]
      dsimp only at hr ⊢
      rw [hr]
      simp
    . have hn : v.toNat = l.length := by omega
      rw [zr (by simpa using hv), hn, List.drop_length]; simp [z1k, zeb]) (k + 9) ([], 0) ⟨by dsimp only; omega, by dsimp only; omega, by simpa using hb⟩ (by simpa using hk)
  exact key

end
end Go.Proofs.YtkipbccgnekoaaaGreatDoorLg

set_option linter.all false
namespace Go.Proofs.YtkipbccgnekoaaaGreatDoorPx
noncomputable section
open Go Go.Lift

theorem zcn (x : Int) : IntKind.wrap .u8 x = x % 256 := by
  simp only [IntKind.wrap, IntKind.bits, IntKind.signed, Bool.false_and, Bool.false_eq_true, if_false]
  rfl

theorem zyq {x : Int} (h0 : 0 <= x) (h1 : x < 256) : IntKind.wrap .u8 x = x := by rw [zcn]; omega

theorem z10s (u : UInt8) : u.toNat < 256 := u.toNat_lt

theorem znc (u : UInt8) : IntKind.wrap .i64 ((u.toNat : Nat) : Int) = ((u.toNat : Nat) : Int) := by
  have := z10s u
  exact z1e (by unfold I64; omega)

theorem z15 {i : Nat} (h : i < 9223372036854775807) : IntKind.wrap .i64 ((i : Int) + 1) = ((i + 1 : Nat) : Int) := by
  rw [z1e (by unfold I64; omega)]; omega

theorem zha (u : UInt8) : BitVec.ofInt 8 ((u.toNat : Nat) : Int) = u.toBitVec := by
  rw [BitVec.ofInt_natCast]
  apply BitVec.eq_of_toNat_eq
  have h1 : u.toBitVec.toNat = u.toNat := rfl
  have := z10s u
  rw [BitVec.toNat_ofNat, h1]
  omega

theorem znb (u : UInt8) : IntKind.wrap .u8 ((u.toNat : Nat) : Int) = ((u.toNat : Nat) : Int) := by
  have := z10s u
  exact zyq (by omega) (by omega)

theorem z17e (a b : UInt8) : zj .xor .u8 ((a.toNat : Nat) : Int) ((b.toNat : Nat) : Int) = (((a ^^^ b).toNat : Nat) : Int) := by
  have e : zj .xor .u8 ((a.toNat : Nat) : Int) ((b.toNat : Nat) : Int) = IntKind.wrap .u8 ((BitVec.ofInt 8 ((a.toNat : Nat) : Int) ^^^ BitVec.ofInt 8 ((b.toNat : Nat) : Int)).toNat : Int) := rfl
  rw [e, zha, zha]
  have h : (a.toBitVec ^^^ b.toBitVec).toNat = (a ^^^ b).toNat := rfl
  rw [h, znb]

theorem or_u8 (a b : UInt8) : zj .or .u8 ((a.toNat : Nat) : Int) ((b.toNat : Nat) : Int) = (((a ||| b).toNat : Nat) : Int) := by
  have e : zj .or .u8 ((a.toNat : Nat) : Int) ((b.toNat : Nat) : Int) = IntKind.wrap .u8 ((BitVec.ofInt 8 ((a.toNat : Nat) : Int) ||| BitVec.ofInt 8 ((b.toNat : Nat) : Int)).toNat : Int) := rfl
  rw [e, zha, zha]
  have h : (a.toBitVec ||| b.toBitVec).toNat = (a ||| b).toNat := rfl
  rw [h, znb]

theorem z96 (a b : List Int) : z27 (a ++ b) = z27 a ++ z27 b := by simp [z27]
theorem zqh (u : UInt8) : z27 [((u.toNat : Nat) : Int)] = [u] := by simp [z27]
theorem toStr_ofStr (s : List UInt8) : z27 (z4q s) = s := by
  simp [z27, z4q, Function.comp_def]
theorem ofStr_length (s : List UInt8) : (z4q s).length = s.length := by simp [z4q]
theorem z7w (n : Nat) : z27 (List.replicate n (0 : Int)) = List.replicate n (0 : UInt8) := by simp [z27]

theorem zs6 {α : Type} (l : List α) (d : α) (i : Nat) (h : i < l.length) : l.getD i d ∈ l := by
  rw [List.getD_eq_getElem?_getD, List.getElem?_eq_getElem h]; simp

theorem z1n {α : Type} (l : List α) (d : α) (i : Nat) (h : i < l.length) : l.drop i = l.getD i d :: l.drop (i + 1) := by
  rw [List.getD_eq_getElem?_getD, List.getElem?_eq_getElem h, Option.getD_some, List.drop_eq_getElem_cons h]

theorem z2z {α : Type} (l : List α) {i : Nat} (h : l.length <= i) : l.drop i = [] := List.drop_of_length_le h

theorem z17 {p : Prop} [Decidable p] (h : p) : decide p = true := decide_eq_true h
theorem z3c {p : Prop} [Decidable p] (h : ¬ p) : decide p = false := decide_eq_false h

theorem zt1 {α : Type} (l : List α) (d : α) (i : Nat) (h : i < l.length) : l.take (i + 1) = l.take i ++ [l.getD i d] := by
  rw [List.getD_eq_getElem?_getD, List.getElem?_eq_getElem h, Option.getD_some, List.take_succ_eq_append_getElem h]

theorem zrg {α : Type} (l : List α) (x : α) (i : Nat) (h : i < l.length) : (l.set i x).take (i + 1) = l.take i ++ [x] := by
  rw [List.take_succ_eq_append_getElem (by simpa using h), List.getElem_set_self]
  congr 1
  apply List.ext_getElem?
  intro j
  rw [List.getElem?_take, List.getElem?_take]
  split
  . rw [List.getElem?_set_ne (by omega)]
  . rfl

theorem zys (a b : UInt8) : (((a.toNat : Nat) : Int) = ((b.toNat : Nat) : Int)) ↔ a = b := by
  rw [<- UInt8.toNat_inj]; omega

theorem z1b0 {α : Type} (a b : List α) : (if ((b.length : Nat) : Int) < ((a.length : Nat) : Int) then ((b.length : Nat) : Int) else ((a.length : Nat) : Int)) = ((min a.length b.length : Nat) : Int) := by
  split <;> omega

theorem zez {α : Type} (l : List α) (n : Nat) : cut l 0 n = l.take n := by simp [cut]
theorem z137 {α : Type} (l : List α) (n : Nat) : cut l n l.length = l.drop n := by simp [cut]
theorem z136 {α : Type} (l : List α) (n k : Nat) : cut l n (n + k) = (l.drop n).take k := by
  unfold cut
  rw [List.drop_take]
  congr 1; omega

end
end Go.Proofs.YtkipbccgnekoaaaGreatDoorPx

set_option linter.all false
namespace Go.Proofs.YtkipbccgnekoaaaGreatDoorLg
noncomputable section
open Go Go.Lift Go.Proofs.YtkipbccgnekoaaaGreatDoorPx

abbrev w32 (x : Int) : Int := IntKind.wrap .u32 x
theorem zxd (x : Int) : IntKind.wrap .u32 x = x % 4294967296 := rfl

theorem z11v (a b : Int) : zj .or .u32 a b = zj .or .u32 b a := by
  unfold zj; dsimp only; rw [BitVec.or_comm]

def rrB (x n : Int) : Int := zj .or .u32 (z39 .u32 x (IntKind.wrap .u64 n)) (z8m .u32 x (IntKind.wrap .u64 (IntKind.wrap .i64 ((32 : Int) - n))))

theorem zpv {x n : Int} (h1 : zj .and .u64 (IntKind.wrap .u64 (IntKind.wrap .i64 ((0 : Int) - n))) (31 : Int) = IntKind.wrap .u64 (IntKind.wrap .i64 ((32 : Int) - n)))
    (h2 : IntKind.wrap .u64 ((32 : Int) - zj .and .u64 (IntKind.wrap .u64 (IntKind.wrap .i64 ((0 : Int) - n))) (31 : Int)) = IntKind.wrap .u64 n) :
    zj .or .u32 (z8m .u32 x (zj .and .u64 (IntKind.wrap .u64 (IntKind.wrap .i64 ((0 : Int) - n))) (31 : Int))) (z39 .u32 x (IntKind.wrap .u64 ((32 : Int) - zj .and .u64 (IntKind.wrap .u64 (IntKind.wrap .i64 ((0 : Int) - n))) (31 : Int)))) = rrB x n := by
  rw [h2, h1, z11v]; rfl

theorem rr6 (x : Int) : zj .or .u32 (z8m .u32 x (zj .and .u64 (IntKind.wrap .u64 (IntKind.wrap .i64 ((0 : Int) - (6 : Int)))) (31 : Int))) (z39 .u32 x (IntKind.wrap .u64 ((32 : Int) - zj .and .u64 (IntKind.wrap .u64 (IntKind.wrap .i64 ((0 : Int) - (6 : Int)))) (31 : Int)))) = rrB x 6 := zpv (x := x) (n := 6) (by kernel_rfl) (by kernel_rfl)
theorem rr11 (x : Int) : zj .or .u32 (z8m .u32 x (zj .and .u64 (IntKind.wrap .u64 (IntKind.wrap .i64 ((0 : Int) - (11 : Int)))) (31 : Int))) (z39 .u32 x (IntKind.wrap .u64 ((32 : Int) - zj .and .u64 (IntKind.wrap .u64 (IntKind.wrap .i64 ((0 : Int) - (11 : Int)))) (31 : Int)))) = rrB x 11 := zpv (x := x) (n := 11) (by kernel_rfl) (by kernel_rfl)
theorem rr25 (x : Int) : zj .or .u32 (z8m .u32 x (zj .and .u64 (IntKind.wrap .u64 (IntKind.wrap .i64 ((0 : Int) - (25 : Int)))) (31 : Int))) (z39 .u32 x (IntKind.wrap .u64 ((32 : Int) - zj .and .u64 (IntKind.wrap .u64 (IntKind.wrap .i64 ((0 : Int) - (25 : Int)))) (31 : Int)))) = rrB x 25 := zpv (x := x) (n := 25) (by kernel_rfl) (by kernel_rfl)
theorem rr2 (x : Int) : zj .or .u32 (z8m .u32 x (zj .and .u64 (IntKind.wrap .u64 (IntKind.wrap .i64 ((0 : Int) - (2 : Int)))) (31 : Int))) (z39 .u32 x (IntKind.wrap .u64 ((32 : Int) - zj .and .u64 (IntKind.wrap .u64 (IntKind.wrap .i64 ((0 : Int) - (2 : Int)))) (31 : Int)))) = rrB x 2 := zpv (x := x) (n := 2) (by kernel_rfl) (by kernel_rfl)
theorem rr13 (x : Int) : zj .or .u32 (z8m .u32 x (zj .and .u64 (IntKind.wrap .u64 (IntKind.wrap .i64 ((0 : Int) - (13 : Int)))) (31 : Int))) (z39 .u32 x (IntKind.wrap .u64 ((32 : Int) - zj .and .u64 (IntKind.wrap .u64 (IntKind.wrap .i64 ((0 : Int) - (13 : Int)))) (31 : Int)))) = rrB x 13 := zpv (x := x) (n := 13) (by kernel_rfl) (by kernel_rfl)
theorem rr22 (x : Int) : zj .or .u32 (z8m .u32 x (zj .and .u64 (IntKind.wrap .u64 (IntKind.wrap .i64 ((0 : Int) - (22 : Int)))) (31 : Int))) (z39 .u32 x (IntKind.wrap .u64 ((32 : Int) - zj .and .u64 (IntKind.wrap .u64 (IntKind.wrap .i64 ((0 : Int) - (22 : Int)))) (31 : Int)))) = rrB x 22 := zpv (x := x) (n := 22) (by kernel_rfl) (by kernel_rfl)
theorem rr7 (x : Int) : zj .or .u32 (z8m .u32 x (zj .and .u64 (IntKind.wrap .u64 (IntKind.wrap .i64 ((0 : Int) - (7 : Int)))) (31 : Int))) (z39 .u32 x (IntKind.wrap .u64 ((32 : Int) - zj .and .u64 (IntKind.wrap .u64 (IntKind.wrap .i64 ((0 : Int) - (7 : Int)))) (31 : Int)))) = rrB x 7 := zpv (x := x) (n := 7) (by kernel_rfl) (by kernel_rfl)
theorem rr18 (x : Int) : zj .or .u32 (z8m .u32 x (zj .and .u64 (IntKind.wrap .u64 (IntKind.wrap .i64 ((0 : Int) - (18 : Int)))) (31 : Int))) (z39 .u32 x (IntKind.wrap .u64 ((32 : Int) - zj .and .u64 (IntKind.wrap .u64 (IntKind.wrap .i64 ((0 : Int) - (18 : Int)))) (31 : Int)))) = rrB x 18 := zpv (x := x) (n := 18) (by kernel_rfl) (by kernel_rfl)
theorem rr17 (x : Int) : zj .or .u32 (z8m .u32 x (zj .and .u64 (IntKind.wrap .u64 (IntKind.wrap .i64 ((0 : Int) - (17 : Int)))) (31 : Int))) (z39 .u32 x (IntKind.wrap .u64 ((32 : Int) - zj .and .u64 (IntKind.wrap .u64 (IntKind.wrap .i64 ((0 : Int) - (17 : Int)))) (31 : Int)))) = rrB x 17 := zpv (x := x) (n := 17) (by kernel_rfl) (by kernel_rfl)
theorem rr19 (x : Int) : zj .or .u32 (z8m .u32 x (zj .and .u64 (IntKind.wrap .u64 (IntKind.wrap .i64 ((0 : Int) - (19 : Int)))) (31 : Int))) (z39 .u32 x (IntKind.wrap .u64 ((32 : Int) - zj .and .u64 (IntKind.wrap .u64 (IntKind.wrap .i64 ((0 : Int) - (19 : Int)))) (31 : Int)))) = rrB x 19 := zpv (x := x) (n := 19) (by kernel_rfl) (by kernel_rfl)

def S1B (e : Int) : Int := zj .xor .u32 (zj .xor .u32 (rrB e 6) (rrB e 11)) (rrB e 25)
def S0B (a : Int) : Int := zj .xor .u32 (zj .xor .u32 (rrB a 2) (rrB a 13)) (rrB a 22)
def chB (e f g : Int) : Int := zj .xor .u32 (zj .and .u32 e f) (zj .and .u32 (zj .xor .u32 (if (IntKind.signed .u32) = true then (-(1 : Int)) else IntKind.max .u32) e) g)
def majB (a b c : Int) : Int := zj .xor .u32 (zj .xor .u32 (zj .and .u32 a b) (zj .and .u32 a c)) (zj .and .u32 b c)
def t1B (v : List Int) (K W : Int) : Int := w32 (w32 (w32 (w32 (v.getD 7 0 + S1B (v.getD 4 0)) + chB (v.getD 4 0) (v.getD 5 0) (v.getD 6 0)) + K) + W)
def zxu (v : List Int) (K W : Int) : List Int :=
 [w32 (w32 (t1B v K W + S0B (v.getD 0 0)) + majB (v.getD 0 0) (v.getD 1 0) (v.getD 2 0)), v.getD 0 0, v.getD 1 0, v.getD 2 0, w32 (v.getD 3 0 + t1B v K W), v.getD 4 0, v.getD 5 0, v.getD 6 0]
def s1B (y : Int) : Int := zj .xor .u32 (zj .xor .u32 (rrB y 17) (rrB y 19)) (z39 .u32 y 10)
def s0B (x : Int) : Int := zj .xor .u32 (zj .xor .u32 (rrB x 7) (rrB x 18)) (z39 .u32 x 3)
def z142 (w : List Int) (t : Nat) : Int := w32 (w32 (w32 (s1B (w.getD (t - 2) 0) + w.getD (t - 7) 0) + s0B (w.getD (t - 15) 0)) + w.getD (t - 16) 0)

theorem sum1 (a b c K W : Int) : w32 (w32 (w32 (a + b) + c) + w32 (K + W)) = w32 (w32 (w32 (w32 (a + b) + c) + K) + W) := by
  simp only [w32, zxd]; omega
theorem sum2 (t a b : Int) : w32 (t + w32 (a + b)) = w32 (w32 (t + a) + b) := by simp only [w32, zxd]; omega

theorem z153 (N : Nat) {v : List Int} (K W : Int) (hv : v.length = 8) : zfz N v (IntKind.wrap .u32 (K + W)) = some (zxu v K W) := by
  simp only [zfz]
  rw [zg (z17 (by omega)), zg (z17 (by omega)), zg (z17 (by omega)), zg (z17 (by omega)), zg (z17 (by omega)), zg (z17 (by omega)), zg (z17 (by omega)), zg (z17 (by omega))]
  simp only [rr6, rr11, rr25, rr2, rr13, rr22]
  have e1 := sum1 (v.getD 7 0) (S1B (v.getD 4 0)) (chB (v.getD 4 0) (v.getD 5 0) (v.getD 6 0)) K W
  have e2 := sum2 (t1B v K W) (S0B (v.getD 0 0)) (majB (v.getD 0 0) (v.getD 1 0) (v.getD 2 0))
  show some [w32 (w32 (w32 (w32 (v.getD 7 0 + S1B (v.getD 4 0)) + chB (v.getD 4 0) (v.getD 5 0) (v.getD 6 0)) + w32 (K + W)) + w32 (S0B (v.getD 0 0) + majB (v.getD 0 0) (v.getD 1 0) (v.getD 2 0))), v.getD 0 0, v.getD 1 0, v.getD 2 0, w32 (v.getD 3 0 + w32 (w32 (w32 (v.getD 7 0 + S1B (v.getD 4 0)) + chB (v.getD 4 0) (v.getD 5 0) (v.getD 6 0)) + w32 (K + W))), v.getD 4 0, v.getD 5 0, v.getD 6 0] = _
  rw [e1]
  show some [w32 (t1B v K W + w32 (S0B (v.getD 0 0) + majB (v.getD 0 0) (v.getD 1 0) (v.getD 2 0))), v.getD 0 0, v.getD 1 0, v.getD 2 0, w32 (v.getD 3 0 + t1B v K W), v.getD 4 0, v.getD 5 0, v.getD 6 0] = _
  rw [e2]; rfl

theorem zjs (v : List Int) (K W : Int) : (zxu v K W).length = 8 := rfl

def znt (K w : List Int) : Nat -> Nat -> List Int -> List Int
  | 0, _, v => v
  | j + 1, t, v => znt K w j (t + 1) (zxu v (K.getD t 0) (w.getD t 0))

theorem zu5 : glob0.length = 64 := by kernel_rfl

theorem z11b (N : Nat) {h x4 w v : List Int} {k0 : List Int -> Option (List Int)} (hv : v.length = 8) (hw : w.length = 64) (hN : 64 < N) : zik N h x4 w v 0 k0 = k0 (znt glob0 w 64 0 v) := by
  simp only [zik]
  rw [z2p (I := fun (v : List Int × Int) => ∃ t : Nat, v.2 = (t : Int) /\ t <= 64 /\ v.1.length = 8) (m := fun v => 64 - v.2.toNat) (R := fun v => k0 (znt glob0 w (64 - v.2.toNat) v.2.toNat v.1)) ?_ N (v, 0) ⟨0, rfl, by omega, hv⟩ (by simpa using hN)]
  . rfl
  rintro ⟨v, z⟩ r ⟨t, e, ht, hl⟩ hr
  dsimp only at e hl hr ⊢
  subst e
  rw [Int.toNat_natCast] at hr ⊢
  simp only [zij]
  by_cases hlt : t < 64
  . rw [zg (z17 (by omega)), zg (zz hlt), zg (zz hlt), Int.toNat_natCast, zg (z17 (by omega)), z153 N _ _ hl, Option.bind_some, z15 (by omega), hr _ ⟨t + 1, rfl, by omega, zjs _ _ _⟩ (by dsimp only; omega)]
    dsimp only
    rw [Int.toNat_natCast, show 64 - t = (64 - (t + 1)) + 1 by omega]; rfl
  . rw [zr (z3c (by omega)), show 64 - t = 0 by omega]; rfl

theorem ztn (N : Nat) {k h x8 w v : List Int} {k0 : List Int -> Option (List Int)} (hv : v.length = 8) (hw : w.length = 64) (hk : k.length = 64) (hN : 64 < N) : z7g N k h x8 w v 0 k0 = k0 (znt k w 64 0 v) := by
  simp only [z7g]
  rw [z2p (I := fun (v : List Int × Int) => ∃ t : Nat, v.2 = (t : Int) /\ t <= 64 /\ v.1.length = 8) (m := fun v => 64 - v.2.toNat) (R := fun v => k0 (znt k w (64 - v.2.toNat) v.2.toNat v.1)) ?_ N (v, 0) ⟨0, rfl, by omega, hv⟩ (by simpa using hN)]
  . rfl
  rintro ⟨v, z⟩ r ⟨t, e, ht, hl⟩ hr
  dsimp only at e hl hr ⊢
  subst e
  rw [Int.toNat_natCast] at hr ⊢
  simp only [z7d]
  by_cases hlt : t < 64
  . have c0 : decide (0 < v.length) = true := z17 (by omega)
    have c1 : decide (1 < v.length) = true := z17 (by omega)
    have c2 : decide (2 < v.length) = true := z17 (by omega)
    have c3 : decide (3 < v.length) = true := z17 (by omega)
    have c4 : decide (4 < v.length) = true := z17 (by omega)
    have c5 : decide (5 < v.length) = true := z17 (by omega)
    have c6 : decide (6 < v.length) = true := z17 (by omega)
    have c7 : decide (7 < v.length) = true := z17 (by omega)
    have c8 : inR (t : Int) k.length = true := zz (by omega)
    have c9 : inR (t : Int) w.length = true := zz (by omega)
    have c10 : decide (t < w.length) = true := z17 (by omega)
    have e2 := hr (zxu v (k.getD t 0) (w.getD t 0), ((t + 1 : Nat) : Int)) ⟨t + 1, rfl, by omega, zjs _ _ _⟩ (by dsimp only; omega)
    simp only [c0, c1, c2, c3, c4, c5, c6, c7, c8, c9, Int.toNat_natCast, c10, cond_true]
    rw [zg (z17 (by omega)), z15 (by omega)]
    refine Eq.trans e2 ?_
    dsimp only
    rw [Int.toNat_natCast, show 64 - t = (64 - (t + 1)) + 1 by omega]; rfl
  . rw [zr (z3c (by omega)), show 64 - t = 0 by omega]; rfl

theorem z1p6 (N : Nat) (h x4 x8 v : List Int) (k0 : List Int -> Option (List Int)) : zbm N h x8 v 0 k0 = znl N h x4 v 0 k0 := rfl

def z145 : Nat -> List Int -> List Int
  | 0, w => w
  | j + 1, w => z145 j (w ++ [z142 w w.length])
theorem zox : ∀ (j : Nat) (w : List Int), (z145 j w).length = w.length + j
  | 0, _ => rfl
  | j + 1, w => by simp only [z145, zox j, List.length_append, List.length_cons, List.length_nil]; omega

theorem ix (t k : Nat) (h : k <= t) (ht : t <= 64) : IntKind.wrap .i64 ((t : Int) - (k : Int)) = ((t - k : Nat) : Int) := by rw [z1e (by unfold I64; omega)]; omega

theorem zz9 (N : Nat) {k h x8 w : List Int} {k0 : List Int -> Option (List Int)} (hw : w.length = 16) (hN : 64 < N) : z7h N k h x8 w 16 k0 = k0 (z145 48 w) := by
  simp only [z7h]
  rw [z2p (I := fun (v : List Int × Int) => ∃ t : Nat, v.2 = (t : Int) /\ 16 <= t /\ t <= 64 /\ v.1.length = t) (m := fun v => 64 - v.2.toNat) (R := fun v => k0 (z145 (64 - v.2.toNat) v.1)) ?_ N (w, 16) ⟨16, rfl, by omega, by omega, hw⟩ (by dsimp only; omega)]
  . rfl
  rintro ⟨w, z⟩ r ⟨t, e, ht0, ht, hl⟩ hr
  dsimp only at e hl hr ⊢
  subst e
  rw [Int.toNat_natCast] at hr ⊢
  simp only [z7e]
  by_cases hlt : t < 64
  . have i2 : IntKind.wrap .i64 ((t : Int) - 2) = ((t - 2 : Nat) : Int) := ix t 2 (by omega) ht
    have i7 : IntKind.wrap .i64 ((t : Int) - 7) = ((t - 7 : Nat) : Int) := ix t 7 (by omega) ht
    have i15 : IntKind.wrap .i64 ((t : Int) - 15) = ((t - 15 : Nat) : Int) := ix t 15 (by omega) ht
    have i16 : IntKind.wrap .i64 ((t : Int) - 16) = ((t - 16 : Nat) : Int) := ix t 16 (by omega) ht
    have e2 := hr (w ++ [z142 w w.length], ((t + 1 : Nat) : Int)) ⟨t + 1, rfl, by omega, by omega, by simp [hl]⟩ (by dsimp only; omega)
    rw [i2, i7, i15, i16, Int.toNat_natCast, Int.toNat_natCast, Int.toNat_natCast, Int.toNat_natCast]
    rw [zg (z17 (by omega)), zg (zz (by omega)), zg (z17 (by omega)), zg (zz (by omega)), zg (z17 (by omega)), zg (zz (by omega)), zg (z17 (by omega)), zg (zz (by omega)), zg (z17 (by omega)), zg (z17 (by omega)), z15 (by omega)]
    rw [hl] at e2
    refine Eq.trans e2 ?_
    dsimp only
    rw [Int.toNat_natCast, show 64 - t = (64 - (t + 1)) + 1 by omega]
    simp only [z145, hl]
  . rw [zr (z3c (by omega)), show 64 - t = 0 by omega]; rfl

theorem zs7 {α : Type} (a b : List α) (d : α) {i : Nat} (h : i < a.length) : (a ++ b).getD i d = a.getD i d := by
  rw [List.getD_eq_getElem?_getD, List.getElem?_append_left h, <- List.getD_eq_getElem?_getD]
theorem z117 {α : Type} (a b : List α) (x y : α) : (a ++ y :: b).set a.length x = a ++ x :: b := by
  rw [List.set_append_right _ _ (by omega), Nat.sub_self]; rfl

theorem z1dk (N : Nat) {x2 S Z : List Int} {k0 : List Int -> Option (List Int)} (hS : S.length = 16) (hZ : Z.length = 48) (hN : 64 < N) : zb5 N x2 (S ++ Z) 16 k0 = k0 (z145 48 S) := by
  simp only [zb5]
  rw [z2p (I := fun (v : List Int × Int) => ∃ (t : Nat) (A B : List Int), v = (A ++ B, (t : Int)) /\ 16 <= t /\ t <= 64 /\ A.length = t /\ B.length = 64 - t) (m := fun v => 64 - v.2.toNat) (R := fun v => k0 (z145 (64 - v.2.toNat) (v.1.take v.2.toNat))) ?_ N (S ++ Z, 16) ⟨16, S, Z, rfl, by omega, by omega, hS, hZ⟩ (by dsimp only; omega)]
  . dsimp only
    rw [show (16 : Int).toNat = 16 from rfl, List.take_append_of_le_length (by omega), List.take_of_length_le (by omega)]
  rintro v r ⟨t, A, B, rfl, ht0, ht, hA, hB⟩ hr
  dsimp only at hr ⊢
  rw [Int.toNat_natCast] at hr ⊢
  have hAt : (A ++ B).take t = A := by rw [List.take_append_of_le_length (by omega), List.take_of_length_le (by omega)]
  rw [hAt]
  simp only [zb3]
  by_cases hlt : t < 64
  . have i2 : IntKind.wrap .i64 ((t : Int) - 2) = ((t - 2 : Nat) : Int) := ix t 2 (by omega) ht
    have i7 : IntKind.wrap .i64 ((t : Int) - 7) = ((t - 7 : Nat) : Int) := ix t 7 (by omega) ht
    have i15 : IntKind.wrap .i64 ((t : Int) - 15) = ((t - 15 : Nat) : Int) := ix t 15 (by omega) ht
    have i16 : IntKind.wrap .i64 ((t : Int) - 16) = ((t - 16 : Nat) : Int) := ix t 16 (by omega) ht
    have hl : (A ++ B).length = 64 := by rw [List.length_append]; omega
    obtain ⟨y, B', rfl⟩ : ∃ y B', B = y :: B' := by
      cases B with
      | nil => simp at hB; omega
      | cons y B' => exact ⟨y, B', rfl⟩
    have e2 := hr (A ++ z142 A t :: B', ((t + 1 : Nat) : Int)) ⟨t + 1, A ++ [z142 A t], B', by rw [List.append_assoc]; rfl, by omega, by omega, by simp [hA], by simp at hB; omega⟩ (by dsimp only; omega)
    rw [i2, i7, i15, i16, Int.toNat_natCast, Int.toNat_natCast, Int.toNat_natCast, Int.toNat_natCast, Int.toNat_natCast]
    rw [zg (z17 (by omega)), zg (zz (by omega)), zg (z17 (by omega)), zg (zz (by omega)), zg (z17 (by omega)), zg (zz (by omega)), zg (z17 (by omega)), zg (zz (by omega)), zg (z17 (by omega)), zg (zz (by omega)), zg (z17 (by omega)), z15 (by omega)]
    rw [zs7 A _ 0 (by omega : t - 2 < A.length), zs7 A _ 0 (by omega : t - 7 < A.length), zs7 A _ 0 (by omega : t - 15 < A.length), zs7 A _ 0 (by omega : t - 16 < A.length)]
    simp only [rr17, rr19, rr7, rr18]
    have hset := z117 A B' (z142 A t) y
    rw [hA] at hset
    show r ((A ++ y :: B').set t (z142 A t), ((t + 1 : Nat) : Int)) = _
    rw [hset]
    refine Eq.trans e2 ?_
    dsimp only
    rw [Int.toNat_natCast, show 64 - t = (64 - (t + 1)) + 1 by omega]
    have htk : (A ++ z142 A t :: B').take (t + 1) = A ++ [z142 A t] := by
      rw [show A ++ z142 A t :: B' = (A ++ [z142 A t]) ++ B' by rw [List.append_assoc]; rfl, List.take_append_of_le_length (by simp [hA]), List.take_of_length_le (by simp [hA])]
    rw [htk]
    simp only [z145, hA]
  . have hB0 : B = [] := List.length_eq_zero_iff.1 (by omega)
    subst hB0
    rw [zr (z3c (by omega)), show 64 - t = 0 by omega, List.append_nil]; rfl

end
end Go.Proofs.YtkipbccgnekoaaaGreatDoorLg

set_option linter.all false
namespace Go.Proofs.YtkipbccgnekoaaaGreatDoorLg
noncomputable section
open Go Go.Lift Go.Proofs.YtkipbccgnekoaaaGreatDoorPx

theorem z11s (N : Nat) {s : List UInt8} {m : Nat} (hm : m <= 65536) (hs : s.length <= m) : zdj N s (m : Int) = some (s ++ List.replicate (m - s.length) 0) := by
  have e : (if (65536 : Int) < (m : Int) then (65536 : Int) else (m : Int)) = (m : Int) := by rw [if_neg (by omega)]
  simp only [zdj, e]
  have hw : IntKind.wrap .i64 ((m : Int) - (((s.length : Nat)) : Int)) = ((m - s.length : Nat) : Int) := by rw [z1e (by unfold I64; omega)]; omega
  by_cases h2 : s.length = m
  . rw [zg (z17 (by omega)), h2]; simp
  . rw [zr (z3c (by omega)), hw, Int.toNat_natCast, z7w, zg (z17 (by omega)), zg (z17 (by rw [List.length_replicate]; omega))]

theorem z17k (n k : Nat) (hk : k <= 64) : z39 .u64 (n : Int) (k : Int) = ((n / 2 ^ k : Nat) : Int) := by
  have e : min ((k : Int)).toNat (IntKind.bits .u64) = k := by rw [Int.toNat_natCast]; exact Nat.min_eq_left hk
  unfold z39
  rw [e, Int.fdiv_eq_ediv_of_nonneg _ (by exact_mod_cast Nat.zero_le _)]
  norm_cast

def beL (n : Nat) : List UInt8 := [0, 0, 0, 0, 0, UInt8.ofNat (n / 65536), UInt8.ofNat (n / 256 % 256), UInt8.ofNat (n % 256)]

theorem z1pg (k : Nat) {n : Nat} (hn : n < 16777216) : z4e (k + 20) (n : Int) 8 = some (beL n) := by
  have h : z4e (k + 20) (n : Int) 8 = some (z27 [IntKind.wrap .u8 (z39 .u64 n ((56 : Nat) : Int)), IntKind.wrap .u8 (z39 .u64 n ((48 : Nat) : Int)), IntKind.wrap .u8 (z39 .u64 n ((40 : Nat) : Int)), IntKind.wrap .u8 (z39 .u64 n ((32 : Nat) : Int)), IntKind.wrap .u8 (z39 .u64 n ((24 : Nat) : Int)), IntKind.wrap .u8 (z39 .u64 n ((16 : Nat) : Int)), IntKind.wrap .u8 (z39 .u64 n ((8 : Nat) : Int)), IntKind.wrap .u8 (z39 .u64 n ((0 : Nat) : Int))]) := by kernel_rfl
  have hx : ∀ a b : Nat, a % 256 = b -> UInt8.ofNat ((((a : Nat) : Int) % 256).toNat) = UInt8.ofNat b := by
    intro a b e; congr 1
  rw [h]
  simp only [z17k n _ (by decide : 0 <= 64), z17k n _ (by decide : 8 <= 64), z17k n _ (by decide : 16 <= 64), z17k n _ (by decide : 24 <= 64), z17k n _ (by decide : 32 <= 64), z17k n _ (by decide : 40 <= 64), z17k n _ (by decide : 48 <= 64), z17k n _ (by decide : 56 <= 64), z27, List.map_cons, List.map_nil, zcn, beL]
  rw [hx _ 0 (by omega : n / 2 ^ 56 % 256 = 0), hx _ 0 (by omega : n / 2 ^ 48 % 256 = 0), hx _ 0 (by omega : n / 2 ^ 40 % 256 = 0), hx _ 0 (by omega : n / 2 ^ 32 % 256 = 0), hx _ 0 (by omega : n / 2 ^ 24 % 256 = 0), hx _ (n / 65536) (by omega : n / 2 ^ 16 % 256 = n / 65536), hx _ (n / 256 % 256) (by omega : n / 2 ^ 8 % 256 = n / 256 % 256), hx _ (n % 256) (by omega : n / 2 ^ 0 % 256 = n % 256)]
  rfl

def zer (n : Nat) : Nat := (119 - n % 64) % 64
def zfm (n : Nat) : List UInt8 := ([128] ++ List.replicate (zer n) 0) ++ beL (8 * n)
theorem z97 (n : Nat) : (zfm n).length = 9 + zer n := by simp [zfm, beL]; omega
theorem znf (n : Nat) : (n + (zfm n).length) % 64 = 0 := by rw [z97]; unfold zer; omega

theorem z19v (k : Nat) {n : Nat} (hn : n <= 30000) : ze5 (k + 20) (n : Int) = some (zfm n) := by
  have e1 : IntKind.wrap .i64 ((1 : Int) + Int.tmod (IntKind.wrap .i64 ((119 : Int) - Int.tmod (n : Int) 64)) 64) = ((1 + zer n : Nat) : Int) := by
    rw [Int.tmod_eq_emod_of_nonneg (by omega : 0 <= (n : Int)), z1e (x := (119 : Int) - _) (by unfold I64; omega), Int.tmod_eq_emod_of_nonneg (by omega), z1e (by unfold I64; omega)]
    unfold zer; omega
  have hz : zer n < 64 := by unfold zer; omega
  have e2 : IntKind.wrap .u64 (8 * IntKind.wrap .u64 (n : Int)) = ((8 * n : Nat) : Int) := by
    show (8 * ((n : Int) % 18446744073709551616)) % 18446744073709551616 = _
    omega
  simp only [ze5]
  rw [e1, z11s _ (by omega) (by simp), Option.bind_some, e2, z1pg k (by omega), Option.bind_some]
  rw [zg (z17 (by simp [beL]; omega))]
  rw [show (1 + zer n - [(128 : UInt8)].length) = zer n by simp]
  rfl


end
end Go.Proofs.YtkipbccgnekoaaaGreatDoorLg

set_option linter.all false
namespace Go.Proofs.YtkipbccgnekoaaaGreatDoorLg
noncomputable section
open Go Go.Lift Go.Proofs.YtkipbccgnekoaaaGreatDoorPx

theorem zus {α : Type} (l : List α) (d : α) {n : Nat} (h : l.length = n) : l = (List.range n).map fun i => l.getD i d := by
  apply List.ext_getElem?
  intro i
  rw [List.getElem?_map]
  by_cases hi : i < n
  . rw [List.getElem?_eq_getElem (by omega), List.getElem?_range hi, Option.map_some, List.getD_eq_getElem?_getD, List.getElem?_eq_getElem (by omega)]; rfl
  . rw [List.getElem?_eq_none (by omega), List.getElem?_eq_none (by rw [List.length_range]; omega)]; rfl

set_option maxRecDepth 100000 in
theorem z151 (k : Nat) (g : Nat -> Int) (f : Nat -> UInt8) : (zan (k + 100) ((List.range 8).map g) ((List.range 64).map f)).map List.length = some 8 := by kernel_rfl
set_option maxRecDepth 100000 in
theorem z14x (k : Nat) (g : Nat -> Int) : (z92 (k + 100) ((List.range 8).map g)).isSome = true := by kernel_rfl

def st (N : Nat) (h : List Int) (b : List UInt8) : List Int := (zan N h b).getD []
theorem z110 (k : Nat) {h : List Int} {b : List UInt8} (hh : h.length = 8) (hb : b.length = 64) : zan (k + 100) h b = some (st (k + 100) h b) /\ (st (k + 100) h b).length = 8 := by
  have := z151 k (fun i => h.getD i 0) (fun i => b.getD i 0)
  rw [<- zus h 0 hh, <- zus b 0 hb] at this
  unfold st
  cases e : zan (k + 100) h b with
  | none => rw [e] at this; cases this
  | some y => rw [e] at this; exact ⟨rfl, Option.some.inj this⟩

def z55 (N : Nat) : Nat -> List Int -> List UInt8 -> List Int
  | 0, h, _ => h
  | j + 1, h, s => z55 N j (st N h (s.take 64)) (s.drop 64)

theorem z7x (k : Nat) : ∀ (j : Nat) {h : List Int} {s : List UInt8}, h.length = 8 -> 64 * j <= s.length -> (z55 (k + 100) j h s).length = 8
  | 0, h, s, hh, _ => hh
  | j + 1, h, s, hh, hs => z7x k j (z110 k hh (by rw [List.length_take]; omega)).2 (by rw [List.length_drop]; omega)

theorem ze3 (N : Nat) : ∀ (i j : Nat) {h : List Int} {a b : List UInt8}, a.length = 64 * i -> z55 N (i + j) h (a ++ b) = z55 N j (z55 N i h a) b
  | 0, j, h, a, b, ha => by
    have : a = [] := List.length_eq_zero_iff.1 (by omega)
    subst this; rw [Nat.zero_add]; rfl
  | i + 1, j, h, a, b, ha => by
    rw [show i + 1 + j = (i + j) + 1 by omega]
    simp only [z55]
    rw [List.take_append_of_le_length (by omega), List.drop_append_of_le_length (by omega)]
    exact ze3 N i j (by rw [List.length_drop]; omega)

theorem zxk (k : Nat) {h : List Int} {s : List UInt8} {j : Nat} (hh : h.length = 8) (hs : s.length = 64 * j) (hj : j < k + 100) (hj2 : j <= 100000) : z9c (k + 100) h s = some (z55 (k + 100) j h s) := by
  simp only [z9c, zlz]
  rw [z2p (I := fun (v : List Int × Int) => ∃ i : Nat, v.2 = ((64 * i : Nat) : Int) /\ i <= j /\ v.1.length = 8) (m := fun v => j - v.2.toNat / 64)
    (R := fun v => some (z55 (k + 100) (j - v.2.toNat / 64) v.1 (s.drop v.2.toNat))) ?_ (k + 100) (h, 0) ⟨0, rfl, by omega, hh⟩ (by simpa using hj)]
  . simp
  rintro ⟨h', v⟩ r ⟨i, e, hi, hl⟩ hr
  dsimp only at e hl hr ⊢
  subst e
  rw [Int.toNat_natCast, show 64 * i / 64 = i by omega] at hr ⊢
  simp only [zfy]
  by_cases hlt : i < j
  . have hw : IntKind.wrap .i64 (((64 * i : Nat) : Int) + 64) = ((64 * i + 64 : Nat) : Int) := by rw [z1e (by unfold I64; omega)]; omega
    have hb : ((s.drop (64 * i)).take 64).length = 64 := by rw [List.length_take, List.length_drop]; omega
    rw [zg (z17 (by omega)), hw, zg (z17 (by omega)), zg (z17 (by omega)), Int.toNat_natCast, Int.toNat_natCast, z136, (z110 k hl hb).1, Option.bind_some, hr _ ⟨i + 1, by dsimp only; omega, by omega, (z110 k hl hb).2⟩ (by dsimp only; omega)]
    dsimp only
    rw [Int.toNat_natCast, show (64 * i + 64) / 64 = i + 1 by omega, show j - i = (j - (i + 1)) + 1 by omega]
    simp only [z55, List.drop_drop]
  . rw [zr (z3c (by omega)), show j - i = 0 by omega]; rfl

abbrev first : List Int := [1779033703, 3144134277, 1013904242, 2773480762, 1359893119, 2600822924, 528734635, 1541459225]
abbrev Hsh : Type := Bool × (List Int × (List UInt8 × (Int × Unit)))

def total (n : Nat) : Nat := (n + (zfm n).length) / 64
def z10v (N : Nat) (h : List Int) : List UInt8 := (z92 N h).getD []
theorem zv1 (k : Nat) {h : List Int} (hh : h.length = 8) : z92 (k + 100) h = some (z10v (k + 100) h) := by
  have := z14x k (fun i => h.getD i 0)
  rw [<- zus h 0 hh] at this
  unfold z10v
  cases e : z92 (k + 100) h with
  | none => rw [e] at this; cases this
  | some y => rfl
def z10w (N : Nat) (s : List UInt8) : List UInt8 := z10v N (z55 N (total s.length) first (s ++ zfm s.length))

def z12f (N : Nat) (all : List UInt8) (h : Hsh) : Prop := ∃ j : Nat, 64 * j <= all.length /\ h = (true, z55 N j first (all.take (64 * j)), all.drop (64 * j), (all.length : Int), ())

theorem zy7 (N : Nat) : z12f N [] (true, first, [], 0, ()) := ⟨0, by simp, rfl⟩

theorem z13s (k : Nat) {all s : List UInt8} {h : Hsh} (hk : 600 <= k) (hm : z12f (k + 100) all h) (hl : all.length + s.length <= 30000) : ∃ h', z56 (k + 100) h s = some ((), h', ()) /\ z12f (k + 100) (all ++ s) h' := by
  obtain ⟨j, hj, rfl⟩ := hm
  have hd : all.drop (64 * j) ++ s = (all ++ s).drop (64 * j) := by rw [List.drop_append_of_le_length hj]
  simp only [z56, zbb]
  rw [Bool.not_true, cond_false, zg (z17 (by rw [List.length_drop]; omega)), hd]
  generalize hq : ((all ++ s).drop (64 * j)).length / 64 = q
  have hL : ((all ++ s).drop (64 * j)).length = all.length + s.length - 64 * j := by rw [List.length_drop, List.length_append]
  have hw : IntKind.wrap .i64 ((((all ++ s).drop (64 * j)).length : Int) - Int.tmod (((all ++ s).drop (64 * j)).length : Int) 64) = ((64 * q : Nat) : Int) := by
    rw [Int.tmod_eq_emod_of_nonneg (by omega), z1e (by unfold I64; omega)]; omega
  have hq2 : 64 * q <= all.length + s.length - 64 * j := by omega
  have hsl : (z55 (k + 100) j first (all.take (64 * j))).length = 8 := z7x k j rfl (by rw [List.length_take]; omega)
  rw [hw, zg (z17 (by omega)), Int.toNat_natCast, zez, zxk k hsl (by rw [List.length_take]; omega) (by omega : q < k + 100) (by omega), Option.bind_some, zg (z17 (by omega)), z137]
  refine ⟨_, rfl, j + q, by rw [List.length_append]; omega, ?_⟩
  have e1 : (all ++ s).take (64 * (j + q)) = all.take (64 * j) ++ ((all ++ s).drop (64 * j)).take (64 * q) := by
    rw [Nat.mul_add, List.take_add, List.take_append_of_le_length hj]
  rw [e1, ze3 _ j q (by rw [List.length_take]; omega), List.drop_drop, List.length_append, show 64 * (j + q) = 64 * j + 64 * q by omega]
  have e2 : IntKind.wrap .i64 ((all.length : Int) + (s.length : Int)) = ((all.length + s.length : Nat) : Int) := by rw [z1e (by unfold I64; omega)]; omega
  rw [e2]

theorem zw9 (k : Nat) {all : List UInt8} {j : Nat} (hk : 600 <= k) (hj : 64 * j <= all.length) (hl : all.length <= 30000) :
    z9c (k + 100) (z55 (k + 100) j first (all.take (64 * j))) (all.drop (64 * j) ++ zfm all.length) = some (z55 (k + 100) (total all.length) first (all ++ zfm all.length)) /\ (z55 (k + 100) (total all.length) first (all ++ zfm all.length)).length = 8 := by
  have hwh := znf all.length
  have htl := z97 all.length
  have hz : zer all.length < 64 := by unfold zer; omega
  have htot : 64 * total all.length = all.length + (zfm all.length).length := by unfold total; omega
  have hsl : (z55 (k + 100) j first (all.take (64 * j))).length = 8 := z7x k j rfl (by rw [List.length_take]; omega)
  have hjt : j <= total all.length := by omega
  have e : z55 (k + 100) (total all.length) first (all ++ zfm all.length) = z55 (k + 100) (total all.length - j) (z55 (k + 100) j first (all.take (64 * j))) (all.drop (64 * j) ++ zfm all.length) := by
    have := ze3 (k + 100) j (total all.length - j) (h := first) (a := all.take (64 * j)) (b := all.drop (64 * j) ++ zfm all.length) (by rw [List.length_take]; omega)
    rw [<- List.append_assoc, List.take_append_drop, show j + (total all.length - j) = total all.length by omega] at this
    exact this
  constructor
  . rw [e, zxk k (j := total all.length - j) hsl (by rw [List.length_append, List.length_drop]; omega) (by omega) (by omega)]
  . exact z7x k _ rfl (by rw [List.length_append]; omega)

theorem z1ht {k n : Nat} (hn : n <= 30000) : ze5 (k + 100) (n : Int) = some (zfm n) := z19v (k + 80) hn

theorem z19z (k : Nat) {all : List UInt8} {h : Hsh} (hk : 600 <= k) (hm : z12f (k + 100) all h) (hl : all.length <= 30000) : z7y (k + 100) h = some (z10w (k + 100) all, h, ()) := by
  obtain ⟨j, hj, rfl⟩ := hm
  have hz : zer all.length < 64 := by unfold zer; omega
  obtain ⟨h1, h2⟩ := zw9 k hk hj hl
  simp only [z7y, z9y, z9x]
  rw [Bool.not_true, cond_false, z1ht hl, Option.bind_some, zg (z17 (by rw [z97, List.length_drop]; omega)), h1, Option.bind_some, zv1 k h2, Option.bind_some]
  rfl

theorem z1in (k : Nat) {s : List UInt8} (hk : 600 <= k) (hl : s.length <= 30000) : zii (k + 100) s = some (z10w (k + 100) s) := by
  obtain ⟨h', h1, h2⟩ := z13s k (s := s) hk (zy7 _) (by simpa using hl)
  rw [List.nil_append] at h2
  simp only [zii]
  rw [h1, Option.bind_some, z19z k hk h2 hl]; rfl

theorem z19y (k : Nat) {all : List UInt8} {h : Hsh} (hk : 600 <= k) (hm : z12f (k + 100) all h) (hl : all.length <= 30000) : z7n (k + 100) h = some (z10w (k + 100) all, h, ()) := by
  obtain ⟨j, hj, rfl⟩ := hm
  have hz : zer all.length < 64 := by unfold zer; omega
  obtain ⟨h1, h2⟩ := zw9 k hk hj hl
  simp only [z7n, zb8, zb7]
  rw [Bool.not_true, cond_false, z1ht hl, Option.bind_some, zg (z17 (by rw [z97, List.length_drop]; omega)), h1, Option.bind_some, zv1 k h2, Option.bind_some]
  rfl

end
end Go.Proofs.YtkipbccgnekoaaaGreatDoorLg

set_option linter.all false
namespace Go.Proofs.YtkipbccgnekoaaaGreatDoorLg
noncomputable section
open Go Go.Lift Go.Proofs.YtkipbccgnekoaaaGreatDoorPx

def z1h2 (f : Nat -> UInt8) (t : Nat) : Nat := (((f (4 * t)).toNat * 256 + (f (4 * t + 1)).toNat) * 256 + (f (4 * t + 2)).toNat) * 256 + (f (4 * t + 3)).toNat
def zrf (f : Nat -> UInt8) (t : Nat) : Int := (z1h2 f t : Int)

theorem z1ip (b : UInt8) : z8m .u32 (IntKind.wrap .u32 ((b.toNat : Nat) : Int)) 24 = ((b.toNat * 16777216 : Nat) : Int) := by
  have := b.toNat_lt
  show (((b.toNat : Nat) : Int) % 4294967296 * 16777216) % 4294967296 = _
  omega
theorem z1iq (b : UInt8) : z8m .u32 (IntKind.wrap .u32 ((b.toNat : Nat) : Int)) 16 = ((b.toNat * 65536 : Nat) : Int) := by
  have := b.toNat_lt
  show (((b.toNat : Nat) : Int) % 4294967296 * 65536) % 4294967296 = _
  omega
theorem shl8 (b : UInt8) : z8m .u32 (IntKind.wrap .u32 ((b.toNat : Nat) : Int)) 8 = ((b.toNat * 256 : Nat) : Int) := by
  have := b.toNat_lt
  show (((b.toNat : Nat) : Int) % 4294967296 * 256) % 4294967296 = _
  omega
theorem wr8 (b : UInt8) : IntKind.wrap .u32 ((b.toNat : Nat) : Int) = ((b.toNat : Nat) : Int) := by
  have := b.toNat_lt
  show ((b.toNat : Nat) : Int) % 4294967296 = _
  omega

theorem z1ae {a b : Nat} (c : Nat) (hb : b < 2 ^ c) (h : a * 2 ^ c + b < 4294967296) : zj .or .u32 ((a * 2 ^ c : Nat) : Int) ((b : Nat) : Int) = ((a * 2 ^ c + b : Nat) : Int) := by
  unfold zj
  show IntKind.wrap .u32 (((BitVec.ofInt 32 ((a * 2 ^ c : Nat) : Int) ||| BitVec.ofInt 32 ((b : Nat) : Int)).toNat : Nat) : Int) = _
  rw [BitVec.ofInt_natCast, BitVec.ofInt_natCast, BitVec.toNat_or, BitVec.toNat_ofNat, BitVec.toNat_ofNat, Nat.mod_eq_of_lt (by omega), Nat.mod_eq_of_lt (by omega)]
  have := Nat.shiftLeft_add_eq_or_of_lt hb a
  rw [Nat.shiftLeft_eq] at this
  rw [<- this, zxd, Int.emod_eq_of_lt (by omega) (by omega)]

theorem z197 (b0 b1 b2 b3 : UInt8) : zj .or .u32 (zj .or .u32 (zj .or .u32 (z8m .u32 (IntKind.wrap .u32 ((b0.toNat : Nat) : Int)) 24) (z8m .u32 (IntKind.wrap .u32 ((b1.toNat : Nat) : Int)) 16)) (z8m .u32 (IntKind.wrap .u32 ((b2.toNat : Nat) : Int)) 8)) (IntKind.wrap .u32 ((b3.toNat : Nat) : Int)) = (((((b0.toNat * 256 + b1.toNat) * 256 + b2.toNat) * 256 + b3.toNat) : Nat) : Int) := by
  have h0 := b0.toNat_lt
  have h1 := b1.toNat_lt
  have h2 := b2.toNat_lt
  have h3 := b3.toNat_lt
  rw [z1ip, z1iq, shl8, wr8]
  have e1 := z1ae (a := b0.toNat) (b := b1.toNat * 65536) 24 (by simp only [Nat.reducePow]; omega) (by simp only [Nat.reducePow]; omega)
  have e2 := z1ae (a := b0.toNat * 256 + b1.toNat) (b := b2.toNat * 256) 16 (by simp only [Nat.reducePow]; omega) (by simp only [Nat.reducePow]; omega)
  have e3 := z1ae (a := (b0.toNat * 256 + b1.toNat) * 256 + b2.toNat) (b := b3.toNat) 8 (by simp only [Nat.reducePow]; omega) (by simp only [Nat.reducePow]; omega)
  simp only [Nat.reducePow] at e1 e2 e3
  rw [e1, show b0.toNat * 16777216 + b1.toNat * 65536 = (b0.toNat * 256 + b1.toNat) * 65536 by omega, e2, show (b0.toNat * 256 + b1.toNat) * 65536 + b2.toNat * 256 = ((b0.toNat * 256 + b1.toNat) * 256 + b2.toNat) * 256 by omega, e3]

theorem z14c (b0 b1 b2 b3 : UInt8) : IntKind.wrap .u32 (IntKind.wrap .u32 (IntKind.wrap .u32 (z8m .u32 (IntKind.wrap .u32 ((b0.toNat : Nat) : Int)) 24 + z8m .u32 (IntKind.wrap .u32 ((b1.toNat : Nat) : Int)) 16) + z8m .u32 (IntKind.wrap .u32 ((b2.toNat : Nat) : Int)) 8) + IntKind.wrap .u32 ((b3.toNat : Nat) : Int)) = (((((b0.toNat * 256 + b1.toNat) * 256 + b2.toNat) * 256 + b3.toNat) : Nat) : Int) := by
  have h0 := b0.toNat_lt
  have h1 := b1.toNat_lt
  have h2 := b2.toNat_lt
  have h3 := b3.toNat_lt
  rw [z1ip, z1iq, shl8, wr8]
  simp only [zxd]
  omega

theorem zqr (f : Nat -> UInt8) (t : Nat) : (List.range (t + 1)).map (zrf f) = (List.range t).map (zrf f) ++ [zrf f t] := by
  rw [List.range_succ, List.map_append]; rfl

theorem z1aa (N : Nat) {s : List UInt8} {a : Nat} {k h x8 : List Int} {k0 : List Int -> Option (List Int)} (ha : a + 64 <= s.length) (hs : s.length <= 100000) (hN : 16 < N) :
    z7i N s (a : Int) k h x8 [] 0 k0 = k0 ((List.range 16).map (zrf fun j => s.getD (a + j) 0)) := by
  simp only [z7i]
  rw [z2p (I := fun (v : List Int × Int) => ∃ t : Nat, v = ((List.range t).map (zrf fun j => s.getD (a + j) 0), (t : Int)) /\ t <= 16) (m := fun v => 16 - v.2.toNat) (R := fun _ => k0 ((List.range 16).map (zrf fun j => s.getD (a + j) 0))) ?_ N ([], 0) ⟨0, rfl, by omega⟩ (by simpa using hN)]
  rintro v r ⟨t, rfl, ht⟩ hr
  dsimp only at hr ⊢
  rw [Int.toNat_natCast] at hr
  simp only [z7f]
  by_cases hlt : t < 16
  . have i0 : IntKind.wrap .i64 ((a : Int) + IntKind.wrap .i64 ((4 : Int) * (t : Int))) = ((a + 4 * t : Nat) : Int) := by
      rw [z1e (x := (4 : Int) * _) (by unfold I64; omega), z1e (by unfold I64; omega)]; omega
    have i1 : IntKind.wrap .i64 (((a + 4 * t : Nat) : Int) + 1) = ((a + (4 * t + 1) : Nat) : Int) := by rw [z1e (by unfold I64; omega)]; omega
    have i2 : IntKind.wrap .i64 (((a + 4 * t : Nat) : Int) + 2) = ((a + (4 * t + 2) : Nat) : Int) := by rw [z1e (by unfold I64; omega)]; omega
    have i3 : IntKind.wrap .i64 (((a + 4 * t : Nat) : Int) + 3) = ((a + (4 * t + 3) : Nat) : Int) := by rw [z1e (by unfold I64; omega)]; omega
    rw [i0, i1, i2, i3, Int.toNat_natCast, Int.toNat_natCast, Int.toNat_natCast, Int.toNat_natCast]
    rw [zg (z17 (by omega)), zg (zz (by omega)), zg (zz (by omega)), zg (zz (by omega)), zg (zz (by omega)), zg (z17 (by rw [List.length_map, List.length_range]; omega)), z14c, z15 (by omega)]
    exact hr _ ⟨t + 1, by rw [zqr]; rfl, by omega⟩ (by dsimp only; omega)
  . rw [zr (z3c (by omega)), show t = 16 by omega]

theorem z1a6 (N : Nat) {b : List UInt8} {x2 Z : List Int} {k0 : List Int -> Option (List Int)} (hb : b.length = 64) (hZ : Z.length = 64) (hN : 16 < N) :
    zb6 N b x2 Z 0 k0 = k0 ((List.range 16).map (zrf fun j => b.getD j 0) ++ Z.drop 16) := by
  simp only [zb6]
  rw [z2p (I := fun (v : List Int × Int) => ∃ t : Nat, v = ((List.range t).map (zrf fun j => b.getD j 0) ++ Z.drop t, (t : Int)) /\ t <= 16) (m := fun v => 16 - v.2.toNat) (R := fun _ => k0 ((List.range 16).map (zrf fun j => b.getD j 0) ++ Z.drop 16)) ?_ N (Z, 0) ⟨0, rfl, by omega⟩ (by simpa using hN)]
  rintro v r ⟨t, rfl, ht⟩ hr
  dsimp only at hr ⊢
  rw [Int.toNat_natCast] at hr
  simp only [zb4]
  by_cases hlt : t < 16
  . have i0 : IntKind.wrap .i64 ((4 : Int) * (t : Int)) = ((4 * t : Nat) : Int) := by rw [z1e (by unfold I64; omega)]; omega
    have i1 : IntKind.wrap .i64 (((4 * t : Nat) : Int) + 4) = ((4 * t + 4 : Nat) : Int) := by rw [z1e (by unfold I64; omega)]; omega
    have hc : ((b.drop (4 * t)).take 4).length = 4 := by rw [List.length_take, List.length_drop]; omega
    have hg : ∀ j, j < 4 -> ((b.drop (4 * t)).take 4).getD j 0 = b.getD (4 * t + j) 0 := by
      intro j hj
      rw [List.getD_eq_getElem?_getD, List.getElem?_take_of_lt hj, List.getElem?_drop, <- List.getD_eq_getElem?_getD]
    have hla : ((List.range t).map (zrf fun j => b.getD j 0)).length = t := by rw [List.length_map, List.length_range]
    rw [i0, i1, Int.toNat_natCast, Int.toNat_natCast, Int.toNat_natCast, z136]
    rw [zg (z17 (by omega)), zg (z17 (by omega)), zg (z17 (by omega)), zg (zyd (by omega) (by omega)), zg (zyd (by omega) (by omega)), zg (zyd (by omega) (by omega)), zg (zyd (by omega) (by omega)), zg (zz (by omega)), zg (z17 (by rw [List.length_append, hla, List.length_drop]; omega)), hg 0 (by omega), hg 1 (by omega), hg 2 (by omega), hg 3 (by omega), z197, z15 (by omega)]
    have hd := z1n Z 0 t (by omega)
    have hset := z117 ((List.range t).map (zrf fun j => b.getD j 0)) (Z.drop (t + 1)) (zrf (fun j => b.getD j 0) t) (Z.getD t 0)
    rw [hla, <- hd] at hset
    have hset2 : List.set ((List.range t).map (zrf fun j => b.getD j 0) ++ Z.drop t) t (((((((b.getD (4 * t + 0) 0).toNat * 256 + (b.getD (4 * t + 1) 0).toNat) * 256 + (b.getD (4 * t + 2) 0).toNat) * 256 + (b.getD (4 * t + 3) 0).toNat) : Nat) : Int)) = (List.range (t + 1)).map (zrf fun j => b.getD j 0) ++ Z.drop (t + 1) := by
      rw [zqr, List.append_assoc]; exact hset
    rw [hset2]
    exact hr _ ⟨t + 1, rfl, by omega⟩ (by dsimp only; omega)
  . rw [zr (z3c (by omega)), show t = 16 by omega]

theorem z1a1 (N : Nat) {h : List Int} {s : List UInt8} {a : Nat} (hh : h.length = 8) (ha : a + 64 <= s.length) (hs : s.length <= 100000) (hN : 64 < N) :
    z4p N h s (a : Int) glob0 = zan N h ((s.drop a).take 64) := by
  have hb : ((s.drop a).take 64).length = 64 := by rw [List.length_take, List.length_drop]; omega
  have hg : ∀ j, j < 64 -> ((s.drop a).take 64).getD j 0 = s.getD (a + j) 0 := by
    intro j hj
    rw [List.getD_eq_getElem?_getD, List.getElem?_take_of_lt hj, List.getElem?_drop, <- List.getD_eq_getElem?_getD]
  have hW : (List.range 16).map (zrf fun j => s.getD (a + j) 0) = (List.range 16).map (zrf fun j => ((s.drop a).take 64).getD j 0) := by
    apply List.map_congr_left
    intro t ht
    rw [List.mem_range] at ht
    simp only [zrf, z1h2]
    rw [hg (4 * t) (by omega), hg (4 * t + 1) (by omega), hg (4 * t + 2) (by omega), hg (4 * t + 3) (by omega)]
  have hl16 : ((List.range 16).map (zrf fun j => ((s.drop a).take 64).getD j 0)).length = 16 := by rw [List.length_map, List.length_range]
  have hl64 : (z145 48 ((List.range 16).map (zrf fun j => ((s.drop a).take 64).getD j 0))).length = 64 := by rw [zox, hl16]
  simp only [z4p, zan, zc9]
  rw [z1aa N ha hs (by omega), zz9 N (by rw [List.length_map, List.length_range]) hN, hW, ztn N hh hl64 zu5 hN]
  rw [zr (by rw [hb]; rfl), z1a6 N hb (by rfl) (by omega), z1dk N hl16 (by rfl) hN, Option.bind_some, z11b N hh hl64 hN]
  exact z1p6 N h _ _ _ _

def be4 (x : Int) : List UInt8 := z27 [IntKind.wrap .u8 (z39 .u64 (IntKind.wrap .u64 x) 24), IntKind.wrap .u8 (z39 .u64 (IntKind.wrap .u64 x) 16), IntKind.wrap .u8 (z39 .u64 (IntKind.wrap .u64 x) 8), IntKind.wrap .u8 (z39 .u64 (IntKind.wrap .u64 x) 0)]
def r4 (x : Int) : List Int := [IntKind.wrap .u8 (z39 .u32 x 24), IntKind.wrap .u8 (z39 .u32 x 16), IntKind.wrap .u8 (z39 .u32 x 8), IntKind.wrap .u8 x]

theorem z1ph (x : Int) : be4 x = z27 (r4 x) := by
  have a24 : z39 .u64 (IntKind.wrap .u64 x) 24 = (x % 18446744073709551616) / 16777216 := by
    show (x % 18446744073709551616).fdiv 16777216 = _; rw [Int.fdiv_eq_ediv_of_nonneg _ (by omega)]
  have a16 : z39 .u64 (IntKind.wrap .u64 x) 16 = (x % 18446744073709551616) / 65536 := by
    show (x % 18446744073709551616).fdiv 65536 = _; rw [Int.fdiv_eq_ediv_of_nonneg _ (by omega)]
  have a8 : z39 .u64 (IntKind.wrap .u64 x) 8 = (x % 18446744073709551616) / 256 := by
    show (x % 18446744073709551616).fdiv 256 = _; rw [Int.fdiv_eq_ediv_of_nonneg _ (by omega)]
  have a0 : z39 .u64 (IntKind.wrap .u64 x) 0 = (x % 18446744073709551616) / 1 := by
    show (x % 18446744073709551616).fdiv 1 = _; rw [Int.fdiv_eq_ediv_of_nonneg _ (by omega)]
  have b24 : z39 .u32 x 24 = x / 16777216 := by show x.fdiv 16777216 = _; rw [Int.fdiv_eq_ediv_of_nonneg _ (by omega)]
  have b16 : z39 .u32 x 16 = x / 65536 := by show x.fdiv 65536 = _; rw [Int.fdiv_eq_ediv_of_nonneg _ (by omega)]
  have b8 : z39 .u32 x 8 = x / 256 := by show x.fdiv 256 = _; rw [Int.fdiv_eq_ediv_of_nonneg _ (by omega)]
  unfold be4 r4
  rw [a24, a16, a8, a0, b24, b16, b8, zcn, zcn, zcn, zcn, zcn, zcn, zcn, zcn]
  rw [show x % 18446744073709551616 / 16777216 % 256 = x / 16777216 % 256 by omega, show x % 18446744073709551616 / 65536 % 256 = x / 65536 % 256 by omega, show x % 18446744073709551616 / 256 % 256 = x / 256 % 256 by omega, show x % 18446744073709551616 / 1 % 256 = x % 256 by omega]

set_option maxRecDepth 100000 in
theorem z1hs (k : Nat) (g : Nat -> Int) : z92 (k + 100) ((List.range 8).map g) = some (((((((([] ++ be4 (g 0)) ++ be4 (g 1)) ++ be4 (g 2)) ++ be4 (g 3)) ++ be4 (g 4)) ++ be4 (g 5)) ++ be4 (g 6)) ++ be4 (g 7)) := by kernel_rfl
set_option maxRecDepth 100000 in
theorem tellB (k : Nat) (g : Nat -> Int) : z3h (k + 100) ((List.range 8).map g) = some (z27 (((((((([] ++ r4 (g 0)) ++ r4 (g 1)) ++ r4 (g 2)) ++ r4 (g 3)) ++ r4 (g 4)) ++ r4 (g 5)) ++ r4 (g 6)) ++ r4 (g 7))) := by kernel_rfl

theorem zz3 (k : Nat) {h : List Int} (hh : h.length = 8) : z3h (k + 100) h = z92 (k + 100) h := by
  rw [zus h 0 hh, z1hs, tellB]
  simp only [z96, z1ph]; rfl

def bts (n : Nat) : List Int := [IntKind.wrap .u8 (z39 .u64 n 56), IntKind.wrap .u8 (z39 .u64 n 48), IntKind.wrap .u8 (z39 .u64 n 40), IntKind.wrap .u8 (z39 .u64 n 32), IntKind.wrap .u8 (z39 .u64 n 24), IntKind.wrap .u8 (z39 .u64 n 16), IntKind.wrap .u8 (z39 .u64 n 8), IntKind.wrap .u8 (z39 .u64 n 0)]

theorem z1p9 {n : Nat} (hn : n < 16777216) : z27 (bts n) = beL n := by
  have h := z1pg 0 hn
  have h2 : z4e (0 + 20) (n : Int) 8 = some (z27 (bts n)) := by kernel_rfl
  rw [h2] at h; exact Option.some.inj h

theorem pad1 {N : Nat} {s : List UInt8} {b : List Int} {m : Nat} {k0 : List Int -> Option (List UInt8)} (hb : b.length = m + 1) (hm : m <= 30000) (hN : 64 < N) : z85 N s b k0 = k0 (b ++ List.replicate (zer m) 0) := by
  have hz : zer m < 64 := by unfold zer; omega
  have hzz : (m + 1 + zer m) % 64 = 56 := by unfold zer; omega
  have hmin : ∀ i, i < zer m -> (m + 1 + i) % 64 ≠ 56 := by intro i hi; unfold zer at hi; omega
  simp only [z85]
  rw [z2p (I := fun (v : List Int) => ∃ i : Nat, v = b ++ List.replicate i 0 /\ i <= zer m) (m := fun v => m + 1 + zer m - v.length) (R := fun _ => k0 (b ++ List.replicate (zer m) 0)) ?_ N b ⟨0, by simp, by omega⟩ (by rw [hb]; omega)]
  rintro v r ⟨i, rfl, hi⟩ hr
  have hl : (b ++ List.replicate i (0 : Int)).length = m + 1 + i := by rw [List.length_append, List.length_replicate, hb]
  simp only [z83]
  rw [hl] at hr ⊢
  rw [Int.tmod_eq_emod_of_nonneg (by omega)]
  by_cases hlt : i < zer m
  . have := hmin i hlt
    rw [zg (by rw [bne_iff_ne]; omega), zg (z17 (by omega))]
    exact hr _ ⟨i + 1, by rw [List.append_assoc, List.replicate_succ'], by omega⟩ (by rw [List.length_append, hl]; simp; omega)
  . have : i = zer m := by omega
    subst this
    rw [zr (by rw [bne_eq_false_iff_eq]; omega)]

theorem pad2 {N : Nat} {b : List Int} {n : Nat} {k0 : List Int -> Option (List UInt8)} (hb : b.length <= 100000) (hN : 8 < N) : z84 N b (n : Int) 7 k0 = k0 (b ++ bts n) := by
  simp only [z84]
  rw [z2p (I := fun (v : List Int × Int) => ∃ j : Nat, v = (b ++ (bts n).take j, 7 - (j : Int)) /\ j <= 8) (m := fun v => (v.2 + 1).toNat) (R := fun _ => k0 (b ++ bts n)) ?_ N (b, 7) ⟨0, by simp, by omega⟩ (by dsimp only; omega)]
  rintro v r ⟨j, rfl, hj⟩ hr
  dsimp only at hr ⊢
  simp only [z82]
  by_cases hlt : j < 8
  . have ht : ((bts n).take j).length = j := by rw [List.length_take]; show min j 8 = j; omega
    have e8 : IntKind.wrap .u64 (IntKind.wrap .i64 ((8 : Int) * (7 - (j : Int)))) = 56 - 8 * (j : Int) := by
      rw [z1e (by unfold I64; omega)]
      show ((8 : Int) * (7 - (j : Int))) % 18446744073709551616 = _
      omega
    have ev : IntKind.wrap .u8 (z39 .u64 (n : Int) (56 - 8 * (j : Int))) = (bts n).getD j 0 := by
      obtain rfl | rfl | rfl | rfl | rfl | rfl | rfl | rfl : j = 0 \/ j = 1 \/ j = 2 \/ j = 3 \/ j = 4 \/ j = 5 \/ j = 6 \/ j = 7 := by omega
      all_goals rfl
    rw [zg (z17 (by omega)), e8, zg (z17 (by omega)), zg (z17 (by rw [List.length_append, ht]; omega)), ev, z1e (x := (7 : Int) - (j : Int) - 1) (by unfold I64; omega)]
    refine hr _ ⟨j + 1, ?_, by omega⟩ (by dsimp only; omega)
    rw [zt1 (bts n) 0 j (by show j < 8; omega), List.append_assoc]
    congr 1
    omega
  . have : j = 8 := by omega
    subst this
    rw [zr (z3c (by omega))]; rfl

theorem z11k (N : Nat) {s : List UInt8} (hs : s.length <= 30000) (hN : 64 < N) : z40 N s = some (s ++ zfm s.length) := by
  have hz : zer s.length < 64 := by unfold zer; omega
  have e2 : IntKind.wrap .u64 (8 * IntKind.wrap .u64 (s.length : Int)) = ((8 * s.length : Nat) : Int) := by
    show (8 * ((s.length : Int) % 18446744073709551616)) % 18446744073709551616 = _
    omega
  simp only [z40]
  rw [zg (z17 (by rw [ofStr_length]; omega)), pad1 (m := s.length) (by simp [ofStr_length]) hs hN, e2, pad2 (by simp [ofStr_length]; omega) (by omega), z96, z96, z96, toStr_ofStr, z7w, z1p9 (by omega)]
  have : z27 [(128 : Int)] = [128] := rfl
  rw [this, zfm]
  simp only [List.append_assoc]

theorem z1ab (k : Nat) {s : List UInt8} {h : List Int} {j : Nat} {k0 : List Int -> Option (List UInt8)} (hh : h.length = 8) (hs : s.length = 64 * j) (hj : j < k + 100) (hj2 : j <= 1000) :
    z50 (k + 100) s glob0 h 0 k0 = k0 (z55 (k + 100) j h s) := by
  simp only [z50]
  rw [z2p (I := fun (v : List Int × Int) => ∃ i : Nat, v.2 = ((64 * i : Nat) : Int) /\ i <= j /\ v.1.length = 8) (m := fun v => j - v.2.toNat / 64)
    (R := fun v => k0 (z55 (k + 100) (j - v.2.toNat / 64) v.1 (s.drop v.2.toNat))) ?_ (k + 100) (h, 0) ⟨0, rfl, by omega, hh⟩ (by simpa using hj)]
  . simp
  rintro ⟨h', v⟩ r ⟨i, e, hi, hl⟩ hr
  dsimp only at e hl hr ⊢
  subst e
  rw [Int.toNat_natCast, show 64 * i / 64 = i by omega] at hr ⊢
  simp only [z80]
  by_cases hlt : i < j
  . have hw : IntKind.wrap .i64 (((64 * i : Nat) : Int) + 64) = ((64 * i + 64 : Nat) : Int) := by rw [z1e (by unfold I64; omega)]; omega
    have hb : ((s.drop (64 * i)).take 64).length = 64 := by rw [List.length_take, List.length_drop]; omega
    rw [zg (z17 (by omega)), hw, z1a1 (k + 100) hl (by omega) (by omega) (by omega), (z110 k hl hb).1, Option.bind_some, hr _ ⟨i + 1, by dsimp only; omega, by omega, (z110 k hl hb).2⟩ (by dsimp only; omega)]
    dsimp only
    rw [Int.toNat_natCast, show (64 * i + 64) / 64 = i + 1 by omega, show j - i = (j - (i + 1)) + 1 by omega]
    simp only [z55, List.drop_drop]
  . rw [zr (z3c (by omega)), show j - i = 0 by omega]; rfl

theorem znw (k : Nat) {s : List UInt8} (hk : 600 <= k) (hs : s.length <= 30000) : z2o (k + 100) s = some (z10w (k + 100) s) := by
  have hwh := znf s.length
  have htl := z97 s.length
  have hz : zer s.length < 64 := by unfold zer; omega
  have htot : 64 * total s.length = s.length + (zfm s.length).length := by unfold total; omega
  have hl8 : (z55 (k + 100) (total s.length) first (s ++ zfm s.length)).length = 8 := z7x k _ rfl (by rw [List.length_append]; omega)
  have hun : z2o (k + 100) s = (z40 (k + 100) s).bind fun y => z50 (k + 100) y glob0 first 0 (fun h => (z3h (k + 100) h).bind fun y1 => some y1) := by kernel_rfl
  rw [hun, z11k _ hs (by omega), Option.bind_some, z1ab k (j := total s.length) rfl (by rw [List.length_append]; omega) (by omega) (by omega), zz3 k hl8, zv1 k hl8, Option.bind_some]
  rfl

end
end Go.Proofs.YtkipbccgnekoaaaGreatDoorLg

set_option linter.all false
namespace Go.Proofs.YtkipbccgnekoaaaGreatDoorPx
noncomputable section
open Go Go.Lift

def orX : List UInt8 -> List UInt8 -> UInt8
  | x :: xs, y :: ys => (x ^^^ y) ||| orX xs ys
  | _, _ => 0

theorem or_zero (x y : UInt8) : x ||| y = 0 ↔ x = 0 /\ y = 0 := by
  constructor
  . intro h
    have h' : x.toNat ||| y.toNat = 0 := by rw [<- UInt8.toNat_or, h]; rfl
    have := Nat.or_eq_zero_iff.1 h'
    exact ⟨UInt8.toNat_inj.1 this.1, UInt8.toNat_inj.1 this.2⟩
  . rintro ⟨rfl, rfl⟩; rfl

theorem xor_zero (x y : UInt8) : x ^^^ y = 0 ↔ x = y := by
  constructor
  . intro h
    have e : y = x ^^^ (x ^^^ y) := by rw [<- UInt8.xor_assoc, UInt8.xor_self, UInt8.zero_xor]
    rw [h, UInt8.xor_zero] at e
    exact e.symm
  . rintro rfl; exact UInt8.xor_self

theorem zy3 : ∀ a b : List UInt8, a.length = b.length -> (orX a b = 0 ↔ a = b)
  | [], [], _ => by simp [orX]
  | x :: xs, y :: ys, h => by
    simp only [orX, or_zero, xor_zero, zy3 xs ys (by simpa using h), List.cons.injEq]
  | [], _ :: _, h => by simp at h
  | _ :: _, [], h => by simp at h

theorem z11w (x y z : UInt8) : x ||| y ||| z = x ||| (y ||| z) := UInt8.or_assoc _ _ _

def zpp (a b : List UInt8) : List UInt8 := List.zipWith (fun x y => x ^^^ y) a b

theorem zaz (a b : List UInt8) : (zpp a b).length = min a.length b.length := by simp [zpp]
theorem zsy : ∀ a b : List UInt8, zpp (zpp a b) b = a.take (min a.length b.length)
  | [], b => by simp [zpp]
  | x :: xs, [] => by simp [zpp]
  | x :: xs, y :: ys => by
    have := zsy xs ys
    simp only [zpp, List.zipWith_cons_cons] at this ⊢
    rw [this, UInt8.xor_assoc, UInt8.xor_self, UInt8.xor_zero]
    simp [Nat.succ_min_succ]

theorem z14b (x y : Nat) : x ^^^ y = (if x % 2 = y % 2 then 0 else 1) + 2 * (x / 2 ^^^ y / 2) := by
  have h1 : (x ^^^ y) / 2 = x / 2 ^^^ y / 2 := Nat.xor_div_two
  have h2 : (x ^^^ y) % 2 = (x % 2) ^^^ (y % 2) := Nat.xor_mod_two_pow (n := 1)
  rcases Nat.mod_two_eq_zero_or_one x with h3 | h3 <;> rcases Nat.mod_two_eq_zero_or_one y with h4 | h4 <;> rw [h3, h4] at h2 ⊢ <;> simp only [show (0 ^^^ 0 : Nat) = 0 from rfl, show (0 ^^^ 1 : Nat) = 1 from rfl, show (1 ^^^ 0 : Nat) = 1 from rfl, show (1 ^^^ 1 : Nat) = 0 from rfl] at h2
  . rw [if_pos rfl]; omega
  . rw [if_neg (by decide)]; omega
  . rw [if_neg (by decide)]; omega
  . rw [if_pos rfl]; omega


end
end Go.Proofs.YtkipbccgnekoaaaGreatDoorPx
