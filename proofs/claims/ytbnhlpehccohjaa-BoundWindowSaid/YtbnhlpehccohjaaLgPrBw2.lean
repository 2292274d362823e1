import Derived.Test.YtbnhlpehccohjaaLgPrBw1
import Derived.Test.YtbnhlpehccohjaaLgW
import Derived.Shelf.SlicesE.Clone
import Derived.Below
import Derived.WalkKit
import Derived.OwnWalk
import Derived.Shelf.RegionOpenPlain
import Derived.Deep.LoopGhost
import Derived.Lib.Walk
import Derived.Lib.SliceRun
set_option linter.all false
namespace Go.Lift
noncomputable section
open Go Go.Shelf Go.Proofs Go.Lib Go.RowKit

set_option maxHeartbeats 2000000 in
set_option maxRecDepth 100000 in
theorem zpk {P : Program} {ρ : Ren} (L : SlLaysE0.n41 P ρ) (i0 : TypeInfo) (z : Value) (size bytes : Nat) (hi : P.info? (ρ.t 23) = some i0) (hz0 : i0.zero = some z) (hz1 : i0.size = size) (hz2 : i0.bytes = bytes)
    (hzs : z.cells.size = size) (hsz : 0 < size) (z23 : ∀ w, (Go.sizeOf (ρ.t 23)).run P w = .ok size w) (ad : Addr) (n c : Nat) (news : List Value) (w : World) (hl : news.length = n * size) (hn : n <= maxLen) (hbig : n * bytes <= 140737488355328)
    (hc : ∀ j u, news[j]? = some u -> w.cell? (ad.add j) = some u) (h1 : ∀ u ∈ news, u.oneCell' = true) :
    Calls P (ρ.f 41) #[.slice (some ad) n c] w fun e w' => ∃ v', e = .returned v' /\ w'.ownsRow w.heap.size (ρ.t 23) size v' n news /\ Below w.heap.size w w' := by
  have mixed := L.mixed; have t4 := L.t4; have a4 := L.a4; have z4 := L.z4; have v4 := L.v4; have t22 := L.t22; have a22 := L.a22; have z22 := L.z22; have v22 := L.v22
  have q22 : ∀ (w : World) (a : Option Addr) (n c n' c' : Nat), (binOp .eql (ρ.t 22) (.slice a n c) (.slice none n' c')).run P w = .ok (.bool a.isNone) w := fun w a n c n' c' => Lib.run_eql_slice_nil w _ _ a n c n' c' L.t22
  have u22 : ∀ w, Sem.run P (underlying (ρ.t 22)) w = .ok (TypeDesc.slice (ρ.t 23)) w := run_underlying t22
  have A : Aside (∀ j u, news[j]? = some u -> w.cell? (ad.add j) = some u) := hc
  clear hc
  obtain ⟨_, _, FG⟩ := L.f41
  go_enter FG, SlBodyN.n41_ntmps ρ
  go_wp2_with (at_builtin; go_loud (refine wpList_append_own _ rfl _ _ (ρ.t 22) rfl w.heap.size (ρ.t 23) i0 z size bytes t22 hi hz0 hz1 hz2 hzs hsz _ _ _ rfl (World.ownsRow_made w #[] 0 (Nat.le_refl _) (Nat.zero_le _) (by simp)) ad n c news rfl ?k1 ?k2 ?k3 ?k4 ?k5 ?k6 ?_))
  case k1 => exact hl
  case k2 => exact fun j u hj => Lib.cell?_alloc_some _ (A.out j u hj)
  case k3 => exact h1
  case k4 => rw [Nat.zero_add]; exact hn
  case k5 => rw [Nat.zero_add]; exact hbig
  case k6 => simp
  intro v' w1 hown hgrow hnil
  go_wp2
  go_ret
  exact ⟨v', rfl, by simpa using hown, ((Below.refl _ w).alloc (Nat.le_refl _) _).grown hgrow (by simp) (by intro k hk; simp [Value.ownBlock] at hk; omega)⟩

def zzr (ee : TyI) (x : z1j [(0, .v (.sl ee.t))]) : Option (List ee.t.den) :=
 cond (decide (x.1.length * ee.bytes <= 140737488355328)) (some x.1) none

def zzq (ee : TyI) : List A -> Res := z17 [(0, .v (.sl ee.t))] (zzr ee) (z5v (.row ee.t) 1)

set_option maxHeartbeats 1000000 in
theorem z11a {P : Program} {ρ : Ren} (L : SlLaysE0.n41 P ρ) {ee : TyI} (hok : TyOk P (ρ.t 23) ee) (hs0 : 0 < ee.size) (hb0 : 0 < ee.bytes) (glob : Nat -> Option Dat) : Contract P glob (ρ.f 41) (zzq ee) := by
  have hfn : ∃ fn, P.funcs[ρ.f 41]? = some fn /\ fn.body.isSome = true /\ fn.name ≠ "runtime.NumGoroutine" := by
    obtain ⟨nm, h1, h2⟩ := L.f41
    exact ⟨_, h2, rfl, by simpa using h1⟩
  refine Contract.hand hfn ?_
  intro w S vals ob x y har hS hg hy
  obtain ⟨xs, u⟩ := x
  cases u
  unfold zzr at hy
  dsimp only at hy xs
  by_cases hbig : xs.length * ee.bytes <= 140737488355328
  case neg => rw [show decide (xs.length * ee.bytes <= 140737488355328) = false from decide_eq_false hbig] at hy; cases hy
  rw [show decide (xs.length * ee.bytes <= 140737488355328) = true from decide_eq_true hbig] at hy
  simp only [cond] at hy
  have hy := Option.some.inj hy
  subst hy
  obtain ⟨⟨v0, hv0, hA0, ho0⟩, _⟩ := har.rel 0 _ rfl
  have hlen := har.len
  obtain ⟨u0, rfl⟩ : ∃ u0, vals = [u0] := by
    have : vals.length = 1 := by simpa [mkS, z83] using hlen.symm
    match vals, this with
    | [a], _ => exact ⟨a, rfl⟩
  simp at hv0
  subst hv0
  have hnone : ∀ i, ob i = [] := by
    intro i
    match i with
    | 0 => exact ho0
    | i + 1 => exact har.out _ (by simp [mkS, z83])
  obtain ⟨a, cap, rfl, hcap, hm⟩ := VR.sl_inv hA0
  obtain ⟨inf, hi1, hi2, hi3, z, hi4, hi5⟩ := hok.info
  have hzs : z.cells.size = ee.size := by
    have := (VR.cells hi5).length
    rw [hok.size] at this
    simpa using this
  have z23 : ∀ w, (Go.sizeOf (ρ.t 23)).run P w = .ok ee.size w := fun w => zo hok
  have hmax : xs.length <= maxLen := by
    have : xs.length <= xs.length * ee.bytes := Nat.le_mul_of_pos_right _ hb0
    unfold maxLen
    omega
  -- how it ends
  have fin : ∀ (w' : World) (v' : Value) (news : List Value), All (Rd S ee.t) xs news -> w'.ownsRow w.heap.size (ρ.t 23) ee.size v' xs.length news -> Below w.heap.size w w' →
      Lift.Ends w S (mkS [(0, .v (.sl ee.t))] 0 (xs, ())) [.slice a xs.length cap] ob (z5v (.row ee.t) 1 xs).1 (z5v (.row ee.t) 1 xs).2 (.returned v') w' := by
    intro w' v' news hall hown hb
    have hSw : Lift.Sub S (hp w') := fun k o hk => by
      have h3 := hS k o hk
      have := hb.block k (z4g h3)
      simp only [hp] at h3 ⊢
      rw [this]; exact h3
    have hWF : WF w (fun b => ∃ i, b ∈ ob i) w' := ⟨hb.size, fun k hk _ => hb.block k hk, hb.tape, hb.os, hb.output⟩
    have hbox : ∀ i z, (mkS [(0, AS.v (.sl ee.t))] 0 (xs, ()))[i]? = some z -> z5o z = true -> ∃ x' v, (z5v (.row ee.t) 1 xs).2[i]? = some x' /\ [Value.slice a xs.length cap][i]? = some v /\ z5o x' = true /\ ARel (hp w') S (fun _ => undef) x' v (ob i) := by
      intro i z hz hbx
      match i with
      | 0 => simp [mkS, z83, AS.mk] at hz; subst hz; cases hbx
      | i + 1 => simp [mkS, z83] at hz
    rcases hown.2 with ⟨rfl, hn⟩ | ⟨g, cap', cur, rfl, hg1, hg2, hg3, hg4, hg5, hg6⟩
    . have : xs = [] := List.length_eq_zero_iff.1 hn
      exact ⟨_, S, [], ob, rfl, hWF, Lift.Sub.refl _, hSw, fun k hk => .inl hk, ⟨.inl ⟨this, ⟨none, rfl, fun _ _ => rfl⟩, rfl⟩, rfl⟩, (fun k hk => by cases hk), .nil, hbox,
        fun i k hk => (by rw [hnone i] at hk; cases hk), fun i j k hk => (by rw [hnone i] at hk; cases hk), fun i => (by rw [hnone i]; exact .nil), fun i hi => hi⟩
    . refine ⟨_, S, [g], ob, rfl, hWF, Lift.Sub.refl _, hSw, fun k hk => .inl hk, ⟨.inr ⟨g, cap', cur, ρ.t 23, (0, 0), rfl, rfl, hg2, fun i _ => by omega, by rw [hg5, hok.size], hg3, ?_, fun q hq => absurd hq (hok.notByt q)⟩, rfl⟩, (fun k hk => ?_), by simp, hbox,
        fun i k hk => (by rw [hnone i] at hk; cases hk), fun i j k hk => (by rw [hnone i] at hk; cases hk), fun i => (by rw [hnone i]; exact .nil), fun i hi => hi⟩
      . rw [hok.size, hg6]; exact hall
      . simp at hk; subst hk
        refine ⟨?_, .inr hg1⟩
        cases hSk : S k with
        | none => rfl
        | some o => exact absurd (z4g (hS k o hSk)) (by omega)
  cases a with
  | none =>
    have hx0 : xs = [] := by
      rcases hm with h | ⟨b, off, c1, h, _⟩
      . exact h
      . cases h
    subst hx0
    refine (AnyE.slices_Clone_nil L 0 cap w).mono ?_
    rintro e w' ⟨rfl, rfl⟩
    exact fin w' _ [] rfl ⟨by simp, .inl ⟨rfl, rfl⟩⟩ (Below.refl _ _)
  | some ad =>
    rcases hm with hx0 | ⟨b, off, c1, hae, hl, hall⟩
    . subst hx0
      refine (zpk L inf z ee.size ee.bytes hi1 hi4 hi2 hi3 hzs hs0 z23 ad 0 cap [] w (by simp) (Nat.zero_le _) (by simp) (fun j u hj => by simp at hj) (fun u hu => by cases hu)).mono ?_
      rintro e w' ⟨v', rfl, hown, hb⟩
      exact fin w' v' [] rfl hown hb
    . cases hae
      have hcl : c1.length = xs.length * ee.size := by rw [All.length (Rd.length ee.t) _ _ hall, hok.size]
      obtain ⟨all, E, fr, c0, c2, hSb, hal, hoff⟩ := hl
      have hwb := hS _ _ hSb
      refine (zpk L inf z ee.size ee.bytes hi1 hi4 hi2 hi3 hzs hs0 z23 ⟨b, off, none⟩ xs.length cap c1 w hcl hmax hbig (fun j u hj => ?_) (All.cells (Rd.ones ee.t) _ _ hall)).mono ?_
      . rw [Addr.add_lit]
        simp only [World.cell?, show w.heap[b]? = _ from hwb]
        rw [<- Array.getElem?_toList, hal, <- hoff, List.getElem?_append_right (by omega)]
        have hjl : j < c1.length := (List.getElem?_eq_some_iff.1 hj).1
        rw [List.getElem?_append_left (by omega), show c0.length + j - c0.length = j by omega]
        exact hj
      . rintro e w' ⟨v', rfl, hown, hb⟩
        exact fin w' v' c1 hall hown hb

end
end Go.Lift

set_option linter.all false
set_option maxRecDepth 100000
namespace Go.Lift
noncomputable section

theorem ztr {P : Program} {E : Env} (hb : EnvOk P E) {w : World} {S : Hp} {t ki : TypeId} {ke ve : TyI} (hm : zqr E t = some (ki, ke, ve)) {kv : Value} {key : ke.t.den} (hkv : VR S ke.t key kv) {b : Nat} {es : Array MapEntry} {cl : Nat} (e4 : hp w b = some (.map es cl)) {xs : List (ke.t.den × ve.t.den)} (e5 : Ents S ke.t ve.t xs es.toList) :
    ∃ u, VR S ve.t ((z40 (eqD ke.t) key xs).getD ve.zero) u /\ (Instr.lookup t (.map (some b)) kv true).run P w = .ok (.tuple #[u, .bool (z40 (eqD ke.t) key xs).isSome]) w := by
  obtain ⟨vi, hu, hke, hve, hkt, hkd, hno, hkq⟩ := z7l hb hm
  obtain ⟨z, hz, hzv⟩ := z2o (P := P) (w := w) (hb.ty _ _ hve)
  have hc := (zmw (P := P) (w := w) hb (S := S) es.isEmpty ke.t).1 ki 9999 key kv hkq hkd hkv
  obtain ⟨r, hr, hF⟩ := z6j (P := P) (w := w) hb hkq hkt hkd hkv e5
  rcases hF with ⟨rfl, e2⟩ | ⟨x1, y, x2, l1, e', l2, g1, g2, g3, g4, g5, g6, g7, g8, g9, rfl⟩
  . refine ⟨z, by rw [z9g e2]; exact hzv.mono (z8f _), ?_⟩
    rw [z9g e2]
    simp [Instr.lookup, run_underlying hu, z27 e4, hc, hr, hz]
  . refine ⟨e'.val, by rw [g1, z9f g5 g4]; exact g8, ?_⟩
    rw [g1, z9f g5 g4]
    simp [Instr.lookup, run_underlying hu, z27 e4, hc, hr, hz]

theorem ztp {P : Program} {E : Env} (hb : EnvOk P E) {w : World} {S : Hp} {t ki : TypeId} {ke ve : TyI} (hm : zqr E t = some (ki, ke, ve)) {kv vv : Value} {key : ke.t.den} {val : ve.t.den} (hkv : VR S ke.t key kv) (hvv : VR S ve.t val vv) {b : Nat} {es : Array MapEntry} {cl : Nat} (e4 : hp w b = some (.map es cl)) {xs : List (ke.t.den × ve.t.den)} (e5 : Ents S ke.t ve.t xs es.toList)
    (e6 : (es.toList.map (·.born)).Nodup) (e7 : ∀ e ∈ es.toList, e.born < cl) :
    ∃ (es' : Array MapEntry) (cl' : Nat), (Instr.mapUpdate t (.map (some b)) kv vv).run P w = .ok () (zu w b (.map es' cl')) /\ Ents S ke.t ve.t (znh (eqD ke.t) key val xs) es'.toList /\ (es'.toList.map (·.born)).Nodup /\ (∀ e ∈ es'.toList, e.born < cl') := by
  obtain ⟨vi, hu, hke, hve, hkt, hkd, hno, hkq⟩ := z7l hb hm
  have hc := (zmw (P := P) (w := w) hb (S := S) false ke.t).1 ki 9999 key kv hkq hkd hkv
  obtain ⟨r, hr, hF⟩ := z6j (P := P) (w := w) hb hkq hkt hkd hkv e5
  have hset := fun (es' : Array MapEntry) (cl' : Nat) => z91 (P := P) (w := w) (b := b) (o := .map es' cl') e4 (fun cs E fr h => by cases h)
  rcases hF with ⟨f1, f2⟩ | ⟨x1, y', x2, l1, e', l2, g1, g2, g3, g4, g5, g6, g7, g8, g9, g10⟩
  . subst f1
    refine ⟨es.push { key := kv, val := vv, born := cl }, cl + 1, ?_, ?_, ?_, ?_⟩
    . simp [Instr.mapUpdate, run_underlying hu, z27 e4, hc, hr, hset]
    . rw [zl5 f2, Array.toList_push]
      exact e5.append ⟨_, [], rfl, hkv, hvv, rfl⟩
    . rw [Array.toList_push, List.map_append, List.nodup_append]
      refine ⟨e6, by simp, fun x hx z hz e => ?_⟩
      simp at hz
      subst e; subst hz
      rw [List.mem_map] at hx
      obtain ⟨e0, he0, rfl⟩ := hx
      exact absurd (e7 e0 he0) (Nat.lt_irrefl _)
    . intro e he
      rw [Array.toList_push, List.mem_append] at he
      rcases he with he | he
      . exact Nat.lt_succ_of_lt (e7 e he)
      . simp at he; subst he; exact Nat.lt_succ_self _
  . subst g10
    have hkeys : e'.key = kv := by
      have := zst _ _ _ hkt g5
      rw [<- this] at g7
      exact zvk hkt g7 hkv
    have hat : es[x1.length]? = some e' := by
      rw [<- Array.getElem?_toList, g2, <- g3, List.getElem?_append_right (Nat.le_refl _), Nat.sub_self]; rfl
    have hst := zry (P := P) (w := w) hkt hkv
    have hml : (es.modify x1.length fun e => { e with key := kv, val := vv }).toList = l1 ++ { e' with key := kv, val := vv } :: l2 := by
      rw [Array.toList_modify, g2, <- g3, zi5]
    refine ⟨es.modify x1.length fun e => { e with key := kv, val := vv }, cl, ?_, ?_, ?_, ?_⟩
    . simp only [Nat.zero_add] at hr
      simp [Instr.mapUpdate, run_underlying hu, z27 e4, hc, hr, hat, hkeys, hst, hset]
    . rw [hml, g1, zl4 g5 g4]
      exact g6.append ⟨_, l2, rfl, hkv, hvv, g9⟩
    . rw [hml]
      rw [g2] at e6
      simpa using e6
    . rw [hml]
      rw [g2] at e7
      intro e he
      rw [List.mem_append, List.mem_cons] at he
      rcases he with he | rfl | he
      . exact e7 e (by simp [he])
      . exact e7 e' (by simp)
      . exact e7 e (by simp [he])


def BSt (t : T) (w0 : World) (S0 : Hp) (ob0 : List Nat) (bf : Nat) (w : World) (x : t.den) (L : List (Nat × Array Value × Nat)) : Prop :=
 ∃ S o, WF w0 (fun k => k ∈ ob0) w /\ Sub S0 S /\ Sub S (hp w) /\ (∀ k, S k ≠ none -> S0 k ≠ none \/ k ∈ ob0 \/ w0.heap.size <= k) /\ ARel (hp w) S (fun _ => undef) (.box t x) (.pointer (some ⟨bf, 0, none⟩)) o /\ o.Nodup ∧
 (∀ k ∈ o, S k = none /\ (k ∈ ob0 \/ w0.heap.size <= k)) /\ ∀ p ∈ L, S p.1 = none /\ p.1 ∉ o /\ w0.heap.size <= p.1 /\ w.heap[p.1]? = some (.cells p.2.1 p.2.2 (0, 0))

variable {P : Program} {glob : Nat -> Option Dat} {t : T} {w0 w : World} {S0 : Hp} {ob0 : List Nat} {bf : Nat} {x : t.den} {L : List (Nat × Array Value × Nat)}

theorem BSt.lt (h : BSt t w0 S0 ob0 bf w x L) : ∀ p ∈ L, p.1 < w.heap.size := by
  obtain ⟨S, o, _, _, _, _, _, _, _, hL⟩ := h
  exact fun p hp => (Array.getElem?_eq_some_iff.1 (hL p hp).2.2.2).1

theorem BSt.drew (h : BSt t w0 S0 ob0 bf w x L) : BSt t w0 S0 ob0 bf w.drew x L := by
  obtain ⟨S, o, k1, k2⟩ := h
  exact ⟨S, o, ⟨k1.size, k1.same, k1.tape, k1.os, k1.output⟩, k2⟩

theorem BSt.swap {L' : List (Nat × Array Value × Nat)} (h : BSt t w0 S0 ob0 bf w x L) (hm : ∀ p ∈ L', p ∈ L) : BSt t w0 S0 ob0 bf w x L' := by
  obtain ⟨S, o, h1, h2, h3, h4, h5, h6, h7, hL⟩ := h
  exact ⟨S, o, h1, h2, h3, h4, h5, h6, h7, fun p hp => hL p (hm p hp)⟩

theorem BSt.cell (h : BSt t w0 S0 ob0 bf w x L) {p : Nat} {cs : Array Value} {E i : Nat} {v : Value} (hm : (p, cs, E) ∈ L) (hi : cs[i]? = some v) : w.cell? ⟨p, i, none⟩ = some v := by
  obtain ⟨S, o, _, _, _, _, _, _, _, hL⟩ := h
  have := (hL _ hm).2.2.2
  simp only at this
  simp [World.cell?, this, hi]

theorem BSt.free (h : BSt t w0 S0 ob0 bf w x L) {p : Nat} {cs : Array Value} {E i : Nat} (hm : (p, cs, E) ∈ L) : w.frozen? ⟨p, i, none⟩ = false := by
  obtain ⟨S, o, _, _, _, _, _, _, _, hL⟩ := h
  have := (hL _ hm).2.2.2
  simp only at this
  simp [World.frozen?, this]

theorem zzy {w' : World} {x' : t.den} {S S' : Hp} {o o' : List Nat} (h1 : WF w0 (fun k => k ∈ ob0) w) (h2 : Sub S0 S) (h4 : ∀ k, S k ≠ none -> S0 k ≠ none \/ k ∈ ob0 \/ w0.heap.size <= k)
    (h7 : ∀ k ∈ o, S k = none /\ (k ∈ ob0 \/ w0.heap.size <= k)) (hL : ∀ p ∈ L, S p.1 = none /\ p.1 ∉ o /\ w0.heap.size <= p.1 /\ w.heap[p.1]? = some (.cells p.2.1 p.2.2 (0, 0)))
    (k1 : WF w (fun k => k ∈ o) w') (k2 : Sub S S') (k3 : Sub S' (hp w')) (k4 : ∀ k, S' k ≠ none -> S k ≠ none \/ k ∈ o \/ w.heap.size <= k) (k5 : ARel (hp w') S' (fun _ => undef) (.box t x') (.pointer (some ⟨bf, 0, none⟩)) o')
    (k6 : o'.Nodup) (k7 : ∀ k ∈ o', S' k = none /\ (k ∈ o \/ w.heap.size <= k)) : BSt t w0 S0 ob0 bf w' x' L := by
  refine ⟨S', o', h1.trans k1 (fun k hk => (h7 k hk).2), h2.trans k2, k3, fun k hk => ?_, k5, k6, fun k hk => ⟨(k7 k hk).1, ?_⟩, fun p hp => ?_⟩
  . rcases k4 k hk with h | h | h
    . exact h4 k h
    . exact .inr (h7 k h).2
    . exact .inr (.inr (Nat.le_trans h1.size h))
  . rcases (k7 k hk).2 with h | h
    . exact (h7 k h).2
    . exact .inr (Nat.le_trans h1.size h)
  . obtain ⟨p1, p2, p3, p4⟩ := hL p hp
    have hl := (Array.getElem?_eq_some_iff.1 p4).1
    refine ⟨?_, fun hk => ?_, p3, ?_⟩
    . cases hs : S' p.1 with
      | none => rfl
      | some q =>
        rcases k4 p.1 (by rw [hs]; simp) with h | h | h
        . exact absurd p1 h
        . exact absurd h p2
        . omega
    . rcases (k7 _ hk).2 with h | h
      . exact p2 h
      . omega
    . rw [k1.same p.1 hl p2]; exact p4

theorem BSt.plain {f : FuncId} {g : List A -> Res} (ct : Contract P glob f g) (hg : ∀ S, GlobOk glob S) (h : BSt t w0 S0 ob0 bf w x L) {args : List A} {vals : List Value}
    (hrel : ∀ S, Sub S (hp w) -> ArgsRel (hp w) S args vals (fun _ => [])) {y : (g args).X} (hy : (g args).val = some y) :
    Calls P f vals.toArray w fun e w' => ∃ v S' o', e = .returned v /\ ARel (hp w') S' (fun _ => undef) ((g args).out y).1 v o' /\ BSt t w0 S0 ob0 bf w' x L := by
  have h' := h
  obtain ⟨S, o, h1, h2, h3, h4, h5, h6, h7, hL⟩ := h'
  refine ((ct.2 w S args vals _ (hrel S h3) h3 (hg S) y hy)).mono ?_
  rintro e w' ⟨v, S', q, ob', rfl, hwf, hSS, hSw, hnew, ⟨hr, _⟩, _⟩
  refine ⟨v, S', q, rfl, hr, ?_⟩
  have hwf' : WF w (fun _ => False) w' := ⟨hwf.size, fun k hk _ => hwf.same k hk (by rintro ⟨i, hi⟩; cases hi), hwf.tape, hwf.os, hwf.output⟩
  have hlt : ∀ k ∈ o, k < w.heap.size := fun k hk => by
    obtain ⟨ob, hob⟩ := h5.obj k hk
    exact (Array.getElem?_eq_some_iff.1 hob.1).1
  have hnw : ∀ k, k < w.heap.size -> S' k ≠ none -> S k ≠ none := fun k hk hs => by
    rcases hnew k hs with h | ⟨i, hi⟩ | h
    . exact h
    . cases hi
    . omega
  refine ⟨S', o, h1.trans hwf' (fun _ h => h.elim), h2.trans hSS, hSw, fun k hk => ?_, ?_, h6, fun k hk => ⟨?_, (h7 k hk).2⟩, fun p hp => ?_⟩
  . rcases hnew k hk with h | ⟨i, hi⟩ | h
    . exact h4 k h
    . cases hi
    . exact .inr (.inr (Nat.le_trans h1.size h))
  . obtain ⟨b, cs, E, fr, bs, rfl, e1, e2, e3, e4⟩ := h5
    refine ⟨b, cs, E, fr, bs, rfl, e1, ?_, e3, e4.mono hSS _ _ _ _ (fun k hk => hwf'.same k (hlt k (by simp [hk])) (fun h => h))⟩
    have := hwf'.same b (hlt b (by simp)) (fun h => h)
    simp only [hp] at e2 ⊢
    rw [this]; exact e2
  . cases hs : S' k with
    | none => rfl
    | some q => exact absurd (h7 k hk).1 (hnw k (hlt k hk) (by rw [hs]; simp))
  . obtain ⟨p1, p2, p3, p4⟩ := hL p hp
    have hl := (Array.getElem?_eq_some_iff.1 p4).1
    refine ⟨?_, p2, p3, ?_⟩
    . cases hs : S' p.1 with
      | none => rfl
      | some q => exact absurd p1 (hnw _ hl (by rw [hs]; simp))
    . rw [hwf'.same p.1 hl (fun h => h)]; exact p4

theorem zvw {S : Hp} {v : Value} {o : List Nat} {args : List A} {vals : List Value} (h5 : ARel (hp w) S (fun _ => undef) (.box t x) v o) (h6 : o.Nodup) (h7 : ∀ k ∈ o, S k = none) (hr0 : ArgsRel (hp w) S args vals (fun _ => [])) :
    ArgsRel (hp w) S (.box t x :: args) (v :: vals) (fun i => if i = 0 then o else []) := by
  refine ⟨by simp [hr0.len], fun i q hq => ?_, fun i hi => ?_, fun i j b hi hj => ?_, fun i => ?_, fun i b hb => ?_⟩
  . cases i with
    | zero =>
      simp at hq; subst hq
      exact ⟨⟨_, rfl, by simpa using h5⟩, rfl⟩
    | succ i =>
      obtain ⟨⟨v, hv, ha⟩, hrf⟩ := hr0.rel i q (by simpa using hq)
      exact ⟨⟨v, by simpa using hv, by simpa using ha⟩, hrf⟩
  . rw [if_neg (by intro e; subst e; simp at hi)]
  . by_cases hi0 : i = 0 <;> by_cases hj0 : j = 0 <;> simp_all
  . by_cases hi0 : i = 0 <;> simp [hi0, h6]
  . by_cases hi0 : i = 0
    . rw [if_pos hi0] at hb; exact h7 b hb
    . rw [if_neg hi0] at hb; cases hb

theorem BSt.boxed {f : FuncId} {g : List A -> Res} (ct : Contract P glob f g) (hg : ∀ S, GlobOk glob S) (h : BSt t w0 S0 ob0 bf w x L) {args : List A} {vals : List Value}
    (hrel : ∀ S, Sub S (hp w) -> ArgsRel (hp w) S args vals (fun _ => [])) {y : (g (.box t x :: args)).X} (hy : (g (.box t x :: args)).val = some y) {x' : t.den} (ho : ((g (.box t x :: args)).out y).2[0]? = some (.box t x')) :
    Calls P f (.pointer (some ⟨bf, 0, none⟩) :: vals).toArray w fun e w' => ∃ v S' o', e = .returned v /\ ARel (hp w') S' (fun _ => undef) ((g (.box t x :: args)).out y).1 v o' /\ BSt t w0 S0 ob0 bf w' x' L := by
  have h' := h
  obtain ⟨S, o, h1, h2, h3, h4, h5, h6, h7, hL⟩ := h'
  have har := zvw h5 h6 (fun k hk => (h7 k hk).1) (hrel S h3)
  refine ((ct.2 w S _ _ _ har h3 (hg S) y hy)).mono ?_
  rintro e w' ⟨v, S', q, ob', rfl, hwf, hSS, hSw, hnew, ⟨hr, _⟩, hq, _, hbox, hob1, hob2, hob3, _⟩
  have hin : ∀ k, (∃ i, k ∈ (fun i => if i = 0 then o else []) i) -> k ∈ o := by
    rintro k ⟨i, hi⟩
    by_cases hi0 : i = 0
    . simpa [hi0] using hi
    . simp [hi0] at hi
  refine ⟨v, S', q, rfl, hr, ?_⟩
  obtain ⟨x2, v2, g1, g2, _, g4⟩ := hbox 0 _ rfl rfl
  rw [ho] at g1
  cases g1
  simp at g2
  subst g2
  refine zzy h1 h2 h4 h7 hL ⟨hwf.size, fun k hk hn => hwf.same k hk (fun hh => hn (hin k hh)), hwf.tape, hwf.os, hwf.output⟩ hSS hSw (fun k hk => ?_) g4 (hob3 0) (fun k hk => ⟨(hob1 0 k hk).2.1, ?_⟩)
  . rcases hnew k hk with h | h | h
    . exact .inl h
    . exact .inr (.inl (hin k h))
    . exact .inr (.inr h)
  . rcases (hob1 0 k hk).1 with h | h
    . exact .inl (hin k h)
    . exact .inr h

theorem BSt.alloc (h : BSt t w0 S0 ob0 bf w x L) (cs : Array Value) (E : Nat) : BSt t w0 S0 ob0 bf (w.alloc (.cells cs E)) x ((w.heap.size, cs, E) :: L) := by
  have hlt := h.lt
  obtain ⟨S, o, h1, h2, h3, h4, h5, h6, h7, hL⟩ := h
  have hh : (w.alloc (.cells cs E)).heap = w.heap.push (.cells cs E (0, 0)) := rfl
  have hk : ∀ k, k < w.heap.size -> (w.alloc (.cells cs E)).heap[k]? = w.heap[k]? := fun k hk => by
    rw [hh, Array.getElem?_push, if_neg (by omega)]
  have hol : ∀ k ∈ o, k < w.heap.size := fun k hk => by
    obtain ⟨ob, hob⟩ := h5.obj k hk
    exact (Array.getElem?_eq_some_iff.1 hob.1).1
  refine ⟨S, o, ⟨by rw [hh, Array.size_push]; have := h1.size; omega, fun k h1' h2' => by rw [hk k (by have := h1.size; omega)]; exact h1.same k h1' h2', h1.tape, h1.os, h1.output⟩, h2, fun k q ho => ?_, h4, ?_, h6, h7, fun p hpm => ?_⟩
  . have := h3 k q ho
    simp only [hp] at this ⊢
    rw [hk k (Array.getElem?_eq_some_iff.1 this).1]
    exact this
  . obtain ⟨b, c1, E', fr, bs, rfl, e1, e2, e3, e4⟩ := h5
    refine ⟨b, c1, E', fr, bs, rfl, e1, ?_, e3, e4.mono (Sub.refl _) _ _ _ _ (fun k hkm => hk k (hol k (by simp [hkm])))⟩
    simp only [hp] at e2 ⊢
    rw [hk b (hol b (by simp))]; exact e2
  . rcases List.mem_cons.1 hpm with rfl | hpm
    . refine ⟨?_, fun hm => absurd (hol _ hm) (by simp), h1.size, ?_⟩
      . cases hs : S w.heap.size with
        | none => rfl
        | some q =>
          have := h3 _ _ hs
          simp only [hp] at this
          have := (Array.getElem?_eq_some_iff.1 this).1
          omega
      . simp only
        rw [hh, Array.getElem?_push, if_pos rfl]
    . obtain ⟨p1, p2, p3, p4⟩ := hL p hpm
      exact ⟨p1, p2, p3, by rw [hk p.1 (hlt p hpm)]; exact p4⟩

theorem BSt.put {p : Nat} {cs : Array Value} {E : Nat} (h : BSt t w0 S0 ob0 bf w x ((p, cs, E) :: L)) (hd : ∀ q ∈ L, q.1 ≠ p) {w' : World} {cs' : Array Value} (hw : w' = zu w p (.cells cs' E (0, 0))) : BSt t w0 S0 ob0 bf w' x ((p, cs', E) :: L) := by
  obtain ⟨S, o, h1, h2, h3, h4, h5, h6, h7, hL⟩ := h
  obtain ⟨q1, q2, q3, q4⟩ := hL (p, cs, E) (List.mem_cons_self ..)
  simp only at q1 q2 q3 q4
  have hne : ∀ k, k ≠ p -> w'.heap[k]? = w.heap[k]? := fun k hk => by
    have := zf (w := w) (o := .cells cs' E (0, 0)) hk
    rw [hw]; exact this
  have hsz : w'.heap.size = w.heap.size := by rw [hw]; simp [zu]
  refine ⟨S, o, ⟨by rw [hsz]; exact h1.size, fun k h1' h2' => by rw [hne k (by omega)]; exact h1.same k h1' h2', by rw [hw]; exact h1.tape, by rw [hw]; exact h1.os, by rw [hw]; exact h1.output⟩, h2, fun k q ho => ?_, h4, ?_, h6, h7, fun u hu => ?_⟩
  . have hk : k ≠ p := fun e => by rw [e, q1] at ho; cases ho
    have := h3 k q ho
    simp only [hp] at this ⊢
    rw [hne k hk]
    exact this
  . obtain ⟨b, c1, E', fr, bs, rfl, e1, e2, e3, e4⟩ := h5
    refine ⟨b, c1, E', fr, bs, rfl, e1, ?_, e3, e4.mono (Sub.refl _) _ _ _ _ (fun k hkm => hne k (fun e => q2 (by simp [<- e, hkm])))⟩
    simp only [hp] at e2 ⊢
    rw [hne b (fun e => q2 (by simp [<- e]))]; exact e2
  . rcases List.mem_cons.1 hu with rfl | hu
    . refine ⟨q1, q2, q3, ?_⟩
      rw [hw]
      exact z1h q4
    . obtain ⟨p1, p2, p3, p4⟩ := hL u (List.mem_cons_of_mem _ hu)
      exact ⟨p1, p2, p3, by rw [hne u.1 (hd u hu)]; exact p4⟩

theorem BSt.setCell {p : Nat} {cs : Array Value} {E : Nat} (h : BSt t w0 S0 ob0 bf w x ((p, cs, E) :: L)) (hd : ∀ q ∈ L, q.1 ≠ p) (i : Nat) (v : Value) :
    BSt t w0 S0 ob0 bf (w.setCell ⟨p, i, none⟩ v) x ((p, cs.setIfInBounds i v, E) :: L) := by
  have hb : hp w p = some (.cells cs E (0, 0)) := by
    obtain ⟨S, o, _, _, _, _, _, _, _, hL⟩ := h
    exact (hL _ (List.mem_cons_self ..)).2.2.2
  exact h.put hd (zop v hb)

theorem BSt.start {args : List A} {vals : List Value} {ob : Nat -> List Nat} (har : ArgsRel (hp w) S0 (.box t x :: args) vals ob) (hS : Sub S0 (hp w)) :
    ∃ bf vs, vals = .pointer (some ⟨bf, 0, none⟩) :: vs /\ ob 0 ≠ [] /\ BSt t w S0 (ob 0) bf w x [] := by
  obtain ⟨⟨v, hv, hr⟩, _⟩ := har.rel 0 _ rfl
  have hr' := hr
  obtain ⟨b, cs, E, fr, bs, hob, rfl, _⟩ := hr'
  cases vals with
  | nil => cases hv
  | cons v vs =>
    cases hv
    exact ⟨b, vs, rfl, by rw [hob]; simp, S0, ob 0, WF.refl _ _, Sub.refl _, hS, fun _ h => .inl h, hr, har.nd 0, fun k hk => ⟨har.hid 0 k hk, .inl hk⟩, fun p hp => by cases hp⟩

theorem BSt.ends {args outs : List A} {vs : List Value} {ob : Nat -> List Nat} {x0 : t.den} {r : A} {v : Value} (h : BSt t w0 S0 (ob 0) bf w x L) (hob : ∀ i, ob (i + 1) = []) (hne : ob 0 ≠ []) (hargs : ∀ y ∈ args, z5o y = false)
    (hr : ∀ S', ARel (hp w) S' (fun _ => undef) r v []) (hrr : r.refs = []) : Ends w0 S0 (.box t x0 :: args) (.pointer (some ⟨bf, 0, none⟩) :: vs) ob r (.box t x :: outs) (.returned v) w := by
  obtain ⟨S, o, h1, h2, h3, h4, h5, h6, h7, hL⟩ := h
  have hz : ∀ k, (∃ i, k ∈ ob i) -> k ∈ ob 0 := by
    rintro k ⟨i, hi⟩
    cases i with
    | zero => exact hi
    | succ i => rw [hob i] at hi; cases hi
  refine ⟨v, S, [], fun i => if i = 0 then o else [], rfl, ⟨h1.size, fun k hk hn => h1.same k hk (fun hh => hn ⟨0, hh⟩), h1.tape, h1.os, h1.output⟩, h2, h3, fun k hk => ?_, ⟨hr S, hrr⟩, (fun k hk => by cases hk), .nil, ?_, ?_, ?_, ?_, ?_⟩
  . rcases h4 k hk with h | h | h
    . exact .inl h
    . exact .inr (.inl ⟨0, h⟩)
    . exact .inr (.inr h)
  . intro i y hy hbx
    cases i with
    | zero => exact ⟨_, _, rfl, rfl, rfl, by simpa using h5⟩
    | succ i =>
      have := hargs y (List.mem_of_getElem? (by simpa using hy))
      rw [hbx] at this; cases this
  . intro i k hk
    dsimp only at hk
    by_cases hi0 : i = 0
    . rw [if_pos hi0] at hk
      obtain ⟨g1, g2⟩ := h7 k hk
      refine ⟨?_, g1, by simp⟩
      rcases g2 with h | h
      . exact .inl ⟨0, h⟩
      . exact .inr h
    . rw [if_neg hi0] at hk; cases hk
  . intro i j k hi hj
    by_cases hi0 : i = 0 <;> by_cases hj0 : j = 0 <;> simp_all
  . intro i
    by_cases hi0 : i = 0 <;> simp [hi0, h6]
  . intro i hi
    by_cases hi0 : i = 0
    . subst hi0
      exact absurd hi hne
    . dsimp only; rw [if_neg hi0]

end
end Go.Lift
