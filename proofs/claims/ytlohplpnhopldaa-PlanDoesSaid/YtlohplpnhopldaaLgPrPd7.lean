import Derived.Test.YtlohplpnhopldaaLgPrPd6
set_option linter.all false
set_option maxRecDepth 100000
namespace Go.Proofs.YtlohplpnhopldaaLg
noncomputable section
open Go Go.Lift Go.Proofs.YtlohplpnhopldaaPx

theorem zzf {s : z62} (hr : z29 s = true) {x : z8j} (hx : x ∈ s.1) : ∃ j : Nat, atL s x.1 = (j : Int) /\ j < s.1.length /\ s.1.getD j zah = x /\ zw s x.1 = x := by
  obtain ⟨j, h1, h2, h3⟩ := zyu (i := 0) (z2m.1 hr).2.2 x hx
  rw [Nat.zero_add] at h1
  refine ⟨j, h1, h2, h3, ?_⟩
  unfold zw
  rw [show atL s x.1 = (j : Int) from h1, Int.toNat_natCast]
  exact h3

theorem zl3 (s : z62) (j : Nat) (t : z8j) : t ∈ (zpm s j t).1 := by
  unfold zpm; simp

theorem zl4 {s : z62} {j : Nat} (hj : j < s.1.length) (t : z8j) : (zpm s j t).1.length = s.1.length := by
  unfold zpm; simp only [List.length_append, List.length_cons, List.length_take, List.length_drop]; omega

structure Does (op : Int) (s : z62) (tn key : List UInt8) (num : Int) (t : z62) (y : z8j) : Prop where
  right : z29 t = true
  ex : ∃ x ∈ t.1, x.1 = tn ∧
    (op <= 2 -> x.2.2.2.1.length = y.2.2.2.1.length + 1 /\ x.2.1 = y.2.1 /\ (x.2.2.2.1.getD (x.2.2.2.1.length - 1) zve).2.1 = key) ∧
    (op = 3 -> (∀ k ∈ x.2.2.2.1, k.1 ≠ num) /\ x.2.2.2.1.length + 1 = y.2.2.2.1.length) ∧
    (op = 4 -> x.2.1 = y.2.1 + 1 /\ x.2.2.2.1.length = y.2.2.2.1.length)
  ser : (op < 5 -> t.2.1 = s.2.1) /\ (op = 5 -> t.2.1 = s.2.1 + 1)
  len : (op ≠ 1 -> t.1.length = s.1.length) /\ (op = 1 -> t.1.length = s.1.length + 1)

theorem zzh {s s1 s2 : z62} {e1 e2 : EvD} (h1 : z50 s e1 = (s1, (0, ()))) (h2 : z50 s1 e2 = (s2, (0, ()))) : zzm s [e1, e2] = (s2, (0, ())) := by
  rw [zzm, h1, if_pos rfl]
  exact zkx h2

theorem z4i {s s1 : z62} {e : EvD} (h : z50 s e = (s1, (0, ()))) : z29 s1 = true := by
  have := zu3 s e
  rw [h] at this
  exact this

theorem zzj {s : z62} (hr : z29 s = true) {t : z8j} (ht : t ∈ s.1) {nu : Int} {tx : List UInt8} (h1 : 1 <= nu) (h2 : nu < t.2.2.1) (h3 : ∀ k ∈ t.2.2.2.1, k.1 < nu) (h8 : t.2.2.2.1.length < 8) (h32 : tx.length = 32) :
    ∃ j, j < s.1.length /\ z50 s (evK t.1 nu tx) = (zpm s j (t.1, (t.2.1, (t.2.2.1, (t.2.2.2.1 ++ [(nu, (tx, ()))], ())))), (0, ())) := by
  obtain ⟨j, a1, a2, a3, a4⟩ := zzf hr ht
  have tp := z39 (z6e (z2m.1 hr).2.2 t ht)
  have hx := zdj.1 tp.2.2.1
  refine ⟨j, a2, z7o hr (z13d tp.1 (zdj.2 ⟨h1, by omega⟩) h32) ?_⟩
  have hkn : z7l (fun x : zhp => x.1 == nu) t.2.2.2.1 0 = -1 := zva _ _ 0 (fun y hy => by
    rw [beq_eq_false_iff_ne]; have := h3 y hy; omega)
  have ha : zej t.2.2.2.1 nu = t.2.2.2.1.length := by
    unfold zej
    exact zqy _ _ (fun y hy => decide_eq_true (h3 y hy))
  have hka : z2f t 2 nu tx = (0, t.2.2.2.1 ++ [(nu, (tx, ()))]) := by
    unfold z2f
    rw [if_pos rfl, if_neg (by omega), hkn, if_neg (by decide), if_neg (by omega), ha, List.take_length, List.drop_length, List.append_nil]
  rw [z12m, a1, a4, if_neg (by omega), Int.toNat_natCast, hka]

theorem zab : ∀ {l : List zhp} {nx a : Int}, z9e nx a l = true -> ∀ k ∈ l, k.1 < nx /\ a < k.1
  | [], _, _, _, k, hk => by cases hk
  | x :: l, nx, a, h, k, hk => by
    obtain ⟨g1, g2, g3, g4⟩ := z2s.1 h
    rcases List.mem_cons.1 hk with rfl | hk
    . exact ⟨g2, g1⟩
    . have := zab g4 k hk
      omega

theorem zru : ∀ {l : List zhp} {nx a : Int} (j : Nat) (hj : j < l.length), z9e nx a l = true -> ∀ k ∈ l.take j ++ l.drop (j + 1), k.1 ≠ (l.getD j zve).1
  | [], _, _, j, hj, _ => by cases hj
  | x :: l, nx, a, 0, _, h => by
    obtain ⟨g1, g2, g3, g4⟩ := z2s.1 h
    intro k hk
    have := zab g4 k (by simpa using hk)
    simp; omega
  | x :: l, nx, a, j + 1, hj, h => by
    obtain ⟨g1, g2, g3, g4⟩ := z2s.1 h
    intro k hk
    rw [List.take_succ_cons, List.cons_append, List.drop_succ_cons] at hk
    have hj' : j < l.length := by simpa using hj
    have hm := zab g4 _ (zhg l zve j hj')
    rcases List.mem_cons.1 hk with rfl | hk
    . simp only [List.getD_cons_succ]; omega
    . simp only [List.getD_cons_succ]; exact zru j hj' g4 k hk

theorem zxk {op : Int} (ho : 1 <= op /\ op <= 5) {s : z62} (hr : z29 s = true) {tn key : List UInt8} {num : Int} (hp : (zrm op s tn key num).2.1 = 0) :
    ∃ t, zzm s (zrm op s tn key num).1 = (t, (0, ())) /\ Does op s tn key num t (if atL s tn < 0 then (tn, (0, (0, ([], ())))) else zw s tn) := by
  obtain ⟨r1, r2, r3⟩ := z2m.1 hr
  have hser := zdj.1 r2
  unfold zrm at hp ⊢
  rw [hr, if_neg (show ¬ (true = false) by decide)] at hp ⊢
  by_cases o1 : op = 1
  . subst o1
    rw [if_pos rfl] at hp ⊢
    by_cases hw : z52 tn = false
    . rw [if_pos hw] at hp; cases hp
    rw [if_neg hw] at hp ⊢
    have hw' : z52 tn = true := by cases h : z52 tn with | true => rfl | false => exact absurd h hw
    by_cases hk : key.length ≠ 32
    . rw [if_pos hk] at hp; cases hp
    rw [if_neg hk] at hp ⊢
    by_cases ha : 0 <= atL s tn
    . rw [if_pos ha] at hp; cases hp
    rw [if_neg ha] at hp ⊢
    by_cases h16 : s.1.length = 16
    . rw [if_pos h16] at hp; cases hp
    rw [if_neg h16] at hp ⊢
    rw [if_pos (show atL s tn < 0 by omega)]
    have hc : z1u s (evT tn 0 2) = (0, (s.1.take (z64 s.1 tn) ++ [(tn, (0, (2, ([], ()))))] ++ s.1.drop (z64 s.1 tn), s.2)) := by
      rw [zty, if_neg ha, if_neg h16]
    have h1 := z7o hr (zyp hw' (by decide : z9i 0 0 = true) (by decide : z9i 2 1 = true)) hc
    have hr1 := z4i h1
    obtain ⟨j, hj, h2⟩ := zzj hr1 (t := (tn, (0, (2, ([], ()))))) (nu := 1) (tx := key) (by simp) (by omega) (by dsimp only; omega) (fun k hk => by cases hk) (by simp) (by omega)
    dsimp only at h2
    have hl1 : (s.1.take (z64 s.1 tn) ++ [(tn, ((0 : Int), ((2 : Int), (([] : List zhp), ()))))] ++ s.1.drop (z64 s.1 tn)).length = s.1.length + 1 := by
      simp only [List.length_append, List.length_cons, List.length_nil, List.length_take, List.length_drop]; omega
    refine ⟨_, zzh h1 h2, z4i h2, ⟨_, zl3 _ _ _, rfl, fun _ => ⟨rfl, rfl, rfl⟩, fun h => absurd h (by decide), fun h => absurd h (by decide)⟩, ⟨fun _ => rfl, fun h => absurd h (by decide)⟩, fun h => absurd rfl h, fun _ => ?_⟩
    rw [zl4 hj]
    exact hl1
  rw [if_neg o1] at hp ⊢
  by_cases ha : atL s tn < 0
  . rw [if_pos ha] at hp; cases hp
  rw [if_neg ha] at hp ⊢
  rw [if_neg ha]
  obtain ⟨t1, t2, t3⟩ := zg8 hr ha
  have tp := z39 t1
  have te := zdj.1 tp.2.1
  have tx := zdj.1 tp.2.2.1
  obtain ⟨j, a1, a2, a3, a4⟩ := zzf hr t3
  rw [t2] at a1 a4
  by_cases o2 : op = 2
  . subst o2
    rw [if_pos rfl] at hp ⊢
    by_cases hk : key.length ≠ 32
    . rw [if_pos hk] at hp; cases hp
    rw [if_neg hk] at hp ⊢
    by_cases h8 : (zw s tn).2.2.2.1.length = 8 \/ (zw s tn).2.2.1 = 1099511627776
    . rw [if_pos h8] at hp; cases hp
    rw [if_neg h8] at hp ⊢
    have hc : z1u s (evT tn (zw s tn).2.1 ((zw s tn).2.2.1 + 1)) = (0, zpm s j ((zw s tn).1, ((zw s tn).2.1, ((zw s tn).2.2.1 + 1, ((zw s tn).2.2.2.1, ()))))) := by
      rw [zty, if_pos (by omega), if_neg (by omega), a1, Int.toNat_natCast]
    have h1 := z7o hr (zyp (t2 ▸ tp.1) tp.2.1 (zdj.2 ⟨by omega, by omega⟩)) hc
    have hr1 := z4i h1
    obtain ⟨i, hi, h2⟩ := zzj hr1 (t := ((zw s tn).1, ((zw s tn).2.1, ((zw s tn).2.2.1 + 1, ((zw s tn).2.2.2.1, ()))))) (nu := (zw s tn).2.2.1) (tx := key) (zl3 _ _ _) (by omega) (by dsimp only; omega) (fun k hk => (zab tp.2.2.2.2 k hk).1) (by dsimp only; omega) (by omega)
    dsimp only at h2
    rw [t2] at h1 h2
    refine ⟨_, zzh h1 h2, z4i h2, ⟨_, zl3 _ _ _, rfl, fun _ => ⟨by simp, rfl, ?_⟩, fun h => absurd h (by decide), fun h => absurd h (by decide)⟩, ⟨fun _ => rfl, fun h => absurd h (by decide)⟩, fun _ => ?_, fun h => absurd h (by decide)⟩
    . simp [List.getD]
    . rw [t2] at hi
      rw [zl4 hi, zl4 a2]
  rw [if_neg o2] at hp ⊢
  by_cases o3 : op = 3
  . subst o3
    rw [if_pos rfl] at hp ⊢
    by_cases hk : kAt s tn num < 0
    . rw [if_pos hk] at hp; cases hp
    rw [if_neg hk] at hp ⊢
    by_cases hl : ((zw s tn).2.2.2.1.getD ((zw s tn).2.2.2.1.length - 1) zve).1 = num
    . rw [if_pos hl] at hp; cases hp
    rw [if_neg hl] at hp ⊢
    rcases zv7 s tn num with ⟨g1, _⟩ | ⟨i, g1, hi, g2⟩
    . omega
    have hkm := zab tp.2.2.2.2 _ (zhg (zw s tn).2.2.2.1 zve i hi)
    rw [g2] at hkm
    have hc : z1u s (evD tn num) = (0, zpm s j ((zw s tn).1, ((zw s tn).2.1, ((zw s tn).2.2.1, ((zw s tn).2.2.2.1.take i ++ (zw s tn).2.2.2.1.drop (i + 1), ()))))) := by
      have hka : z2f (zw s tn) 3 num [] = (0, (zw s tn).2.2.2.1.take i ++ (zw s tn).2.2.2.1.drop (i + 1)) := by
        unfold z2f
        rw [if_neg (by decide), show z7l (fun k : zhp => k.1 == num) (zw s tn).2.2.2.1 0 = (i : Int) from g1, if_neg (by omega), Int.toNat_natCast]
      rw [z12n, if_neg ha, a1, Int.toNat_natCast, hka]
    have h1 := z7o hr (z13e (t2 ▸ tp.1) (zdj.2 ⟨by omega, by omega⟩)) hc
    refine ⟨_, zkx h1, z4i h1, ⟨_, zl3 _ _ _, t2, fun h => absurd h (by decide), fun _ => ⟨fun k hk => ?_, ?_⟩, fun h => absurd h (by decide)⟩, ⟨fun _ => rfl, fun h => absurd h (by decide)⟩, fun _ => zl4 a2 _, fun h => absurd h (by decide)⟩
    . have := zru i hi tp.2.2.2.2 k hk
      rwa [g2] at this
    . simp only [List.length_append, List.length_take, List.length_drop]; omega
  rw [if_neg o3] at hp ⊢
  by_cases o4 : op = 4
  . subst o4
    rw [if_pos rfl] at hp ⊢
    by_cases hx : (zw s tn).2.1 = 1099511627776
    . rw [if_pos hx] at hp; cases hp
    rw [if_neg hx] at hp ⊢
    have hc : z1u s (evT tn ((zw s tn).2.1 + 1) (zw s tn).2.2.1) = (0, zpm s j ((zw s tn).1, ((zw s tn).2.1 + 1, ((zw s tn).2.2.1, ((zw s tn).2.2.2.1, ()))))) := by
      rw [zty, if_pos (by omega), if_neg (by omega), a1, Int.toNat_natCast]
    have h1 := z7o hr (zyp (t2 ▸ tp.1) (zdj.2 ⟨by omega, by omega⟩) tp.2.2.1) hc
    exact ⟨_, zkx h1, z4i h1, ⟨_, zl3 _ _ _, t2, fun h => absurd h (by decide), fun h => absurd h (by decide), fun _ => ⟨rfl, rfl⟩⟩, ⟨fun _ => rfl, fun h => absurd h (by decide)⟩, fun _ => zl4 a2 _, fun h => absurd h (by decide)⟩
  rw [if_neg o4] at hp ⊢
  have o5 : op = 5 := by omega
  subst o5
  by_cases h0 : (zw s tn).2.2.2.1.length = 0
  . rw [if_pos h0] at hp; cases hp
  rw [if_neg h0] at hp ⊢
  by_cases hx : s.2.1 = 1099511627776
  . rw [if_pos hx] at hp; cases hp
  rw [if_neg hx] at hp ⊢
  have hc : z1u s (evS (s.2.1 + 1)) = (0, (s.1, (s.2.1 + 1, ()))) := by rw [z12l, if_neg (by omega)]
  have h1 := z7o hr (z13c (zdj.2 ⟨by omega, by omega⟩)) hc
  exact ⟨_, zkx h1, z4i h1, ⟨_, t3, t2, fun h => absurd h (by decide), fun h => absurd h (by decide), fun h => absurd h (by decide)⟩, ⟨fun h => absurd h (by decide), fun _ => rfl⟩, fun _ => rfl, fun h => absurd h (by decide)⟩

theorem z10j (k : Nat) (s : z62) (l : List (List UInt8)) (hl : l.length = 2) (num : Int) : z1s (k + 300) s l num = some true := by
  rw [z1s, z35, z34, z10e _ (by omega), Option.bind_some]
  have d0 : decide (0 < l.length) = true := zek (by omega)
  have d1 : decide (1 < l.length) = true := zek (by omega)
  cases hg : (decide (20 < s.1.length) || s.1.any z13i) with
  | true => rw [cond_true, cond_true, zdr, Option.bind_some]
  | false =>
    rw [cond_false, zkq _ (by omega), Option.bind_some]
    cases hr : z29 s with
    | false => rw [Bool.not_false, cond_true, cond_true, zdr, Option.bind_some]
    | true =>
      rw [Bool.not_true, cond_false, d0, cond_true]
      by_cases h100 : 100 < (l.getD 0 []).length
      . rw [z1f (zek (by omega)), zdr, Option.bind_some]
      have hf := zs4 hr
      obtain ⟨r1, r2, r3⟩ := z2m.1 hr
      have hser := zdj.1 r2
      rw [z1d (zcc (by omega)), zdr, Option.bind_some, z59]
      refine (zbl (fun v => 1 <= v /\ v <= 6) (fun v => (6 - v).toNat) (fun v => some true) ?_ (k + 300) 1 ⟨by omega, by omega⟩ (by simp <;> omega))
      rintro v r ⟨h1, h6⟩ hrec
      rw [z2z]
      by_cases h5 : v <= 5
      . have hnext : r (IntKind.wrap .i64 (v + 1)) = some true := by
          rw [z6v (x := v + 1) (by unfold I64; omega)]
          exact hrec _ ⟨by omega, by omega⟩ (by omega)
        rw [z1f (zek h5), z33, z12h _ (by omega) hf _ _ _ v ⟨h1, h5⟩]
        simp only [d0, d1, cond_true, Option.bind_some]
        by_cases hz : (zrm v s (l.getD 0 []) (l.getD 1 []) num).2.1 = 0
        case neg => rw [z1f (bne_iff_ne.2 hz)]; exact hnext
        obtain ⟨t, ht, hd⟩ := zxk ⟨h1, h5⟩ hr hz
        have hp2 := z100 v s (l.getD 0 []) (l.getD 1 []) num
        rw [hz, bne_self_eq_false, cond_false, z10u _ (by omega) hr (by omega) (by omega), Option.bind_some, ht]
        dsimp only
        have hft := zs4 hd.right
        obtain ⟨q1, q2, q3⟩ := z2m.1 hd.right
        have hqser := zdj.1 q2
        obtain ⟨x, hxm, hxn, e1, e3, e4⟩ := hd.ex
        obtain ⟨j, j1, j2, j3, j4⟩ := zzf hd.right hxm
        rw [hxn] at j1 j4
        have hx8 := (z39 (z6e q3 x hxm)).2.2.2.1
        rw [zaf _ (by omega) (by omega), Option.bind_some, zaf _ (by omega) (by omega), Option.bind_some, show z7l (fun y : z8j => y.1 == l.getD 0 []) t.1 0 = (j : Int) from j1, z32, z31, bne_self_eq_false, cond_false, z1d (zcc (by omega)), decide_eq_false (show ¬ ((t.1.length : Nat) : Int) <= (j : Int) by omega), cond_false, z1f (z5y j2)]
        simp only [ztb (k + 300) (by omega) hft, zyg (k + 300) (by omega) hft, Option.bind_some]
        rw [show (([] : List UInt8), ((0 : Int), ((0 : Int), (([] : List (Int × (List UInt8 × Unit))), ())))) = zah from rfl, Int.toNat_natCast, j3]
        have hy : z27 (k + 300) num s l v t x (l.getD 0 [], ((0 : Int), ((0 : Int), (([] : List zhp), ())))) (z7l (fun y : z8j => y.1 == l.getD 0 []) s.1 0) = fun K => K (if atL s (l.getD 0 []) < 0 then (l.getD 0 [], (0, (0, ([], ())))) else zw s (l.getD 0 [])) := by
          funext K
          rw [z27, z30]
          rcases zj1 s (l.getD 0 []) with ⟨g1, _⟩ | ⟨i, g1, gi, g2, _⟩
          . rw [show z7l (fun y : z8j => y.1 == l.getD 0 []) s.1 0 = -1 from g1, g1]; rfl
          . rw [show z7l (fun y : z8j => y.1 == l.getD 0 []) s.1 0 = (i : Int) from g1, g1, z1f (zek (by omega)), decide_eq_true (show (i : Int) < ((s.1.length : Nat) : Int) by omega), cond_true, z1f (z5y gi), if_neg (show ¬ (i : Int) < 0 by omega), g2]; rfl
        rw [hy]
        dsimp only
        have hy8 : (if atL s (l.getD 0 []) < 0 then ((l.getD 0 [], ((0 : Int), ((0 : Int), (([] : List zhp), ())))) : z8j) else zw s (l.getD 0 [])).2.2.2.1.length <= 12 := by
          split
          . simp
          . exact zto hf _
        have hye : -1 <= (if atL s (l.getD 0 []) < 0 then ((l.getD 0 [], ((0 : Int), ((0 : Int), (([] : List zhp), ())))) : z8j) else zw s (l.getD 0 [])).2.1 /\ (if atL s (l.getD 0 []) < 0 then ((l.getD 0 [], ((0 : Int), ((0 : Int), (([] : List zhp), ())))) : z8j) else zw s (l.getD 0 [])).2.1 <= 1099511627776 := by
          split
          . exact ⟨by show (-1 : Int) <= 0; omega, by show (0 : Int) <= _; omega⟩
          . rename_i ha
            have := zdj.1 (z39 (zg8 hr ha).1).2.1
            omega
        generalize (if atL s (l.getD 0 []) < 0 then ((l.getD 0 [], ((0 : Int), ((0 : Int), (([] : List zhp), ())))) : z8j) else zw s (l.getD 0 [])) = y at hd e1 e3 e4 hy8 hye
        have hkey : (z12t t (l.getD 0 []) num).2.1 = false \/ v ≠ 3 := by
          by_cases o3 : v = 3
          . left
            unfold z12t
            rw [j1, if_neg (by omega)]
            rcases zv7 t (l.getD 0 []) num with ⟨g1, _⟩ | ⟨i, g1, gi, g2⟩
            . rw [g1]; rfl
            . rw [j4] at gi g2
              exact absurd g2 ((e3 o3).1 _ (zhg _ zve i gi))
          . exact .inr o3
        have hnew : v <= 2 -> z115 t (l.getD 0 []) = (x.2.2.2.1.getD (x.2.2.2.1.length - 1) zve, (true, ())) := fun o2 => by
          have := (e1 o2).1
          unfold z115
          rw [j1, if_neg (by omega), j4, if_neg (by omega)]
        generalize (z12t t (l.getD 0 []) num).2.1 = old at hkey
        have P9 : ∀ K0 K1, z26 (k + 300) num s l v t x y (z115 t (l.getD 0 [])).1 (z115 t (l.getD 0 [])).2.1 old K0 K1 = K1 := by
          intro K0 K1
          rw [z26, z2q]
          by_cases o2 : v <= 2
          . obtain ⟨f1, f2, f3⟩ := e1 o2
            rw [z1f (zek o2), hnew o2]
            dsimp only
            rw [Bool.not_true, cond_false, d1, cond_true, f3, beq_self_eq_true, Bool.not_true, cond_false, z6v (x := ((y.2.2.2.1.length : Nat) : Int) + 1) (by unfold I64; omega), z1d (bne_eq_false_iff_eq.2 (by omega)), bne_eq_false_iff_eq.2 f2, cond_false]
          . rw [z1d (zcc o2), cond_false]
        have P11 : ∀ K0 K1, z24 (k + 300) num s l v t x y old K0 K1 = K1 := by
          intro K0 K1
          rw [z24, z2p, z6v (x := ((y.2.2.2.1.length : Nat) : Int) - 1) (by unfold I64; omega), z6v (x := y.2.1 + 1) (by unfold I64; omega), z6v (x := s.2.1 + 1) (by unfold I64; omega)]
          by_cases o3 : v = 3
          . obtain ⟨f1, f2⟩ := e3 o3
            have hold : old = false := by
              rcases hkey with h | h
              . exact h
              . exact absurd o3 h
            subst o3
            rw [z1f (by decide), hold, cond_false, z1d (bne_eq_false_iff_eq.2 (by omega)), z1d (by decide), z1d (by decide), cond_false]
          . rw [z1d (beq_eq_false_iff_ne.2 o3)]
            by_cases o4 : v = 4
            . obtain ⟨f1, f2⟩ := e4 o4
              subst o4
              rw [z1f (by decide), z1d (bne_eq_false_iff_eq.2 f1), z1d (bne_eq_false_iff_eq.2 (by omega)), z1d (by decide), cond_false]
            . rw [z1d (beq_eq_false_iff_ne.2 o4)]
              by_cases o5 : v = 5
              . rw [z1f (beq_iff_eq.2 o5), bne_eq_false_iff_eq.2 (hd.ser.2 o5), cond_false]
              . rw [z1d (beq_eq_false_iff_ne.2 o5), cond_false]
        have P13 : ∀ K, z23 (k + 300) num s l v t K = K false := by
          intro K
          rw [z23, z6v (x := ((s.1.length : Nat) : Int) + 1) (by unfold I64; omega)]
          by_cases o5 : v < 5
          . rw [z1f (zek o5), z1d (bne_eq_false_iff_eq.2 (hd.ser.1 o5))]
            by_cases o1 : v = 1
            . have := hd.len.2 o1
              subst o1
              rw [z1d (by decide), z1f (by decide), bne_eq_false_iff_eq.2 (show ((t.1.length : Nat) : Int) = ((s.1.length : Nat) : Int) + 1 by omega)]
            . have := hd.len.1 o1
              rw [z1f (bne_iff_ne.2 o1), z1d (bne_eq_false_iff_eq.2 (by omega)), z1d (beq_eq_false_iff_ne.2 o1)]
          . have o1 : v ≠ 1 := by omega
            have := hd.len.1 o1
            rw [z1d (zcc o5), z1f (bne_iff_ne.2 o1), z1d (bne_eq_false_iff_eq.2 (by omega)), z1d (beq_eq_false_iff_ne.2 o1)]
        rw [P9, P11, P13, cond_false]
        exact hnext
      . rw [z1d (zcc h5)]

end
end Go.Proofs.YtlohplpnhopldaaLg
