/- Functions: the contract that a plain function's value earns. -/
import Derived.Test.YtpnjnnhedadjgaaDoorLfR
set_option linter.all false
namespace Go.Lift
section
variable {P : Program} {E : Env} {c : Ctx} {st st' : List A} {fp fp' : FP} {a : Act} {w w' : World} {S : Hp} {ob : Nat → Option Nat}

theorem seqC_bind {β : Type} {all : Array Oper} : ∀ (l : List Oper) (st : List A) (K : List A → Option β), seqC E all l st K = (seqC E all l st some).bind K
  | [], st, K => rfl
  | o :: l, st, K => by
    simp only [seqC]
    rw [cps_eq, cps_eq (K := fun _ st' _ => seqC E all l st' some), Option.bind_assoc]
    congr 1
    funext r
    exact seqC_bind l _ K

theorem drawC_bind {β : Type} {all : Array Oper} : ∀ (l : List Oper) (fps : List FP) (st : List A) (K : List A → Option β), drawC E all l fps st K = (drawC E all l fps st some).bind K
  | [], fps, st, K => by
    simp only [drawC]
    split <;> rfl
  | o :: l, fps, st, K => by
    simp only [drawC]
    rw [cps_eq, cps_eq (K := fun _ st' fp => drawC E all l (fps.append [fp]) st' some), Option.bind_assoc]
    congr 1
    funext r
    exact drawC_bind l _ _ K

def pairK : Ex → List A → Option (Ex × List A) := fun e s => some (e, s)

theorem loopC_bind {β : Type} {f : List A → (Ex → List A → Option β) → Option β} {f2 : List A → (Ex → List A → Option (Ex × List A)) → Option (Ex × List A)} (hf : ∀ st K, f st K = (f2 st pairK).bind fun p => K p.1 p.2)
    (hf2 : ∀ st K, f2 st K = (f2 st pairK).bind fun p => K p.1 p.2) (live : List Nat) : ∀ (n : Nat) (st : List A) (K : Ex → List A → Option β), loopC live f n st K = (loopC live f2 n st pairK).bind fun p => K p.1 p.2
  | 0, st, K => rfl
  | n + 1, st, K => by
    simp only [loopC]
    rw [hf]
    conv => rhs; rw [hf2]
    rw [Option.bind_assoc]
    congr 1
    funext p
    obtain ⟨e, s⟩ := p
    cases e with
    | normal => exact loopC_bind hf hf2 live n _ K
    | exit id => rfl
    | ret => rfl

theorem evC_bind {β : Type} (N : Nat) : ∀ (k : Code) (st : List A) (K : Ex → List A → Option β), evC E N k st K = (evC E N k st pairK).bind fun p => K p.1 p.2
  | .skip, st, K => rfl
  | .region id ops draw, st, K => by
    simp only [evC]
    cases draw with
    | false =>
      simp only
      rw [seqC_bind, seqC_bind (K := fun st => pairK .normal st), Option.bind_assoc]
      rfl
    | true =>
      simp only
      rw [drawC_bind, drawC_bind (K := fun st => pairK .normal st), Option.bind_assoc]
      rfl
  | .seq x z, st, K => by
    simp only [evC]
    rw [evC_bind N x]
    conv => rhs; rw [evC_bind N x]
    rw [Option.bind_assoc]
    congr 1
    funext p
    obtain ⟨e, s⟩ := p
    cases e with
    | normal => exact evC_bind N z _ K
    | exit id => rfl
    | ret => rfl
  | .cond x t e, st, K => by
    simp only [evC]
    rw [cps_eq, cps_eq (β := Ex × List A), Option.bind_assoc]
    congr 1
    funext p
    obtain ⟨v, s, fp⟩ := p
    dsimp only
    split
    · rename_i b
      cases b with
      | true =>
        simp only [cond]
        rw [evC_bind N t, evC_bind N t st (fun e st => pairK e (restr E.live 0 st)), Option.bind_assoc]
        rfl
      | false =>
        simp only [cond]
        rw [evC_bind N e, evC_bind N e st (fun e st => pairK e (restr E.live 0 st)), Option.bind_assoc]
        rfl
    · rfl
  | .block id x, st, K => by
    simp only [evC]
    rw [evC_bind N x]
    conv => rhs; rw [evC_bind N x]
    rw [Option.bind_assoc]
    congr 1
    funext p
    obtain ⟨e, s⟩ := p
    cases e with
    | normal => rfl
    | exit j => dsimp only; split <;> rfl
    | ret => rfl
  | .loop x, st, K => by
    simp only [evC]
    exact loopC_bind (fun st K => evC_bind N x st K) (fun st K => evC_bind N x st K) _ _ _ K
  | .exit id, st, K => rfl
  | .ret, st, K => rfl
  | .rangeFunc .., st, K => rfl
  | .scope .., st, K => rfl
  | .label .., st, K => rfl
  | .goto .., st, K => rfl
  | .refuse .., st, K => rfl

/-- what one result variable gives -/
def resSem (tmps : Array Value) : ResultVar → Sem Value
  | .tmp t => pure (tmps.getD t undef)
  | .cell a t => do loadVar t (← asAddr (tmps.getD a undef))

theorem results_eq (fn : Func) (tmps : Array Value) : results fn tmps = (do
    let vs ← fn.results.mapM (resSem tmps)
    pure (if h : vs.size = 1 then vs[0] else .tuple vs)) := by
  unfold results
  have : (fun (x : ResultVar) => match x with
      | .tmp t => (pure (tmps.getD t undef) : Sem Value)
      | .cell a t => do loadVar t (← asAddr (tmps.getD a undef))) = resSem tmps := by funext r; cases r <;> rfl
  rw [← this]
  rfl

theorem resK1_inv {α : Type} {r : α × List A × FP} {rv : ResultVar} {rt : TypeId} {k : Dat → Cmd α} (h : exec E (resK1 E rv rt k) st fp = some r) (hb : Base P E c) (hs : SimD c st a w S ob) :
    ∃ d v st' fp' S' ob', exec E (k d) st' fp' = some r ∧ SimD c st' a w S' ob' ∧ Sub S S' ∧ VR S' d.1 d.2 v ∧ (resSem a.tmps rv).run P w = .ok v w ∧ st'.length = st.length := by
  cases rv with
  | tmp t =>
    simp only [resK1] at h
    obtain ⟨e, he, h1⟩ := tyK_inv h
    obtain ⟨A, fp1, h2, hA, hAo, hAd, hAr⟩ := rdK_inv h1 hs (hb.globS hs)
    obtain ⟨x, st1, fp2, S1, ob1, h3, hs1, hS, hv, hl⟩ := asK_inv h2 hs hA
    exact ⟨⟨e.t, x⟩, _, st1, fp2, S1, ob1, h3, hs1, hS, hv, rfl, hl⟩
  | cell ad ty =>
    simp only [resK1] at h
    obtain ⟨e, he, h1⟩ := tyK_inv h
    obtain ⟨fp1, h2⟩ := exec_get h1
    clear h h1
    split at h2
    · rename_i t x hy
      split at h2
      · rename_i ht
        have := teq_eq ht
        subst this
        obtain ⟨b, cs, E', fr, hob, hv, hcs, hfr, hrd⟩ := hs.rel ad _ (getD_at hy (by simp))
        obtain ⟨v, hrun, hvr⟩ := run_loadVar (P := P) (w := w) (hb.tyOk he) (b := b) (off := 0) (c1 := cs.toList) ⟨cs, E', fr, [], [], hcs, by simp, rfl⟩ hrd
        refine ⟨⟨e.t, x⟩, v, st, fp1, S, ob, h2, hs, Sub.refl _, hvr, ?_, rfl⟩
        have hv' : a.tmps.getD ad undef = .pointer (some ⟨b, 0, none⟩) := hv
        simp only [resSem, hv', asAddr, Sem.run_bind, Sem.run_pure, Result.andThen_ok, hrun]
      · exact (exec_fail h2).elim
    · exact (exec_fail h2).elim

theorem resKs_inv {α : Type} {r : α × List A × FP} (hb : Base P E c) : ∀ (rs : List ResultVar) (rts : List TypeId) (k : List Dat → Cmd α) (st : List A) (fp : FP) (S : Hp) (ob : Nat → Option Nat), exec E (resKs E rs rts k) st fp = some r → SimD c st a w S ob →
    ∃ l vs st' fp' S' ob', exec E (k l) st' fp' = some r ∧ SimD c st' a w S' ob' ∧ Sub S S' ∧ TupRel S' l vs ∧ (rs.mapM (resSem a.tmps)).run P w = .ok vs w ∧ st'.length = st.length
  | [], rts, k, st, fp, S, ob, h, hs => ⟨[], [], st, fp, S, ob, by cases rts <;> exact h, hs, Sub.refl _, .nil, by simp, rfl⟩
  | rv :: rs, [], k, st, fp, S, ob, h, hs => (exec_fail h).elim
  | rv :: rs, rt :: rts, k, st, fp, S, ob, h, hs => by
    simp only [resKs] at h
    obtain ⟨d, v, st1, fp1, S1, ob1, h1, hs1, hS, hv, hrun, hl⟩ := resK1_inv h hb hs
    obtain ⟨l, vs, st2, fp2, S2, ob2, h2, hs2, hS2, ht, hrun2, hl2⟩ := resKs_inv hb rs rts _ st1 fp1 S1 ob1 h1 hs1
    refine ⟨d :: l, v :: vs, st2, fp2, S2, ob2, h2, hs2, hS.trans hS2, .cons (hv.mono hS2) ht, ?_, by omega⟩
    simp only [List.mapM_cons, Sem.run_bind, hrun, Result.andThen_ok, hrun2, Sem.run_pure]

theorem results_one {fn : Func} {rv : ResultVar} {v : Value} (h : fn.results.toList = [rv]) (hr : (resSem a.tmps rv).run P w = .ok v w) : (results fn a.tmps).run P w = .ok v w := by
  have h' : fn.results = #[rv] := by apply Array.toList_inj.1; rw [h]
  rw [results_eq, h', Array.mapM_eq_mapM_toList]
  simp [hr]

/-- the results -/
theorem resCmd_inv {α : Type} {r : α × List A × FP} {fn : Func} {rts : List TypeId} {k : A → Cmd α} (h : exec E (resCmd E fn.results.toList rts k) st fp = some r) (hb : Base P E c) (hs : SimD c st a w S ob) :
    ∃ x v o st' fp' S' ob', exec E (k x) st' fp' = some r ∧ SimD c st' a w S' ob' ∧ Sub S S' ∧ (results fn a.tmps).run P w = .ok v w ∧ ARel (hp w) S' (tv a) x v o ∧ x.ref = none ∧
      (∀ b, o = some b → ∃ t, t ∉ E.lent ∧ ob' t = some b) ∧ st'.length = st.length := by
  unfold resCmd at h
  split at h
  · rename_i rv hrv
    split at h
    · rename_i rt
      have plain : ∀ {st1 : List A} {fp1 : FP}, SimD c st1 a w S ob → st1.length = st.length → exec E (resK1 E rv rt fun d => k (.v d.1 d.2)) st1 fp1 = some r →
          ∃ x v o st' fp' S' ob', exec E (k x) st' fp' = some r ∧ SimD c st' a w S' ob' ∧ Sub S S' ∧ (results fn a.tmps).run P w = .ok v w ∧ ARel (hp w) S' (tv a) x v o ∧ x.ref = none ∧
            (∀ b, o = some b → ∃ t, t ∉ E.lent ∧ ob' t = some b) ∧ st'.length = st.length := by
        intro st1 fp1 hs1 hl1 h1
        obtain ⟨d, v, st2, fp2, S2, ob2, h2, hs2, hS, hv, hrun, hl⟩ := resK1_inv h1 hb hs1
        exact ⟨_, v, none, st2, fp2, S2, ob2, h2, hs2, hS, results_one hrv hrun, ⟨hv, rfl⟩, rfl, (fun b e => by cases e), by omega⟩
      unfold resOne at h
      split at h
      · rename_i t
        obtain ⟨fp1, h1⟩ := exec_get h
        clear h
        have hrun : (resSem a.tmps (.tmp t)).run P w = .ok (tv a t) w := rfl
        split at h1
        · rename_i u xs hy
          split at h1
          · split at h1
            · exact (exec_fail h1).elim
            · rename_i hl
              exact ⟨_, tv a t, ob t, st, fp1, S, ob, h1, hs, Sub.refl _, results_one hrv hrun, hs.row_at hy, rfl, fun b e => ⟨t, by simpa using hl, e⟩, rfl⟩
          · exact plain hs rfl h1
        · rename_i u x hy
          split at h1
          · exact (exec_fail h1).elim
          · rename_i hl
            exact ⟨_, tv a t, ob t, st, fp1, S, ob, h1, hs, Sub.refl _, results_one hrv hrun, hs.rel t _ (getD_at hy (by simp)), rfl, fun b e => ⟨t, by simpa using hl, e⟩, rfl⟩
        · exact plain hs rfl h1
      · exact plain hs rfl h
    · exact (exec_fail h).elim
  · rename_i rs hne
    obtain ⟨l, vs, st1, fp1, S1, ob1, h1, hs1, hS, ht, hrun, hl⟩ := resKs_inv hb _ _ _ _ _ _ _ h hs
    refine ⟨_, .tuple vs.toArray, none, st1, fp1, S1, ob1, h1, hs1, hS, ?_, ⟨rfl, vs.toArray, rfl, by simpa using ht⟩, rfl, (fun b e => by cases e), hl⟩
    rw [results_eq, Array.mapM_eq_mapM_toList]
    simp only [Sem.run_bind, Sem.run_map, hrun, Result.andThen_ok, Sem.run_pure]
    have hlen : vs.length = fn.results.toList.length := by
      clear h h1 ht hs1 hne
      generalize fn.results.toList = rs at hrun
      induction rs generalizing vs with
      | nil => simp at hrun; subst hrun; rfl
      | cons x rs ih =>
        simp only [List.mapM_cons, Sem.run_bind] at hrun
        cases hx : (resSem a.tmps x).run P w with
        | halt q w1 => rw [hx] at hrun; simp at hrun
        | ok v w1 =>
          rw [hx] at hrun
          simp only [Result.andThen_ok] at hrun
          have hw1 : (List.mapM (resSem a.tmps) rs).run P w1 = (List.mapM (resSem a.tmps) rs).run P w1 := rfl
          cases hm : (List.mapM (resSem a.tmps) rs).run P w1 with
          | halt q w2 => rw [hm] at hrun; simp at hrun
          | ok us w2 =>
            rw [hm] at hrun
            simp only [Result.andThen_ok, Sem.run_pure, Result.ok.injEq] at hrun
            have : ∀ (rs : List ResultVar) (w1 w2 : World) (us : List Value), (List.mapM (resSem a.tmps) rs).run P w1 = .ok us w2 → us.length = rs.length := by
              intro rs
              induction rs with
              | nil => intro w1 w2 us h; simp at h; rw [h.1]; rfl
              | cons y rs ih2 =>
                intro w1 w2 us h
                simp only [List.mapM_cons, Sem.run_bind] at h
                cases hy : (resSem a.tmps y).run P w1 with
                | halt q w3 => rw [hy] at h; simp at h
                | ok v' w3 =>
                  rw [hy] at h
                  simp only [Result.andThen_ok] at h
                  cases hm' : (List.mapM (resSem a.tmps) rs).run P w3 with
                  | halt q w4 => rw [hm'] at h; simp at h
                  | ok us' w4 =>
                    rw [hm'] at h
                    simp only [Result.andThen_ok, Sem.run_pure, Result.ok.injEq] at h
                    rw [← h.1, List.length_cons, ih2 _ _ _ hm', List.length_cons]
            rw [← hrun.1, List.length_cons, this _ _ _ _ hm, List.length_cons]
    have h1' : ¬ vs.toArray.size = 1 := by
      rw [List.size_toArray, hlen]
      intro h1
      obtain ⟨x, hx⟩ := List.length_eq_one_iff.1 h1
      exact hne x hx
    rw [dif_neg h1']

theorem outsK_inv {α : Type} {r : α × List A × FP} : ∀ (n i : Nat) (k : List A → Cmd α) (fp : FP), exec E (outsK E n i k) st fp = some r →
    ∃ l fp', exec E (k l) st fp' = some r ∧ l.length = n ∧ ∀ j, j < n → (i + j ∈ E.lent → ∃ t x, st[i + j]? = some (.box t x) ∧ l[j]? = some (.box t x))
  | 0, i, k, fp, h => ⟨[], fp, h, rfl, fun j hj => by omega⟩
  | n + 1, i, k, fp, h => by
    simp only [outsK] at h
    split at h
    · rename_i hc
      obtain ⟨fp1, h1⟩ := exec_get h
      split at h1
      · rename_i t x hy
        obtain ⟨l, fp2, h2, hl, hall⟩ := outsK_inv n (i + 1) _ _ h1
        refine ⟨_, fp2, h2, by simp [hl], fun j hj hm => ?_⟩
        cases j with
        | zero => exact ⟨t, x, getD_at hy (by simp), rfl⟩
        | succ j =>
          obtain ⟨t', x', h3, h4⟩ := hall j (by omega) (by rw [show i + 1 + j = i + (j + 1) by omega]; exact hm)
          exact ⟨t', x', by rw [show i + (j + 1) = i + 1 + j by omega]; exact h3, by simpa using h4⟩
      · exact (exec_fail h1).elim
    · rename_i hc
      obtain ⟨l, fp2, h2, hl, hall⟩ := outsK_inv n (i + 1) _ _ h
      refine ⟨_, fp2, h2, by simp [hl], fun j hj hm => ?_⟩
      cases j with
      | zero => exact absurd hm (by simpa using hc)
      | succ j =>
        obtain ⟨t', x', h3, h4⟩ := hall j (by omega) (by rw [show i + 1 + j = i + (j + 1) by omega]; exact hm)
        exact ⟨t', x', by rw [show i + (j + 1) = i + 1 + j by omega]; exact h3, by simpa using h4⟩

theorem argsOk_spec {lent : List Nat} : ∀ {i : Nat} {l : List A}, argsOk lent i l = true → ∀ (j : Nat) (x : A), l[j]? = some x → argOk lent (i + j) x = true
  | _, [], _, j, x, hj => by simp at hj
  | i, y :: l, h, j, x, hj => by
    obtain ⟨h1, h2⟩ := and'_true h
    cases j with
    | zero => simp at hj; subst hj; exact h1
    | succ j =>
      have := argsOk_spec h2 j x (by simpa using hj)
      rw [show i + 1 + j = i + (j + 1) by omega] at this
      exact this

theorem argOk_lent {lent : List Nat} {i : Nat} {x : A} (h : argOk lent i x = true) : (i ∈ lent ↔ isBoxA x = true) ∧ x.ref = none := by
  cases x <;> simp_all [argOk, isBoxA, A.ref]

theorem undefs_at : ∀ (n j : Nat), (undefs n)[j]? = if j < n then some (.tup []) else none
  | 0, j => by simp [undefs]
  | n + 1, 0 => by simp [undefs]
  | n + 1, j + 1 => by simp [undefs, undefs_at n j]

theorem undefs_length : ∀ n, (undefs n).length = n
  | 0 => rfl
  | n + 1 => by simp [undefs, undefs_length n]

theorem lentOk_spec {n : Nat} : ∀ {l : List Nat}, lentOk n l = true → ∀ i ∈ l, i < n
  | [], _, i, hi => by cases hi
  | f :: l, h, i, hi => by
    obtain ⟨h1, h2⟩ := and'_true h
    rcases List.mem_cons.1 hi with rfl | hi
    · simpa using h1
    · exact lentOk_spec h2 i hi

theorem bodyPost_of {fn : Func} {R : Ending → World → Prop} {e : Ex} {v : Value} (he : e = .normal ∨ e = .ret) (hd : a.defers = []) (hr : (results fn a.tmps).run P w = .ok v w) (hR : R (.returned v) w) : bodyPost P fn R e.exit' a w := by
  rcases he with rfl | rfl <;> exact ⟨hd, v, hr, hR⟩

/-- THE CONTRACT OF A FUNCTION -/
theorem evF_sound {β : Type} {N : Nat} {f : FuncId} {fn : Func} {args : List A} {K : A → List A → Option β} {y : β} (hE : EnvOk P E) (hf : P.funcs[f]? = some fn) (h : evF E N fn args K = some y) :
    ∃ r outs, K r outs = some y ∧ ∀ (w : World) (S : Hp) (vals : List Value) (ob : Nat → Option Nat), ArgsRel (hp w) S args vals ob → Sub S (hp w) → GlobOk E.glob S →
      Calls P f vals.toArray w fun e w' =>
        ∃ v S' o, e = .returned v ∧ WF w (fun b => ∃ i, ob i = some b) w' ∧ Sub S S' ∧ Sub S' (hp w') ∧
          (∀ b, S' b ≠ none → S b ≠ none ∨ (∃ i, ob i = some b) ∨ w.heap.size ≤ b) ∧
          (ARel (hp w') S' (fun _ => undef) r v o ∧ r.ref = none) ∧
          (∀ b, o = some b → S' b = none ∧ w.heap.size ≤ b) ∧
          (∀ i x, args[i]? = some x → isBoxA x = true → ∃ x' v, outs[i]? = some x' ∧ vals[i]? = some v ∧ isBoxA x' = true ∧ ARel (hp w') S' (fun _ => undef) x' v (ob i)) ∧
          (∀ i b, ob i = some b → S' b = none) := by
  unfold evF at h
  split at h
  · cases h
  rename_i body hbody
  split at h
  case h_2 => cases h
  rename_i hck
  obtain ⟨hck1, hntmps⟩ := and'_true hck
  obtain ⟨hargs, hlent⟩ := and'_true hck1
  have hntmps : args.length ≤ fn.ntmps := by simpa using hntmps
  have hlent := lentOk_spec hlent
  have haok := fun j x hj => argOk_lent (by simpa using argsOk_spec hargs j x hj)
  have happ : args.append (undefs (fn.ntmps - args.length)) = args ++ undefs (fn.ntmps - args.length) := rfl
  rw [happ, evC_bind] at h
  cases hrun : evC E N body (args ++ undefs (fn.ntmps - args.length)) pairK with
  | none => rw [hrun] at h; cases h
  | some p =>
  obtain ⟨e, st1⟩ := p
  rw [hrun] at h
  simp only [Option.bind_some] at h
  obtain ⟨hee, ⟨r, outs⟩, st2, fp1, hx, hK⟩ : (e = .normal ∨ e = .ret) ∧ ∃ (q : A × List A) (st2 : List A) (fp1 : FP),
      exec E (resCmd E fn.results.toList fn.resultTypes.toList fun x => outsK E args.length 0 fun l => (.ret (x, l) : Cmd (A × List A))) st1 fp0 = some (q, st2, fp1) ∧ K q.1 q.2 = some y := by
    cases e with
    | exit id => cases h
    | normal => obtain ⟨q, st2, fp1, h1, h2⟩ := exec_of_cps h; exact ⟨.inl rfl, q, st2, fp1, h1, h2⟩
    | ret => obtain ⟨q, st2, fp1, h1, h2⟩ := exec_of_cps h; exact ⟨.inr rfl, q, st2, fp1, h1, h2⟩
  refine ⟨r, outs, hK, ?_⟩
  intro w S vals ob har hS hg
  let c : Ctx := ⟨w, S, fun b => ∃ i, ob i = some b, E.lent.map (fun i => (i, vals.getD i undef))⟩
  have hlen := har.len
  have htv : ∀ i, tv { tmps := vals.toArray ++ Array.replicate (fn.ntmps - vals.toArray.size) undef, defers := [] } i = vals.getD i undef := by
    intro i
    simp only [tv, Array.getD_eq_getD_getElem?, List.getD_eq_getElem?_getD]
    by_cases hi : i < vals.length
    · rw [Array.getElem?_append_left (by simpa using hi)]; simp
    · rw [Array.getElem?_append_right (by simpa using hi), List.getElem?_eq_none (by omega)]
      rw [Array.getElem?_replicate]
      split <;> rfl
  have hb : Base P E c := ⟨hE, hg, by simp [c, Function.comp_def]⟩
  have hs0 : Sim c (args ++ undefs (fn.ntmps - args.length)) { tmps := vals.toArray ++ Array.replicate (fn.ntmps - vals.toArray.size) undef, defers := [] } w := by
    refine ⟨S, ob, rfl, by simp [undefs_length, hlen], ?_, ?_, ?_, har.inj, har.hid, hS, Sub.refl _, fun i b e => .inl ⟨i, e⟩, fun b e => .inl e, ?_, WF.refl _ _⟩
    · intro i x hx
      rw [htv]
      by_cases hi : i < args.length
      · rw [List.getElem?_append_left hi] at hx
        obtain ⟨⟨v, hv, hrel⟩, href⟩ := har.rel i x hx
        rw [show vals.getD i undef = v by simp [List.getD, hv]]
        exact hrel.mono (Sub.refl _) (fun _ _ => rfl) (fun r hr => by rw [href] at hr; cases hr)
      · rw [List.getElem?_append_right (by omega), undefs_at] at hx
        split at hx
        · simp only [Option.some.injEq] at hx
          subst hx
          rw [har.out i (by omega), show vals.getD i undef = undef by simp [List.getD, List.getElem?_eq_none (by omega : vals.length ≤ i)]]
          exact ⟨rfl, #[], rfl, .nil⟩
        · cases hx
    · intro i x r hx hr
      by_cases hi : i < args.length
      · rw [List.getElem?_append_left hi] at hx
        rw [(har.rel i x hx).2] at hr; cases hr
      · rw [List.getElem?_append_right (by omega), undefs_at] at hx
        split at hx
        · simp only [Option.some.injEq] at hx
          subst hx; cases hr
        · cases hx
    · intro i hi
      exact har.out i (by simp at hi; omega)
    · intro p hp
      obtain ⟨i, _, rfl⟩ := List.mem_map.1 hp
      exact htv i
  obtain ⟨e', st1', hp, hwp⟩ := evC_sound (β := Ex × List A) hb N body _ _ _ hrun
  simp only [pairK, Option.some.injEq, Prod.mk.injEq] at hp
  obtain ⟨rfl, rfl⟩ := hp
  refine calls_of_wp hf hbody (hwp _ _ _ hs0 ?_)
  rintro a' w' ⟨S1, ob1, hs1⟩
  obtain ⟨x, v, o, st3, fp3, S3, ob3, h3, hs3, hS13, hres, hrel, href, hfresh, hl3⟩ := resCmd_inv hx hb hs1
  obtain ⟨l, fp4, h4, hll, hlall⟩ := outsK_inv _ _ _ _ h3
  have h5 := exec_ret h4
  simp only [Prod.mk.injEq] at h5
  obtain ⟨⟨rfl, rfl⟩, _⟩ := h5
  -- the lent boxes are where they were
  have hplace : ∀ i b, ob i = some b → ob3 i = some b := by
    intro i b hi
    have hia : i < args.length := by
      rcases Nat.lt_or_ge i args.length with h | h
      · exact h
      · rw [har.out i h] at hi; cases hi
    obtain ⟨⟨v', hv', hrel'⟩, _⟩ := har.rel i _ (List.getElem?_eq_getElem hia)
    rw [hi] at hrel'
    have hbox : isBoxA args[i] = true ∧ v' = .pointer (some ⟨b, 0, none⟩) := by
      have := (haok i _ (List.getElem?_eq_getElem hia))
      cases hxi : args[i] with
      | box t y => rw [hxi] at hrel'; obtain ⟨b', _, _, _, e1, e2, _⟩ := hrel'; cases e1; exact ⟨rfl, e2⟩
      | v t y => rw [hxi] at hrel'; cases hrel'.2
      | nilsl => rw [hxi] at hrel'; cases hrel'.2
      | _ => have ha := argsOk_spec hargs i _ (List.getElem?_eq_getElem hia); rw [hxi] at ha; simp [argOk] at ha
    have hmem : i ∈ E.lent := ((haok i _ (List.getElem?_eq_getElem hia)).1).2 hbox.1
    obtain ⟨t, y', h6, _⟩ := hlall i hia (by simpa using hmem)
    rw [Nat.zero_add] at h6
    obtain ⟨b', _, _, _, e1, e2, _⟩ := hs3.rel i _ h6
    have htvi : tv a' i = v' := by
      have := hs3.lent (i, vals.getD i undef) (by show _ ∈ E.lent.map _; exact List.mem_map.2 ⟨i, hmem, rfl⟩)
      rw [this]; simp [List.getD, hv']
    rw [htvi, hbox.2] at e2
    cases e2
    exact e1
  refine bodyPost_of hee hs3.defers hres ⟨v, S3, o, rfl, hs3.frame, hs3.mono, hs3.sub, hs3.newS, ⟨hrel.mono (Sub.refl _) (fun _ _ => rfl) (fun r hr => by rw [href] at hr; cases hr), href⟩, ?_, ?_, ?_⟩
  · intro b hbo
    obtain ⟨t, htl, hot⟩ := hfresh b hbo
    refine ⟨hs3.hid _ _ hot, ?_⟩
    rcases hs3.fresh _ _ hot with ⟨i, hi⟩ | h
    · exfalso
      have hti := hs3.inj _ _ _ hot (hplace i b hi)
      subst hti
      apply htl
      have hia : t < args.length := by
        rcases Nat.lt_or_ge t args.length with h | h
        · exact h
        · rw [har.out t h] at hi; cases hi
      refine ((haok t _ (List.getElem?_eq_getElem hia)).1).2 ?_
      obtain ⟨⟨v', hv', hrel'⟩, _⟩ := har.rel t _ (List.getElem?_eq_getElem hia)
      rw [hi] at hrel'
      cases hxi : args[t] with
      | box _ _ => rfl
      | v _ _ => rw [hxi] at hrel'; cases hrel'.2
      | nilsl => rw [hxi] at hrel'; cases hrel'.2
      | _ => have ha := argsOk_spec hargs t _ (List.getElem?_eq_getElem hia); rw [hxi] at ha; simp [argOk] at ha
    · exact h
  · intro i x' hx' hbx
    have hia : i < args.length := by
      rcases Nat.lt_or_ge i args.length with h | h
      · exact h
      · simp [List.getElem?_eq_none h] at hx'
    have hmem : i ∈ E.lent := ((haok i _ hx').1).2 hbx
    obtain ⟨t, y', h6, h7⟩ := hlall i hia (by simpa using hmem)
    rw [Nat.zero_add] at h6
    obtain ⟨⟨v', hv', hrel'⟩, _⟩ := har.rel i _ hx'
    have htvi : tv a' i = v' := by
      have := hs3.lent (i, vals.getD i undef) (by show _ ∈ E.lent.map _; exact List.mem_map.2 ⟨i, hmem, rfl⟩)
      rw [this]; simp [List.getD, hv']
    refine ⟨_, v', h7, hv', rfl, ?_⟩
    have hr6 := hs3.rel i _ h6
    rw [htvi] at hr6
    have hobi : ob3 i = ob i := by
      cases x' with
      | box t' z' => obtain ⟨b', _, _, _, e1, _⟩ := hrel'; rw [e1, hplace i b' e1]
      | _ => simp [isBoxA] at hbx
    rw [hobi] at hr6
    exact hr6.mono (Sub.refl _) (fun _ _ => rfl) (fun r hr => by cases hr)
  · intro i b hi
    exact hs3.hid _ _ (hplace i b hi)
end
end Go.Lift
