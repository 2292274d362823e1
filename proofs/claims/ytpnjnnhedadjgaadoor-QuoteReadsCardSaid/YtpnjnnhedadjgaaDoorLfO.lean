/- Calls; every operation; regions. -/
import Derived.Test.YtpnjnnhedadjgaaDoorLfN
set_option linter.unusedSimpArgs false
set_option linter.unusedVariables false
set_option linter.all false
namespace Go.Lift
section
variable {P : Program} {E : Env} {c : Ctx} {st st' : List A} {fp fp' : FP} {a : Act} {w w' : World} {S : Hp} {ob : Nat → Option Nat} {o : Oper}

theorem obA_mem {b : List (Nat × Nat)} {ob : Nat → Option Nat} {i k : Nat} (h : obA b ob i = some k) : ∃ p ∈ b, p.2 = i ∧ ob p.1 = some k := by
  unfold obA at h
  cases hf : b.find? (fun p => Nat.beq p.2 i) with
  | none => rw [hf] at h; simp at h
  | some p =>
    rw [hf] at h
    exact ⟨p, List.mem_of_find?_eq_some hf, beq_nat (by simpa using List.find?_some (p := fun (p : Nat × Nat) => Nat.beq p.2 i) hf), h⟩

theorem pairwise_same : ∀ {b : List (Nat × Nat)} {p q : Nat × Nat}, b.Pairwise (fun p q => p.1 ≠ q.1) → p ∈ b → q ∈ b → p.1 = q.1 → p = q
  | [], _, _, _, h, _, _ => by cases h
  | x :: b, p, q, .cons hx hb, hp, hq, e => by
    rcases List.mem_cons.1 hp with hpx | hpb
    · rcases List.mem_cons.1 hq with hqx | hqb
      · rw [hpx, hqx]
      · rw [hpx] at e; exact absurd e (hx q hqb)
    · rcases List.mem_cons.1 hq with hqx | hqb
      · rw [hqx] at e; exact absurd e.symm (hx p hpb)
      · exact pairwise_same hb hpb hqb e

theorem goCall_good {f : FuncId} {xs : List Operand} (hrun : ∀ st', (execOp a.eval o).run P w = .ok (.enter f (xs.map a.eval).toArray) w ∨ st' = st → True)
    (hrun' : (∃ fn, P.funcs[f]? = some fn ∧ fn.body.isSome = true ∧ fn.name ≠ "runtime.NumGoroutine") → (execOp a.eval o).run P w = .ok (.enter f (xs.map a.eval).toArray) w)
    (h : exec E (goCall E f xs o.dst) st fp = some ((), st', fp')) (hb : Base P E c) (hs : SimD c st a w S ob) : Good P c o a w st' := by
  clear hrun
  unfold goCall at h
  obtain ⟨l, b, st1, fp1, S1, ob1, h1, hs1, hev, hl⟩ := argsK_inv hb _ _ _ _ _ _ _ h hs
  clear h
  split at h1
  · rename_i hnd
    obtain ⟨y, hy, h2⟩ := exec_call h1
    clear h1
    split at h2
    · rename_i hres
      obtain ⟨fp2, h3, hbox⟩ := backK_inv b _ _ _ h2
      clear h2
      have hnd' := nodupB_spec hnd
      obtain ⟨hlen, hpl, hrel, hback⟩ := hl.places
      rcases hb.env.fn f with hno | ⟨hfn, hcon⟩
      · rw [hno] at hy; cases hy
      -- the arguments fit the contract
      have hargs : ArgsRel (hp w) S1 l (xs.map a.eval) (obA b ob1) := by
        refine ⟨hlen, ?_, ?_, ?_, ?_⟩
        · intro i x hx
          obtain ⟨v, hv, hxr, hcase⟩ := hrel i x hx
          refine ⟨⟨v, hv, ?_⟩, hxr⟩
          rw [Nat.zero_add] at hcase
          rcases hcase with ⟨s, t, z, rfl, rfl, hst, hfind⟩ | ⟨_, hfind, har⟩
          · have e : obA b ob1 i = ob1 s := by unfold obA; rw [hfind]; rfl
            rw [e]
            exact (hs1.rel s _ hst).mono (Sub.refl _) (fun _ _ => rfl) (fun r hr => by simp [A.ref] at hr)
          · have e : obA b ob1 i = none := by unfold obA; rw [hfind]; rfl
            rw [e]; exact har _ _
        · intro i hi
          cases ho : obA b ob1 i with
          | none => rfl
          | some k =>
            obtain ⟨p, hp', hpi, _⟩ := obA_mem ho
            have := (hpl p hp').2
            omega
        · intro i j k hi hj
          obtain ⟨p, hp', hpi, hpk⟩ := obA_mem hi
          obtain ⟨q, hq', hqj, hqk⟩ := obA_mem hj
          have hpq := hs1.inj _ _ _ hpk hqk
          have : p = q := pairwise_same hnd' hp' hq' hpq
          rw [← hpi, ← hqj, this]
        · intro i k hi
          obtain ⟨p, hp', hpi, hpk⟩ := obA_mem hi
          exact hs1.hid _ _ hpk
      have hcalls := hcon w S1 l (xs.map a.eval) (obA b ob1) hargs hs1.sub (hb.globS hs1) y hy
      intro Q
      simp only [Oper.wp, hrun' hfn, Oper.upon_enter]
      refine hcalls.mono ?_
      rintro e w' ⟨v, S2, o', rfl, hwf, hS12, hS2w, hnew, ⟨hres1, hres2⟩, hfresh, houts, hhid⟩
      dsimp only
      -- the callee's boxes hold what it says; all else is as it was
      have hob_lt : ∀ {i k : Nat}, ob1 i = some k → k < w.heap.size := fun hk => by
        obtain ⟨_, _, o2, ho2⟩ := hs1.ob_some hk; exact hp_lt ho2
      have hroot : ∀ p ∈ b, obA b ob1 p.2 = ob1 p.1 := by
        intro p hp'
        have hmem := hback p hp'
        obtain ⟨t, z, _, hlp, _⟩ := hmem
        obtain ⟨u, _, _, hcase⟩ := hrel (p.2 - 0) _ hlp
        have hz : p.2 - 0 = p.2 := Nat.sub_zero _
        rw [hz, Nat.zero_add] at hcase
        rcases hcase with ⟨s, t', z', e', _, _, hfind⟩ | ⟨hno, _, _⟩
        · have hmem2 := List.mem_of_find?_eq_some hfind
          have : (s, p.2) = p := by
            -- two entries of one place
            have hpl2 : ∀ (i : Nat) (l : List A) (vs : List Value) (b : List (Nat × Nat)), ArgsL a st1 S1 i l vs b → ∀ q ∈ b, ∀ q' ∈ b, q.2 = q'.2 → q = q' := by
              intro i l vs b hA
              induction hA with
              | nil => intro q hq; cases hq
              | v _ _ ih => exact ih
              | nilsl _ ih => exact ih
              | @box i s t x l vs b hs' hA' ih =>
                intro q hq q' hq' e
                have hpl3 := hA'.places.2.1
                rcases List.mem_cons.1 hq with rfl | hq
                · rcases List.mem_cons.1 hq' with rfl | hq'
                  · rfl
                  · have := hpl3 q' hq'; simp at e; omega
                · rcases List.mem_cons.1 hq' with rfl | hq'
                  · have := hpl3 q hq; simp at e; omega
                  · exact ih q hq q' hq' e
            exact hpl2 _ _ _ _ hl _ hmem2 _ hp' rfl
          have e2 : s = p.1 := congrArg Prod.fst this
          unfold obA; rw [hfind, e2]; rfl
        · simp [isBoxA] at hno
      have hsim : SimD c (applyBack ((E.fn f l).out y).2 b st1) a w' S2 ob1 := by
        refine ⟨hs1.defers, by rw [applyBack_length]; exact hs1.size, ?_, ?_, by rw [applyBack_length]; exact hs1.out, hs1.inj, ?_, hS2w, hs1.mono.trans hS12, hs1.fresh, ?_, hs1.lent, hs1.frame.trans hwf ?_⟩
        · intro i x hx
          by_cases hi : ∃ p ∈ b, p.1 = i
          · obtain ⟨p, hp', rfl⟩ := hi
            obtain ⟨t, z, hst, hlp, hvp⟩ := hback p hp'
            have hlt : p.1 < st1.length := by
              rcases Nat.lt_or_ge p.1 st1.length with h | h
              · exact h
              · simp [List.getElem?_eq_none h] at hst
            rw [applyBack_at _ _ _ _ hnd' hp' hlt] at hx
            simp only [Option.some.injEq] at hx
            rw [Nat.sub_zero] at hlp hvp
            obtain ⟨x', v', hx', hv', _, hrel'⟩ := houts p.2 _ hlp rfl
            rw [hvp] at hv'
            simp only [Option.some.injEq] at hv'
            subst hv'
            have : ((E.fn f l).out y).2.getD p.2 .dead = x' := by simp [List.getD, hx']
            rw [this] at hx
            subst hx
            rw [hroot p hp'] at hrel'
            obtain ⟨t', z', hbx⟩ := hbox p hp'
            rw [this] at hbx
            subst hbx
            exact hrel'.mono (Sub.refl _) (fun _ _ => rfl) (fun r hr => by simp [A.ref] at hr)
          · have hi' : ∀ p ∈ b, p.1 ≠ i := fun p hp' e => hi ⟨p, hp', e⟩
            rw [applyBack_other _ _ _ _ hi'] at hx
            refine (hs1.rel i x hx).mono hS12 (fun k hk => ?_) (fun _ _ => rfl)
            have hk' := hob_lt hk
            have := hwf.same k hk' (by
              rintro ⟨j, hj⟩
              obtain ⟨p, hp', _, hpk⟩ := obA_mem hj
              exact hi' p hp' (hs1.inj _ _ _ hpk hk))
            simpa [hp] using this
        · intro i x r hx hr
          by_cases hi : ∃ p ∈ b, p.1 = i
          · obtain ⟨p, hp', rfl⟩ := hi
            obtain ⟨t, z, hst, _, _⟩ := hback p hp'
            have hlt : p.1 < st1.length := by
              rcases Nat.lt_or_ge p.1 st1.length with h | h
              · exact h
              · simp [List.getElem?_eq_none h] at hst
            rw [applyBack_at _ _ _ _ hnd' hp' hlt] at hx
            obtain ⟨t', z', hbx⟩ := hbox p hp'
            rw [hbx] at hx
            simp at hx; subst hx
            simp [A.ref] at hr
          · rw [applyBack_other _ _ _ _ (fun p hp' e => hi ⟨p, hp', e⟩)] at hx
            obtain ⟨z, hz, hzo⟩ := hs1.refs i x r hx hr
            by_cases hr' : ∃ p ∈ b, p.1 = r
            · obtain ⟨p, hp', rfl⟩ := hr'
              have hlt : p.1 < st1.length := by
                rcases Nat.lt_or_ge p.1 st1.length with h | h
                · exact h
                · simp [List.getElem?_eq_none h] at hz
              obtain ⟨t', z', hbx⟩ := hbox p hp'
              exact ⟨_, applyBack_at _ _ _ _ hnd' hp' hlt, by rw [hbx]; rfl⟩
            · exact ⟨z, by rw [applyBack_other _ _ _ _ (fun p hp' e => hr' ⟨p, hp', e⟩)]; exact hz, hzo⟩
        · intro i k hk
          cases hS2 : S2 k with
          | none => rfl
          | some o2 =>
            rcases hnew k (by rw [hS2]; simp) with h | ⟨j, hj⟩ | h
            · exact absurd (hs1.hid _ _ hk) h
            · have := hhid j k hj
              rw [hS2] at this; cases this
            · have := hob_lt hk; omega
        · intro k hk
          rcases hnew k hk with h | ⟨j, hj⟩ | h
          · exact hs1.newS k h
          · obtain ⟨p, _, _, hpk⟩ := obA_mem hj
            exact .inr (hs1.fresh _ _ hpk)
          · exact .inr (.inr (Nat.le_trans hs1.frame.size h))
        · rintro k ⟨j, hj⟩
          obtain ⟨p, _, _, hpk⟩ := obA_mem hj
          exact hs1.fresh _ _ hpk
      refine lay_sim h3 hb hsim (hres1.mono (Sub.refl _) (fun _ _ => rfl) (fun r hr => by rw [hres2] at hr; cases hr)) (fun k hk => ⟨fun i hi => ?_, (hfresh k hk).1, .inr (Nat.le_trans hs1.frame.size (hfresh k hk).2)⟩)
      have := hob_lt hi
      have := (hfresh k hk).2
      omega
    · exact (exec_fail h2).elim
  · exact (exec_fail h1).elim

theorem call_good {k : Call} (ho : o.op = .call k) (h : exec E (opCmd E o) st fp = some ((), st', fp')) (hb : Base P E c) (hs : SimD c st a w S ob) : Good P c o a w st' := by
  simp only [opCmd, ho] at h
  unfold callCmd at h
  have henter : ∀ {f : FuncId} {fv : Operand}, k.callee = .value fv → a.eval fv = .func (.func f) #[] #[] → (∃ fn, P.funcs[f]? = some fn ∧ fn.body.isSome = true ∧ fn.name ≠ "runtime.NumGoroutine") →
      (execOp a.eval o).run P w = .ok (.enter f (k.args.toList.map a.eval).toArray) w := by
    intro f fv hc hv ⟨fn, hf, hbody, hname⟩
    have hargs : k.args.map a.eval = (k.args.toList.map a.eval).toArray := by apply Array.toList_inj.1; simp
    have hbn : fn.body ≠ none := by intro e; rw [e] at hbody; simp at hbody
    simp [execOp, ho, resolve, hc, hv, Deferred.ofValue, invoke, callFunc, hf, hbn, hname, hargs]
  split at h
  · rename_i f hc
    exact goCall_good (fun _ _ => trivial) (fun hf => henter hc rfl hf) h hb hs
  · rename_i fv hne hc
    obtain ⟨A, fp1, h1, hA, hAo, hAd, hAr⟩ := rdK_inv h hs (hb.globS hs)
    clear h
    split at h1
    · rename_i f first captured
      split at h1
      · rename_i hck
        obtain ⟨h2, h3⟩ := and'_true hck
        have e1 : first = #[] := by simpa using h2
        have e2 : captured = #[] := by simpa using h3
        subst e1; subst e2
        exact goCall_good (fun _ _ => trivial) (fun hf => henter hc hA.1.opq_inv hf) h1 hb hs
      · exact (exec_fail h1).elim
    · exact (exec_fail h1).elim
  · rename_i bi hc
    have hk : ∀ {xs : List Operand} {ts : List TypeId}, k.args.toList = xs → k.argTypes.toList = ts → o.op = .call { callee := .builtin bi, args := xs.toArray, argTypes := ts.toArray } := by
      intro xs ts h1 h2
      rw [ho]
      obtain ⟨kc, ka, kt⟩ := k
      dsimp only at hc h1 h2
      subst hc; subst h1; subst h2
      simp
    split at h
    · rename_i x t h1 h2
      exact len_good (hk h1 h2) h hb hs
    · rename_i s x t u h1 h2
      exact append_good (hk h1 h2) h hb hs
    · rename_i x y h1
      exact minmax_good (mx := false) (hk h1 rfl) h hb hs
    · rename_i x y h1
      exact minmax_good (mx := true) (hk h1 rfl) h hb hs
    · exact (exec_fail h).elim
  · exact (exec_fail h).elim

/-- EVERY OPERATION -/
theorem op_good (h : exec E (opCmd E o) st fp = some ((), st', fp')) (hb : Base P E c) (hs : SimD c st a w S ob) : Good P c o a w st' := by
  cases ho : o.op with
  | move x => exact move_good ho h hb hs
  | assign x => exact asg_good ho h hb hs
  | pick x y z => exact pick_good ho h hb hs
  | alloc el => exact alloc_good ho h hb hs
  | box el x => exact box_good ho h hb hs
  | build t ps => exact build_good ho h hb hs
  | buildSlice t n ps => exact buildSlice_good ho h hb hs
  | load t x => exact load_good ho h hb hs
  | store t x y => exact store_good ho h hb hs
  | nilCheck x => exact nilCheck_good ho h hb hs
  | binOp op t x y u => exact bin_good ho h hb hs
  | unOp op t x => exact un_good ho h hb hs
  | convert s t x => exact conv_good ho h hb hs
  | makeSlice t l k => exact makeSlice_good ho h hb hs
  | slice t x l k m => exact slice_good ho h hb hs
  | fieldAddr s x f => exact fieldAddr_good ho h hb hs
  | field s x f => exact field_good ho h hb hs
  | indexAddr t x i => exact indexAddr_good ho h hb hs
  | index t x i => exact index_good ho h hb hs
  | range t x => exact range_good ho h hb hs
  | next x i => exact next_good ho h hb hs
  | extract x i => exact extract_good ho h hb hs
  | call k => exact call_good ho h hb hs
  | _ => simp only [opCmd, ho] at h; exact (exec_fail h).elim
end
end Go.Lift
