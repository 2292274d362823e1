/- A typed reading of memory, an evaluator over the translated operations, and its laws (own work, in one text). -/
import Derived.Test.YtnfmbjljpolnnaaDoorLgFw2
import Derived.RangeFuncRecord
import Derived.WalkKit
import Derived.ProofKit
import Derived.OpenShut
import Derived.ShutString
import Derived.ChangeOld
import Derived.Below
/- A region that draws its order: whatever the order, the outcome is that of the text's order. -/
set_option linter.all false
namespace Go.Lift

section
variable {E : Env}

theorem all_mono {α : Type} (k : Cmd α) : ∀ (st : List A) (fp : FP) (r : α × List A × FP), exec E k st fp = some r → fp.all = true → r.2.2.all = true := by
  induction k with
  | ret a => intro st fp r h hf; rw [exec_ret h]; exact hf
  | fail => intro st fp r h; exact (exec_fail h).elim
  | get t k ih => intro st fp r h hf; exact ih _ st _ r h hf
  | set t x k ih =>
    intro st fp r h hf
    simp only [exec, Cmd.cps] at h
    cases hk : okSet E st t x <;> rw [hk] at h
    · simp at h
    · exact ih _ _ r h (by simp [hf])
  | cont t x k ih =>
    intro st fp r h hf
    simp only [exec, Cmd.cps] at h
    cases hk : Nat.blt t st.length <;> rw [hk] at h
    · simp at h
    · exact ih _ _ r h (by simp [hf])
  | retire t k ih => intro st fp r h hf; exact ih _ _ r h (by simp [hf])
  | test b x y ihx ihy =>
    intro st fp r h hf
    rcases exec_test h with ⟨_, h⟩ | ⟨_, h⟩
    · exact ihx st fp r h hf
    · exact ihy st fp r h hf
  | call f args k ih =>
    intro st fp r h hf
    obtain ⟨x, _, h⟩ := exec_call h
    exact ih _ _ st fp r h hf
  | guard d x y z ihx ihy ihz =>
    intro st fp r h hf
    simp only [exec, Cmd.cps] at h
    split at h
    · rename_i b _
      cases b
      · exact ihy _ _ r h hf
      · exact ihx _ _ r h hf
    · exact ihz _ _ r h hf
    · cases h

theorem refL_refs (x : A) : refL x = x.refs := by cases x <;> rfl

theorem hasRef_false {r : Nat} : ∀ {st : List A}, hasRef r st = false → ∀ x ∈ st, r ∉ refL x
  | [], _, x, hx => by cases hx
  | y :: l, h, x, hx => by
    simp only [hasRef] at h
    split at h
    · cases h
    · rename_i hy
      rcases List.mem_cons.1 hx with rfl | hx
      · simpa using hy
      · exact hasRef_false h x hx

theorem map_killA {st : List A} {t : Nat} (h : hasRef t st = false) : st.map (killA t) = st := by
  apply List.ext_getElem?
  intro i
  rw [List.getElem?_map]
  cases hz : st[i]? with
  | none => rfl
  | some z =>
    simp only [Option.map_some]
    congr 1
    rcases killA_cases t z with ⟨e, _⟩ | ⟨_, hc⟩
    · exact e
    · exact absurd (by rw [refL_refs]; exact hc) (hasRef_false h z (List.mem_of_getElem? hz))

theorem map_retA {st : List A} {t : Nat} {y : A} (h : hasRef t st = false) : st.map (retA t y) = st := by
  apply List.ext_getElem?
  intro i
  rw [List.getElem?_map]
  cases hz : st[i]? with
  | none => rfl
  | some z =>
    simp only [Option.map_some]
    congr 1
    have hn := hasRef_false h z (List.mem_of_getElem? hz)
    cases z <;> simp only [retA] <;> simp [refL] at hn
    · rw [beq_false_of_ne (Ne.symm hn)]; rfl
    · rw [beq_false_of_ne (Ne.symm hn)]; rfl
    · rw [beq_false_of_ne (Ne.symm hn)]; rfl
    · rw [show (List.contains _ t) = false by simpa using hn]; rfl
    · rw [beq_false_of_ne (Ne.symm hn)]; rfl
    · rw [beq_false_of_ne (Ne.symm hn)]; rfl

theorem setSt_plain {st : List A} {t : Nat} {x : A} (h : ownRef st t = false) : setSt st t x = st.set t x := by
  unfold ownRef at h
  split at h
  · unfold setSt; split <;> simp [map_killA h]
  rename_i ho
  replace h := ho
  unfold owned at h
  unfold setSt
  split at h
  · cases h
  · cases h
  · cases h
  · cases h
  · cases h
  · cases h
  · rename_i h1 h2 h3 h4 h5 h6
    split
    · rename_i t' xs hy; exact absurd hy (h1 _ _)
    · rename_i t' xs hy; exact absurd hy (h2 _ _)
    · rename_i t' xs hy; exact absurd hy (h3 _ _)
    · rename_i hy; exact absurd hy h4
    · rename_i t' xs hy; exact absurd hy (h5 _ _)
    · rename_i xs hy; exact absurd hy (h6 _)
    · rfl

theorem owned_same {st st2 : List A} {t : Nat} (h : st2[t]? = st[t]?) : owned st2 t = owned st t := by
  unfold owned
  have : st2.getD t .dead = st.getD t .dead := by simp [List.getD, h]
  rw [this]

theorem okSet_same {st st2 : List A} {t : Nat} {x : A} (hl : st2.length = st.length) (h : ∀ r ∈ refL x, st2[r]? = st[r]?) : okSet E st2 t x = okSet E st t x := by
  unfold okSet
  rw [hl]
  have : refOk st2 t x = refOk st t x := by
    cases x <;> simp only [refOk, refL, List.mem_singleton, List.not_mem_nil, false_implies, implies_true, forall_eq] at h ⊢
    · rw [owned_same h]
    · rw [owned_same h]
    · rw [owned_same h]
    · rename_i f rs
      have : ∀ r ∈ rs, (and' (!(Nat.beq r t)) (owned st2 r)) = (and' (!(Nat.beq r t)) (owned st r)) := fun r hr => by rw [owned_same (h r hr)]
      rw [Bool.eq_iff_iff, List.all_eq_true, List.all_eq_true]
      exact ⟨fun g r hr => by rw [← this r hr]; exact g r hr, fun g r hr => by rw [this r hr]; exact g r hr⟩
    · rw [owned_same h]
    · rw [owned_same h]
  rw [this]

theorem set_at {st : List A} {t i : Nat} {x : A} (h : t < st.length) : (st.set t x)[i]? = if i = t then some x else st[i]? := by
  by_cases hi : i = t
  · subst hi; simp [h]
  · rw [if_neg hi, List.getElem?_set_ne (Ne.symm hi)]

/-- the values of cells, or all that names a block -/
def kL : Bool → A → List Nat
  | true, x => celL x
  | false, x => refL x

theorem kL_ref {c : Bool} {u : Nat} {x : A} (h : u ∈ kL c x) : u ∈ refL x := by
  cases c
  · exact h
  · cases x <;> simp [kL, celL] at h
    · simp [refL, h]
    · simp [refL, h]
    · simp [refL, h]

/-- temporary i names u's block -/
def celAt (c : Bool) (u : Nat) (st : List A) (i : Nat) : Prop := ∃ x, st[i]? = some x ∧ u ∈ kL c x

theorem hasRef_iff {u : Nat} : ∀ {st : List A}, hasRef u st = true ↔ ∃ i, celAt false u st i
  | [] => by simp [hasRef, celAt]
  | x :: l => by
    have ih := hasRef_iff (u := u) (st := l)
    have split : (∃ i, celAt false u (x :: l) i) ↔ (u ∈ refL x ∨ ∃ i, celAt false u l i) := by
      constructor
      · rintro ⟨i, y, h, hy⟩
        cases i with
        | zero => simp at h; subst h; exact .inl hy
        | succ i => exact .inr ⟨i, y, by simpa using h, hy⟩
      · rintro (h | ⟨i, y, h, hy⟩)
        · exact ⟨0, x, by simp, h⟩
        · exact ⟨i + 1, y, by simpa using h, hy⟩
    rw [split, ← ih]
    simp only [hasRef]
    cases hc : (refL x).contains u with
    | true => simp at hc; simp [hc]
    | false => simp at hc; simp [hc]

theorem hasCel_iff {u : Nat} : ∀ {st : List A}, hasCel u st = true ↔ ∃ i, celAt true u st i
  | [] => by simp [hasCel, celAt]
  | x :: l => by
    have ih := hasCel_iff (u := u) (st := l)
    have split : (∃ i, celAt true u (x :: l) i) ↔ (u ∈ celL x ∨ ∃ i, celAt true u l i) := by
      constructor
      · rintro ⟨i, y, h, hy⟩
        cases i with
        | zero => simp at h; subst h; exact .inl hy
        | succ i => exact .inr ⟨i, y, by simpa using h, hy⟩
      · rintro (h | ⟨i, y, h, hy⟩)
        · exact ⟨0, x, by simp, h⟩
        · exact ⟨i + 1, y, by simpa using h, hy⟩
    rw [split, ← ih]
    cases x <;> simp only [hasCel, celL, List.not_mem_nil, false_or, List.mem_singleton]
    case cel s n p =>
      cases hb : Nat.beq s u with
      | true => simp [Nat.eq_of_beq_eq_true hb]
      | false =>
        have : ¬ u = s := by intro e; subst e; simp [Nat.beq_refl] at hb
        simp [this]
    case pel s n p v q =>
      cases hb : Nat.beq s u with
      | true => simp [Nat.eq_of_beq_eq_true hb]
      | false =>
        have : ¬ u = s := by intro e; subst e; simp [Nat.beq_refl] at hb
        simp [this]
    case psl s n p v q lo hi =>
      cases hb : Nat.beq s u with
      | true => simp [Nat.eq_of_beq_eq_true hb]
      | false =>
        have : ¬ u = s := by intro e; subst e; simp [Nat.beq_refl] at hb
        simp [this]

theorem contSt_plain {st : List A} {r : Nat} {x : A} (h : hasCel r st = false) : contSt st r x = st.set r x := by
  unfold contSt
  congr 1
  apply List.ext_getElem?
  intro i
  rw [List.getElem?_map]
  cases hz : st[i]? with
  | none => rfl
  | some z =>
    simp only [Option.map_some]
    congr 1
    rcases killC_cases r z with ⟨e, _⟩ | ⟨_, hc, _⟩
    · exact e
    · exfalso
      have : ∃ i, celAt true r st i := by
        cases z <;> simp [A.cell] at hc
        · subst hc
          exact ⟨i, _, hz, by simp [kL, celL]⟩
        · subst hc
          exact ⟨i, _, hz, by simp [kL, celL]⟩
        · subst hc
          exact ⟨i, _, hz, by simp [kL, celL]⟩
      rw [hasCel_iff.2 this] at h; cases h

theorem celAt_set {st : List A} {c : Bool} {t u i : Nat} {x : A} (h : t < st.length) : celAt c u (st.set t x) i ↔ if i = t then u ∈ kL c x else celAt c u st i := by
  unfold celAt
  rw [set_at h]
  split
  · simp
  · rfl

theorem celAt_getD {st : List A} {c : Bool} {u t : Nat} (h : celAt c u st t) : u ∈ refL (st.getD t .dead) := by
  obtain ⟨x, h, hx⟩ := h
  have : st.getD t .dead = x := by simp [List.getD, h]
  rw [this]; exact kL_ref hx

theorem retSt_plain {st : List A} {t : Nat} (h : hasRef t st = false) : retSt st t = match retV (st.getD t .dead) with
    | some y => st.set t y
    | none => st := by
  unfold retSt
  split <;> simp_all [map_retA h]

theorem retV_refs {x y : A} (h : retV x = some y) : refL y = [] ∧ refL x = [] := by
  cases x <;> simp [retV] at h
  · subst h; exact ⟨rfl, rfl⟩
  · split at h
    · cases h; exact ⟨rfl, rfl⟩
    · cases h
  · unfold retOv at h
    split at h
    · cases h; exact ⟨rfl, rfl⟩
    · cases h
    · split at h
      · cases h; exact ⟨rfl, rfl⟩
      · cases h

theorem frame {α : Type} (k : Cmd α) : ∀ (st : List A) (fp : FP) (r : α × List A × FP), exec E k st fp = some r → r.2.2.all = false →
    (∀ t ∈ fp.rd, t ∈ r.2.2.rd) ∧ (∀ t ∈ fp.wr, t ∈ r.2.2.wr) ∧ r.2.1.length = st.length ∧ (∀ t, t ∉ r.2.2.wr → r.2.1[t]? = st[t]?) ∧ (∀ t, t ∉ r.2.2.rd → ∀ c i, celAt c t r.2.1 i ↔ celAt c t st i) ∧
    ∀ st2 : List A, st2.length = st.length → (∀ t, t ∈ r.2.2.rd ∨ t ∈ fp.wr → st2[t]? = st[t]?) → (∀ t ∈ r.2.2.wr, ∀ c i, celAt c t st2 i ↔ celAt c t st i) →
      ∃ st2', exec E k st2 fp = some (r.1, st2', r.2.2) ∧ st2'.length = st.length ∧ (∀ t ∈ r.2.2.wr, st2'[t]? = r.2.1[t]?) ∧ (∀ t, t ∉ r.2.2.wr → st2'[t]? = st2[t]?) := by
  induction k with
  | ret a =>
    intro st fp r h _
    rw [exec_ret h]
    exact ⟨fun _ h => h, fun _ h => h, rfl, fun _ _ => rfl, fun _ _ _ _ => .rfl, fun st2 hl hag _ => ⟨st2, rfl, hl, fun t ht => hag t (.inr ht), fun _ _ => rfl⟩⟩
  | fail => intro st fp r h; exact (exec_fail h).elim
  | get t k ih =>
    intro st fp r h ha
    obtain ⟨h1, h2, h3, h4, h6, h5⟩ := ih _ st _ r h ha
    refine ⟨fun u hu => h1 u (by simp [hu]), h2, h3, h4, h6, fun st2 hl hag hce => ?_⟩
    obtain ⟨st2', g1, g2, g3, g4⟩ := h5 st2 hl hag hce
    refine ⟨st2', ?_, g2, g3, g4⟩
    have : st2.getD t .dead = st.getD t .dead := by
      have := hag t (.inl (h1 t (by simp)))
      simp [List.getD, this]
    show exec E (k (st2.getD t .dead)) st2 _ = _
    rw [this]; exact g1
  | set t x k ih =>
    intro st fp r h ha
    simp only [exec, Cmd.cps] at h
    cases hk : okSet E st t x <;> rw [hk] at h
    · simp at h
    simp only [cond] at h
    obtain ⟨hlt, _, _⟩ := okSet_parts hk
    have hown : ownRef st t = false := by
      cases ho : ownRef st t with
      | false => rfl
      | true =>
        have := all_mono k _ _ r h (by simp [ho])
        rw [ha] at this; cases this
    rw [hown] at h
    rw [setSt_plain hown] at h
    obtain ⟨h1, h2, h3, h4, h6, h5⟩ := ih (st.set t x) _ r h ha
    have hr1 : ∀ u ∈ refL x, u ∈ r.2.2.rd := fun u hu => h1 u (List.mem_append.2 (.inl hu))
    have hr2 : ∀ u ∈ refL (st.getD t .dead), u ∈ r.2.2.rd := fun u hu => h1 u (List.mem_append.2 (.inr (List.mem_append.2 (.inl hu))))
    have hr3 : t ∈ r.2.2.rd := h1 t (List.mem_append.2 (.inr (List.mem_append.2 (.inr (by simp)))))
    have hr4 : ∀ u ∈ fp.rd, u ∈ r.2.2.rd := fun u hu => h1 u (List.mem_append.2 (.inr (List.mem_append.2 (.inr (by simp [hu])))))
    refine ⟨hr4, fun u hu => h2 u (by simp [hu]), by simpa using h3, fun u hu => ?_, fun u hu c i => ?_, fun st2 hl hag hce => ?_⟩
    · rw [h4 u hu, set_at hlt, if_neg]
      intro e; subst e; exact hu (h2 _ (by simp))
    · rw [h6 u hu c i, celAt_set hlt]
      split
      · rename_i e
        subst e
        constructor
        · intro e; exact absurd (hr1 u (kL_ref e)) hu
        · intro hc; exact absurd (hr2 u (celAt_getD hc)) hu
      · rfl
    · have href : ∀ s ∈ refL x, st2[s]? = st[s]? := fun s hs => hag s (.inl (hr1 s hs))
      have hlt2 : t < st2.length := by omega
      have hagt : st2[t]? = st[t]? := hag t (.inl hr3)
      have hgd : st2.getD t .dead = st.getD t .dead := by simp [List.getD, hagt]
      have htw : t ∈ r.2.2.wr := h2 t (by simp)
      have ho2 : ownRef st2 t = false := by
        unfold ownRef at hown ⊢
        rw [owned_same hagt]
        cases ho : owned st t with
        | false => rfl
        | true =>
          rw [ho] at hown
          dsimp only at hown ⊢
          cases hr : hasRef t st2 with
          | false => rfl
          | true =>
            obtain ⟨i, hi⟩ := hasRef_iff.1 hr
            rw [hasRef_iff.2 ⟨i, (hce t htw false i).1 hi⟩] at hown; cases hown
      obtain ⟨st2', g1, g2, g3, g4⟩ := h5 (st2.set t x) (by simp [hl]) (fun u hu => by
        rw [set_at hlt2, set_at hlt]
        by_cases e : u = t
        · rw [if_pos e, if_pos e]
        · rw [if_neg e, if_neg e]
          rcases hu with hu | hu
          · exact hag u (.inl hu)
          · rcases List.mem_cons.1 hu with hu | hu
            · exact absurd hu e
            · exact hag u (.inr hu)) (fun u hu c i => by
        rw [celAt_set hlt2, celAt_set hlt]
        split
        · rfl
        · exact hce u hu c i)
      refine ⟨st2', ?_, by simpa using g2, g3, fun u hu => ?_⟩
      · simp only [exec, Cmd.cps]
        rw [okSet_same hl href, hk, setSt_plain ho2, ho2, hgd]
        exact g1
      · rw [g4 u hu, set_at hlt2, if_neg]
        intro e; subst e; exact hu (h2 _ (by simp))
  | cont t x k ih =>
    intro st fp r h ha
    simp only [exec, Cmd.cps] at h
    cases hk : Nat.blt t st.length <;> rw [hk] at h
    · simp at h
    simp only [cond] at h
    have hlt : t < st.length := by simpa using hk
    have hnc : hasCel t st = false := by
      cases ho : hasCel t st with
      | false => rfl
      | true =>
        have := all_mono k _ _ r h (by simp [ho])
        rw [ha] at this; cases this
    rw [contSt_plain hnc, hnc] at h
    obtain ⟨h1, h2, h3, h4, h6, h5⟩ := ih (st.set t x) _ r h ha
    have hr1 : ∀ u ∈ refL x, u ∈ r.2.2.rd := fun u hu => h1 u (List.mem_append.2 (.inl hu))
    have hr2 : ∀ u ∈ refL (st.getD t .dead), u ∈ r.2.2.rd := fun u hu => h1 u (List.mem_append.2 (.inr (List.mem_append.2 (.inl hu))))
    have hr3 : t ∈ r.2.2.rd := h1 t (List.mem_append.2 (.inr (List.mem_append.2 (.inr (by simp)))))
    have hr4 : ∀ u ∈ fp.rd, u ∈ r.2.2.rd := fun u hu => h1 u (List.mem_append.2 (.inr (List.mem_append.2 (.inr (by simp [hu])))))
    refine ⟨hr4, fun u hu => h2 u (by simp [hu]), by simpa using h3, fun u hu => ?_, fun u hu c i => ?_, fun st2 hl hag hce => ?_⟩
    · rw [h4 u hu, set_at hlt, if_neg]
      intro e; subst e; exact hu (h2 _ (by simp))
    · rw [h6 u hu c i, celAt_set hlt]
      split
      · rename_i e
        subst e
        constructor
        · intro e; exact absurd (hr1 u (kL_ref e)) hu
        · intro hc; exact absurd (hr2 u (celAt_getD hc)) hu
      · rfl
    · have hlt2 : t < st2.length := by omega
      have htw : t ∈ r.2.2.wr := h2 t (by simp)
      have hnc2 : hasCel t st2 = false := by
        cases ho : hasCel t st2 with
        | false => rfl
        | true =>
          obtain ⟨i, hi⟩ := hasCel_iff.1 ho
          rw [hasCel_iff.2 ⟨i, (hce t htw true i).1 hi⟩] at hnc; cases hnc
      have hagt : st2[t]? = st[t]? := hag t (.inl hr3)
      have hgd : st2.getD t .dead = st.getD t .dead := by simp [List.getD, hagt]
      obtain ⟨st2', g1, g2, g3, g4⟩ := h5 (st2.set t x) (by simp [hl]) (fun u hu => by
        rw [set_at hlt2, set_at hlt]
        by_cases e : u = t
        · rw [if_pos e, if_pos e]
        · rw [if_neg e, if_neg e]
          rcases hu with hu | hu
          · exact hag u (.inl hu)
          · rcases List.mem_cons.1 hu with hu | hu
            · exact absurd hu e
            · exact hag u (.inr hu)) (fun u hu c i => by
        rw [celAt_set hlt2, celAt_set hlt]
        split
        · rfl
        · exact hce u hu c i)
      refine ⟨st2', ?_, by simpa using g2, g3, fun u hu => ?_⟩
      · simp only [exec, Cmd.cps]
        rw [hl, hk, contSt_plain hnc2, hnc2, hgd]
        exact g1
      · rw [g4 u hu, set_at hlt2, if_neg]
        intro e; subst e; exact hu (h2 _ (by simp))
  | retire t k ih =>
    intro st fp r h ha
    simp only [exec, Cmd.cps] at h
    have hnr : hasRef t st = false := by
      cases ho : hasRef t st with
      | false => rfl
      | true =>
        have := all_mono k _ _ r h (by simp [ho])
        rw [ha] at this; cases this
    rw [hnr, retSt_plain hnr] at h
    cases hv : retV (st.getD t .dead) with
    | none =>
      rw [hv] at h
      obtain ⟨h1, h2, h3, h4, h6, h5⟩ := ih st _ r h ha
      have hr3 : t ∈ r.2.2.rd := h1 t (by simp)
      refine ⟨fun u hu => h1 u (by simp [hu]), fun u hu => h2 u (by simp [hu]), h3, h4, h6, fun st2 hl hag hce => ?_⟩
      have htw : t ∈ r.2.2.wr := h2 t (by simp)
      have hnr2 : hasRef t st2 = false := by
        cases ho : hasRef t st2 with
        | false => rfl
        | true =>
          obtain ⟨i, hi⟩ := hasRef_iff.1 ho
          rw [hasRef_iff.2 ⟨i, (hce t htw false i).1 hi⟩] at hnr; cases hnr
      have hagt : st2[t]? = st[t]? := hag t (.inl hr3)
      have hgd : st2.getD t .dead = st.getD t .dead := by simp [List.getD, hagt]
      obtain ⟨st2', g1, g2, g3, g4⟩ := h5 st2 hl (fun u hu => by
        rcases hu with hu | hu
        · exact hag u (.inl hu)
        · rcases List.mem_cons.1 hu with rfl | hu
          · exact hagt
          · exact hag u (.inr hu)) hce
      refine ⟨st2', ?_, g2, g3, g4⟩
      simp only [exec, Cmd.cps]
      rw [hnr2, retSt_plain hnr2, hgd, hv]
      exact g1
    | some y =>
      rw [hv] at h
      dsimp only at h
      obtain ⟨hy1, hy2⟩ := retV_refs hv
      have hlt : t < st.length := by
        rcases Nat.lt_or_ge t st.length with h' | h'
        · exact h'
        · rw [List.getD_eq_getElem?_getD, List.getElem?_eq_none h'] at hv; simp [retV] at hv
      obtain ⟨h1, h2, h3, h4, h6, h5⟩ := ih (st.set t y) _ r h ha
      have hr3 : t ∈ r.2.2.rd := h1 t (by simp)
      refine ⟨fun u hu => h1 u (by simp [hu]), fun u hu => h2 u (by simp [hu]), by simpa using h3, fun u hu => ?_, fun u hu c i => ?_, fun st2 hl hag hce => ?_⟩
      · rw [h4 u hu, set_at hlt, if_neg]
        intro e; subst e; exact hu (h2 _ (by simp))
      · rw [h6 u hu c i, celAt_set hlt]
        split
        · rename_i e
          subst e
          constructor
          · intro e; have := kL_ref e; rw [hy1] at this; cases this
          · intro hc; have := celAt_getD hc; rw [hy2] at this; cases this
        · rfl
      · have hlt2 : t < st2.length := by omega
        have htw : t ∈ r.2.2.wr := h2 t (by simp)
        have hnr2 : hasRef t st2 = false := by
          cases ho : hasRef t st2 with
          | false => rfl
          | true =>
            obtain ⟨i, hi⟩ := hasRef_iff.1 ho
            rw [hasRef_iff.2 ⟨i, (hce t htw false i).1 hi⟩] at hnr; cases hnr
        have hagt : st2[t]? = st[t]? := hag t (.inl hr3)
        have hgd : st2.getD t .dead = st.getD t .dead := by simp [List.getD, hagt]
        obtain ⟨st2', g1, g2, g3, g4⟩ := h5 (st2.set t y) (by simp [hl]) (fun u hu => by
          rw [set_at hlt2, set_at hlt]
          by_cases e : u = t
          · rw [if_pos e, if_pos e]
          · rw [if_neg e, if_neg e]
            rcases hu with hu | hu
            · exact hag u (.inl hu)
            · rcases List.mem_cons.1 hu with hu | hu
              · exact absurd hu e
              · exact hag u (.inr hu)) (fun u hu c i => by
          rw [celAt_set hlt2, celAt_set hlt]
          split
          · rfl
          · exact hce u hu c i)
        refine ⟨st2', ?_, by simpa using g2, g3, fun u hu => ?_⟩
        · simp only [exec, Cmd.cps]
          rw [hnr2, retSt_plain hnr2, hgd, hv]
          exact g1
        · rw [g4 u hu, set_at hlt2, if_neg]
          intro e; subst e; exact hu (h2 _ (by simp))
  | test b x y ihx ihy =>
    intro st fp r h ha
    cases b with
    | true => exact ihx st fp r h ha
    | false => exact ihy st fp r h ha
  | call f args k ih =>
    intro st fp r h ha
    obtain ⟨x, hv, h⟩ := exec_call h
    obtain ⟨h1, h2, h3, h4, h6, h5⟩ := ih _ _ st fp r h ha
    refine ⟨h1, h2, h3, h4, h6, fun st2 hl hag hce => ?_⟩
    obtain ⟨st2', g1, g2, g3, g4⟩ := h5 st2 hl hag hce
    refine ⟨st2', ?_, g2, g3, g4⟩
    simp only [exec, Cmd.cps, hv, Option.bind_some]
    exact g1
  | guard d x y z ihx ihy ihz =>
    intro st fp r h ha
    simp only [exec, Cmd.cps] at h
    have key : ∀ (k : Cmd α) (ih : ∀ (st : List A) (fp : FP) (r : α × List A × FP), exec E k st fp = some r → r.2.2.all = false →
        (∀ t ∈ fp.rd, t ∈ r.2.2.rd) ∧ (∀ t ∈ fp.wr, t ∈ r.2.2.wr) ∧ r.2.1.length = st.length ∧ (∀ t, t ∉ r.2.2.wr → r.2.1[t]? = st[t]?) ∧ (∀ t, t ∉ r.2.2.rd → ∀ c i, celAt c t r.2.1 i ↔ celAt c t st i) ∧
        ∀ st2 : List A, st2.length = st.length → (∀ t, t ∈ r.2.2.rd ∨ t ∈ fp.wr → st2[t]? = st[t]?) → (∀ t ∈ r.2.2.wr, ∀ c i, celAt c t st2 i ↔ celAt c t st i) →
          ∃ st2', exec E k st2 fp = some (r.1, st2', r.2.2) ∧ st2'.length = st.length ∧ (∀ t ∈ r.2.2.wr, st2'[t]? = r.2.1[t]?) ∧ (∀ t, t ∉ r.2.2.wr → st2'[t]? = st2[t]?)),
        exec E k st { fp with rd := d :: fp.rd } = some r → (∀ st2 : List A, st2.getD d .dead = st.getD d .dead → exec E (.guard d x y z) st2 fp = exec E k st2 { fp with rd := d :: fp.rd }) →
        (∀ t ∈ fp.rd, t ∈ r.2.2.rd) ∧ (∀ t ∈ fp.wr, t ∈ r.2.2.wr) ∧ r.2.1.length = st.length ∧ (∀ t, t ∉ r.2.2.wr → r.2.1[t]? = st[t]?) ∧ (∀ t, t ∉ r.2.2.rd → ∀ c i, celAt c t r.2.1 i ↔ celAt c t st i) ∧
        ∀ st2 : List A, st2.length = st.length → (∀ t, t ∈ r.2.2.rd ∨ t ∈ fp.wr → st2[t]? = st[t]?) → (∀ t ∈ r.2.2.wr, ∀ c i, celAt c t st2 i ↔ celAt c t st i) →
          ∃ st2', exec E (.guard d x y z) st2 fp = some (r.1, st2', r.2.2) ∧ st2'.length = st.length ∧ (∀ t ∈ r.2.2.wr, st2'[t]? = r.2.1[t]?) ∧ (∀ t, t ∉ r.2.2.wr → st2'[t]? = st2[t]?) := by
      intro k ih hk hsame
      obtain ⟨h1, h2, h3, h4, h6, h5⟩ := ih st _ r hk ha
      refine ⟨fun u hu => h1 u (by simp [hu]), h2, h3, h4, h6, fun st2 hl hag hce => ?_⟩
      obtain ⟨st2', g1, g2, g3, g4⟩ := h5 st2 hl hag hce
      refine ⟨st2', ?_, g2, g3, g4⟩
      have : st2.getD d .dead = st.getD d .dead := by
        have := hag d (.inl (h1 d (by simp)))
        simp [List.getD, this]
      rw [hsame st2 this]; exact g1
    split at h
    · rename_i b hb
      cases b
      · simp only [cond] at h
        rw [set_getD hb (by simp)] at h
        refine key y ihy h fun st2 hst => ?_
        rw [hb] at hst
        simp only [exec, Cmd.cps, hst, cond, set_getD hst (by simp)]
      · simp only [cond] at h
        rw [set_getD hb (by simp)] at h
        refine key x ihx h fun st2 hst => ?_
        rw [hb] at hst
        simp only [exec, Cmd.cps, hst, cond, set_getD hst (by simp)]
    · rename_i hb
      refine key z ihz h fun st2 hst => ?_
      rw [hb] at hst
      simp only [exec, Cmd.cps, hst]
    · cases h

theorem meets_false : ∀ {l m : List Nat}, meets l m = false → ∀ t ∈ l, t ∉ m
  | [], _, _, t, ht => by cases ht
  | x :: l, m, h, t, ht => by
    simp only [meets] at h
    split at h
    · cases h
    · rename_i hx
      rcases List.mem_cons.1 ht with rfl | ht
      · simpa using hx
      · exact meets_false h t ht

theorem conflict_false {f g : FP} (h : conflict f g = false) : f.all = false ∧ g.all = false ∧ (∀ t ∈ f.wr, t ∉ g.rd) ∧ (∀ t ∈ f.wr, t ∉ g.wr) ∧ (∀ t ∈ g.wr, t ∉ f.rd) := by
  simp only [conflict, Bool.or_eq_false_iff] at h
  exact ⟨h.1, h.2.1, meets_false h.2.2.1, meets_false h.2.2.2.1, meets_false h.2.2.2.2⟩

/-- two operations that do not meet may come in either order -/
theorem commute {α : Type} {k1 k2 : Cmd α} {x1 x2 : α} {st st1 st2 : List A} {f1 f2 : FP} (h1 : exec E k1 st fp0 = some (x1, st1, f1)) (h2 : exec E k2 st1 fp0 = some (x2, st2, f2)) (hc : conflict f1 f2 = false) :
    ∃ st1', exec E k2 st fp0 = some (x2, st1', f2) ∧ exec E k1 st1' fp0 = some (x1, st2, f1) := by
  obtain ⟨a1, a2, c1, c2, c3⟩ := conflict_false hc
  obtain ⟨_, _, l1, s1, q1, fr1⟩ := frame k1 st fp0 _ h1 a1
  obtain ⟨_, _, l2, s2, q2, fr2⟩ := frame k2 st1 fp0 _ h2 a2
  dsimp only at l1 s1 q1 fr1 l2 s2 q2 fr2
  obtain ⟨st1', g1, g2, g3, g4⟩ := fr2 st l1.symm (fun t ht => by
    rcases ht with ht | ht
    · exact (s1 t (fun hw => c1 t hw ht)).symm
    · cases ht) (fun t ht c i => (q1 t (c3 t ht) c i).symm)
  obtain ⟨_, _, _, _, q3, _⟩ := frame k2 st fp0 _ g1 a2
  dsimp only at q3
  obtain ⟨st2', k1', k2', k3, k4⟩ := fr1 st1' (by omega) (fun t ht => by
    rcases ht with ht | ht
    · exact g4 t (fun hw => c3 t hw ht)
    · cases ht) (fun t ht c i => q3 t (c1 t ht) c i)
  refine ⟨st1', g1, ?_⟩
  have : st2' = st2 := by
    apply List.ext_getElem?
    intro t
    by_cases ht1 : t ∈ f1.wr
    · rw [k3 t ht1, s2 t (c2 t ht1)]
    · rw [k4 t ht1]
      by_cases ht2 : t ∈ f2.wr
      · exact g3 t ht2
      · rw [g4 t ht2, s2 t ht2, s1 t ht1]
  rw [this] at k1'
  exact k1'

/-! ## lists of indices -/

inductive RunI (E : Env) (all : Array Oper) (fps : List FP) : List Nat → List A → List A → Prop
  | nil {st : List A} : RunI E all fps [] st st
  | cons {i : Nat} {o : Oper} {l : List Nat} {st st1 st2 : List A} (ho : all[i]? = some o) (h : exec E (guardCmd E all o) st fp0 = some ((), st1, fps.getD i fp0)) (hr : RunI E all fps l st1 st2) : RunI E all fps (i :: l) st st2

theorem run_index {all : Array Oper} : ∀ {l : List Oper} {fs : List FP} {st st' : List A} (k : Nat) (fps : List FP), Run E all l fs st st' → (∀ j, l[j]? = all[k + j]?) → (∀ j f, fs[j]? = some f → fps.getD (k + j) fp0 = f) →
    RunI E all fps (List.range' k l.length) st st'
  | [], _, _, _, k, fps, .nil, _, _ => .nil
  | o :: l, f :: fs, st, st', k, fps, .cons h hr, hl, hf => by
    rw [List.length_cons, List.range'_succ]
    have h0 : fps.getD k fp0 = f := by simpa using hf 0 f rfl
    refine .cons (by simpa using (hl 0).symm) (by rw [h0]; exact h) (run_index (k + 1) fps hr (fun j => ?_) (fun j g hj => ?_))
    · have := hl (j + 1); simpa [Nat.add_assoc, Nat.add_comm 1 j] using this
    · have := hf (j + 1) g (by simpa using hj); simpa [Nat.add_assoc, Nat.add_comm 1 j] using this

/-- an operation that meets none of those ahead of it may come first -/
theorem to_front {all : Array Oper} {fps : List FP} {i : Nat} : ∀ (l1 l2 : List Nat) (st st' : List A), RunI E all fps (l1 ++ i :: l2) st st' → (∀ j ∈ l1, conflict (fps.getD j fp0) (fps.getD i fp0) = false) →
    RunI E all fps (i :: (l1 ++ l2)) st st'
  | [], l2, st, st', h, _ => h
  | j :: l1, l2, st, st', h, hc => by
    cases h with
    | cons ho h hr =>
      have := to_front l1 l2 _ _ hr (fun k hk => hc k (by simp [hk]))
      cases this with
      | cons ho2 h2 hr2 =>
        obtain ⟨st1', g1, g2⟩ := commute h h2 (hc j (by simp))
        exact .cons ho2 g1 (.cons ho g2 hr2)

/-! ## who waits for whom -/

inductive Anc (all : List Oper) : Nat → Nat → Prop
  | base {i j : Nat} {o : Oper} (hj : all[j]? = some o) (h : i ∈ preds o) : Anc all i j
  | step {i k j : Nat} {o : Oper} (hj : all[j]? = some o) (hk : k ∈ preds o) (h : Anc all i k) : Anc all i j

theorem mask_fold {acc : List Nat} {i : Nat} : ∀ (ks : List Nat) (m : Nat), (ks.foldl (fun m k => m ||| (2 ^ k ||| acc.getD k 0)) m).testBit i = true → m.testBit i = true ∨ ∃ k ∈ ks, i = k ∨ (acc.getD k 0).testBit i = true
  | [], m, h => .inl h
  | k :: ks, m, h => by
    rcases mask_fold ks _ h with h | ⟨k', hk', h⟩
    · rw [Nat.testBit_or, Nat.testBit_or] at h
      rcases Bool.or_eq_true _ _ ▸ h with h | h
      · exact .inl h
      · rcases Bool.or_eq_true _ _ ▸ h with h | h
        · rw [Nat.testBit_two_pow] at h
          exact .inr ⟨k, by simp, .inl (by have := of_decide_eq_true h; omega)⟩
        · exact .inr ⟨k, by simp, .inr h⟩
    · exact .inr ⟨k', by simp [hk'], h⟩

theorem masks_spec (all : List Oper) : ∀ (l : List Oper) (acc : List Nat), (∃ pre, all = pre ++ l ∧ pre.length = acc.length) → (∀ j m i, acc[j]? = some m → m.testBit i = true → Anc all i j) →
    ∀ j m i, (masks l acc)[j]? = some m → m.testBit i = true → Anc all i j
  | [], acc, _, h, j, m, i, hj, hm => h j m i hj hm
  | o :: l, acc, ⟨pre, he, hl⟩, h, j, m, i, hj, hm => by
    refine masks_spec all l _ ⟨pre ++ [o], by simp [he], by simp [hl]⟩ ?_ j m i hj hm
    intro j m i hj hm
    have happ : (acc.append [(preds o).foldl (fun m k => m ||| (2 ^ k ||| acc.getD k 0)) 0]) = acc ++ [(preds o).foldl (fun m k => m ||| (2 ^ k ||| acc.getD k 0)) 0] := rfl
    rw [happ] at hj
    by_cases hlt : j < acc.length
    · rw [List.getElem?_append_left hlt] at hj
      exact h j m i hj hm
    · rw [List.getElem?_append_right (by omega)] at hj
      have hj0 : j = acc.length := by
        rcases Nat.lt_or_ge (j - acc.length) 1 with h' | h'
        · omega
        · rw [List.getElem?_eq_none (by simpa using h')] at hj; cases hj
      subst hj0
      simp at hj
      subst hj
      have ho : all[acc.length]? = some o := by rw [he, ← hl]; simp
      rcases mask_fold _ _ hm with h' | ⟨k, hk, h' | h'⟩
      · simp at h'
      · subst h'; exact .base ho hk
      · refine .step ho hk ?_
        cases hk' : acc[k]? with
        | none => simp [List.getD, hk'] at h'
        | some mk => exact h k mk i hk' (by simpa [List.getD, hk'] using h')


theorem anc_listed {all : Array Oper} {listed : Array Bool} (hcl : ∀ j o, all[j]? = some o → listed.getD j false = true → ∀ k ∈ preds o, listed.getD k false = true) {i j : Nat} (h : Anc all.toList i j) :
    (∀ o, all[j]? = some o → ∀ k ∈ preds o, listed.getD k false = true) → listed.getD i false = true := by
  induction h with
  | base hj hi => intro hp; exact hp _ (by rw [← Array.getElem?_toList]; exact hj) _ hi
  | @step k j o hj hk _ ih =>
    intro hp
    have hj' : all[j]? = some o := by rw [← Array.getElem?_toList]; exact hj
    exact ih fun o ho k hk' => hcl _ o ho (hp _ hj' _ hk) k hk'

theorem predsOk_spec : ∀ {l : List Oper} {i : Nat}, predsOk i l = true → ∀ j o, l[j]? = some o → ∀ k ∈ preds o, k < i + j
  | [], _, _, j, o, hj => by simp at hj
  | x :: l, i, h, j, o, hj => by
    obtain ⟨h1, h2⟩ := and'_true h
    cases j with
    | zero =>
      simp at hj; subst hj
      intro k hk
      have := List.all_eq_true.1 h1 k hk
      simpa using this
    | succ j =>
      intro k hk
      have := predsOk_spec h2 j o (by simpa using hj) k hk
      omega

theorem preds_mem {o : Oper} {k : Nat} : k ∈ preds o ↔ ∃ e ∈ o.after, Region.binds .any e = true ∧ e.on = k := by
  simp [preds, List.mem_map, List.mem_filter, and_assoc]

theorem ready_iff {all : Array Oper} {listed : Array Bool} {i : Nat} : i ∈ Region.ready .any all listed ↔ i < all.size ∧ listed.getD i true = false ∧ ∃ o, all[i]? = some o ∧ ∀ k ∈ preds o, listed.getD k false = true := by
  simp only [Region.ready, List.mem_filter, List.mem_range, Bool.and_eq_true, Bool.not_eq_true']
  constructor
  · rintro ⟨h1, h2, h3⟩
    have ho : all[i]? = some all[i] := Array.getElem?_eq_getElem h1
    rw [ho] at h3
    refine ⟨h1, h2, _, ho, fun k hk => ?_⟩
    obtain ⟨e, he, hb, rfl⟩ := preds_mem.1 hk
    have h3' : (all[i].after.all fun e => !Region.binds .any e || listed.getD e.on false) = true := h3
    have := Array.all_eq_true'.1 h3' e he
    rw [hb] at this
    exact this
  · rintro ⟨h1, h2, o, ho, h3⟩
    refine ⟨h1, h2, ?_⟩
    rw [ho]
    simp only [Option.map_some, Option.getD_some]
    rw [Array.all_eq_true']
    intro e he
    cases hb : Region.binds .any e with
    | false => rfl
    | true => rw [h3 e.on (preds_mem.2 ⟨e, he, hb, rfl⟩)]; rfl

/-- those not yet listed -/
def left (n : Nat) (listed : Array Bool) : List Nat := (List.range n).filter fun i => !listed.getD i true

theorem mem_left {n i : Nat} {listed : Array Bool} : i ∈ left n listed ↔ i < n ∧ listed.getD i true = false := by
  unfold left
  rw [List.mem_filter, List.mem_range, Bool.not_eq_true']

theorem left_set {n i : Nat} {listed : Array Bool} (hn : listed.size = n) (hi : i < n) (hl : listed.getD i true = false) :
    ∃ l1 l2, left n listed = l1 ++ i :: l2 ∧ left n (listed.setIfInBounds i true) = l1 ++ l2 ∧ ∀ j ∈ l1, j < i := by
  have hsplit : List.range n = List.range i ++ i :: (List.range' (i + 1) (n - i - 1)) := by
    have h1 : List.range n = List.range' 0 i ++ List.range' i (n - i) := by
      rw [List.range_eq_range']
      have := List.range'_append_1 (s := 0) (m := i) (n := n - i)
      rw [Nat.zero_add] at this
      rw [this]; congr 1; omega
    rw [h1, ← List.range_eq_range']
    congr 1
    obtain ⟨k, hk⟩ : ∃ k, n - i = k + 1 := ⟨n - i - 1, by omega⟩
    rw [hk, List.range'_succ]
    simp
  have hget : ∀ j, j ≠ i → (listed.setIfInBounds i true).getD j true = listed.getD j true := by
    intro j hj
    simp [Array.getD_eq_getD_getElem?, Array.getElem?_setIfInBounds_ne (Ne.symm hj)]
  have hgi : (listed.setIfInBounds i true).getD i true = true := by
    simp [Array.getD_eq_getD_getElem?]
  refine ⟨(List.range i).filter fun j => !listed.getD j true, (List.range' (i + 1) (n - i - 1)).filter fun j => !listed.getD j true, ?_, ?_, ?_⟩
  · unfold left
    rw [hsplit, List.filter_append, List.filter_cons, if_pos (by simp [hl])]
  · unfold left
    rw [hsplit, List.filter_append, List.filter_cons, if_neg (by simp [hgi])]
    congr 1
    · apply List.filter_congr; intro j hj; rw [hget j (by simp at hj; omega)]
    · apply List.filter_congr; intro j hj; rw [hget j (by simp [List.mem_range'] at hj; omega)]
  · intro j hj
    simp at hj; exact hj.1

variable {P : Program} {c : Ctx}

theorem any_sound {ρ : Option Nat} {all : Array Oper} {Q : Exit → Act → World → Prop} {fps : List FP} {st' : List A} (hb : Base P E c) (hok : drawOk all.toList fps = true) (hq : ∀ a w, Sim c st' a w → Q .normal a w) :
    ∀ (fuel : Nat) (listed : Array Bool) (st : List A) (a : Act) (w : World), listed.size = all.size → (left all.size listed).length ≤ fuel →
      (∀ j o, all[j]? = some o → listed.getD j false = true → ∀ k ∈ preds o, listed.getD k false = true) →
      RunI E all fps (left all.size listed) st st' → Sim c st a w → wpAnyIn (FR ρ) 0 P .any all Q fuel listed a w := by
  obtain ⟨hpo, hpairs⟩ := and'_true hok
  have hpred := predsOk_spec hpo
  have hready : ∀ listed : Array Bool, listed.size = all.size → Region.ready .any all listed = [] → left all.size listed = [] := by
    intro listed hsz hr
    cases hl : left all.size listed with
    | nil => rfl
    | cons i l =>
      -- the least one that is left is ready
      exfalso
      have himem : i ∈ left all.size listed := by rw [hl]; simp
      have hi : i < all.size ∧ listed.getD i true = false := mem_left.1 himem
      have hmin : ∀ j, j < i → listed.getD j true = true := by
        intro j hj
        obtain ⟨l1, l2, h1, _, h3⟩ := left_set hsz hi.1 hi.2
        cases l1 with
        | nil =>
          cases hlj : listed.getD j true with
          | true => rfl
          | false =>
            have hmem : j ∈ left all.size listed := mem_left.2 ⟨by omega, hlj⟩
            obtain ⟨m1, m2, g1, _, g3⟩ := left_set hsz (by omega : j < all.size) hlj
            rw [h1] at g1
            cases m1 with
            | nil => simp at g1; omega
            | cons y m1 => simp at g1; have := g3 y (by simp); omega
        | cons x l1 =>
          rw [h1] at hl
          simp at hl
          have := h3 x (by simp)
          omega
      have : i ∈ Region.ready .any all listed := by
        refine ready_iff.2 ⟨hi.1, hi.2, all[i], Array.getElem?_eq_getElem hi.1, fun k hk => ?_⟩
        have hki := hpred i all[i] (by rw [Array.getElem?_toList]; exact Array.getElem?_eq_getElem hi.1) k hk
        have := hmin k (by omega)
        have hks : k < listed.size := by omega
        simpa [Array.getD_eq_getD_getElem?, hks] using this
      rw [hr] at this
      cases this
  intro fuel
  induction fuel with
  | zero =>
    intro listed st a w hsz hlen hcl hrun hs
    have hnil : left all.size listed = [] := List.length_eq_zero_iff.1 (by omega)
    rw [hnil] at hrun
    cases hrun
    refine ⟨?_, hq a w hs⟩
    cases hr : Region.ready .any all listed with
    | nil => rfl
    | cons i l =>
      exfalso
      have hi := ready_iff.1 (show i ∈ Region.ready .any all listed by rw [hr]; simp)
      have : i ∈ left all.size listed := mem_left.2 ⟨hi.1, hi.2.1⟩
      rw [hnil] at this; cases this
  | succ fuel ih =>
    intro listed st a w hsz hlen hcl hrun hs
    refine ⟨fun hr => ?_, fun i hi => ?_⟩
    · rw [hready listed hsz hr] at hrun
      cases hrun
      exact hq a w hs
    · obtain ⟨hil, hl, o, ho, hp⟩ := ready_iff.1 hi
      obtain ⟨l1, l2, h1, h2, h3⟩ := left_set hsz hil hl
      rw [h1] at hrun
      have hfront := to_front l1 l2 _ _ hrun (fun j hj => by
        have hji := h3 j hj
        have hjl : listed.getD j true = false := by
          have : j ∈ left all.size listed := by rw [h1]; simp [hj]
          exact (mem_left.1 this).2
        have hpr := List.all_eq_true.1 hpairs i (by simpa using hil)
        have hpj := List.all_eq_true.1 hpr j (by simpa using hji)
        unfold pairOk at hpj
        split at hpj
        · rename_i hcf; exact hcf
        · exfalso
          have hanc : Anc all.toList j i := by
            cases hm : (masks all.toList [])[i]? with
            | none => simp [List.getD, hm] at hpj
            | some m => exact masks_spec all.toList all.toList [] ⟨[], rfl, rfl⟩ (fun j m i hj _ => by simp at hj) i m j hm (by simpa [List.getD, hm] using hpj)
          have := anc_listed hcl hanc (fun o' ho' k hk => by rw [ho] at ho'; cases ho'; exact hp k hk)
          have hjs : j < listed.size := by omega
          simp [Array.getD_eq_getD_getElem?, hjs] at this hjl
          rw [this] at hjl; cases hjl)
      cases hfront with
      | cons ho2 hx hr =>
        rw [ho] at ho2; cases ho2
        have hg := guard_good hx hb hs
        have hnext : ∀ a' w', Sim c _ a' w' → wpAnyIn (FR ρ) 0 P .any all Q fuel (listed.setIfInBounds i true) a' w' := fun a' w' hs' => by
          refine ih _ _ a' w' (by simpa using hsz) (by rw [h2]; rw [h1] at hlen; simp at hlen ⊢; omega) ?_ (by rw [h2]; exact hr) hs'
          intro j o' hj hlj k hk
          have hset : ∀ k, listed.getD k false = true → (listed.setIfInBounds i true).getD k false = true := by
            intro k hk
            by_cases e : i = k
            · subst e; simp [Array.getD_eq_getD_getElem?, show i < listed.size by omega]
            · simpa [Array.getD_eq_getD_getElem?, Array.getElem?_setIfInBounds_ne e] using hk
          by_cases e : i = j
          · subst e
            rw [ho] at hj; cases hj
            exact hset k (hp k hk)
          · refine hset k (hcl j o' hj ?_ k hk)
            simpa [Array.getD_eq_getD_getElem?, Array.getElem?_setIfInBounds_ne e] using hlj
        unfold wpOpIn
        rw [ho]
        dsimp only
        split
        · rename_i hw
          rw [if_pos hw] at hg
          exact Oper.wpIn_mono hnext (hg ρ Q)
        · rename_i hw
          rw [if_neg hw] at hg
          exact ⟨fun _ _ => trivial, hnext _ _ hg⟩

/-- A REGION THAT DRAWS ITS ORDER -/
theorem draw_sound {β : Type} {ops : Array Oper} {id : Nat} {K : List A → Option β} {y : β} {st : List A} (hb : Base P E c) (h : drawC E ops ops.toList [] st K = some y) :
    ∃ st', K st' = some y ∧ ∀ (ρ : Option Nat) (Q : Exit → Act → World → Prop) (a : Act) (w : World), Sim c st a w → (∀ a' w', Sim c st' a' w' → Q .normal a' w') → (Code.region id ops true).wpIn (FR ρ) 0 P Q a w := by
  obtain ⟨fps, st', hr, hK, hok⟩ := drawC_run ops.toList [] st K h
  refine ⟨st', hK, fun ρ Q a w hs hq => wpIn_region_any hb.env.mixed ?_⟩
  have hlen : fps.length = ops.toList.length := by
    clear h hK hok hs hq
    generalize ops.toList = l at hr
    induction hr with
    | nil => rfl
    | cons _ _ ih => simp [ih]
  have hi := run_index (k := 0) fps hr (fun j => by rw [Nat.zero_add, Array.getElem?_toList]) (fun j f hj => by simp [List.getD, hj])
  have hl0 : left ops.size (Array.replicate ops.size false) = List.range' 0 ops.toList.length := by
    unfold left
    rw [← List.range_eq_range', Array.length_toList]
    apply List.filter_eq_self.2
    intro i hi
    have : i < ops.size := by simpa using hi
    simp [Array.getD_eq_getD_getElem?, this]
  refine any_sound hb (by simpa using hok) hq ops.size _ st a _ (by simp) (by rw [hl0]; simp) ?_ (by rw [hl0]; exact hi) ?_
  · intro j o hj hlj
    exfalso
    rcases Nat.lt_or_ge j ops.size with hlt | hge
    · simp [Array.getD_eq_getD_getElem?, hlt] at hlj
    · simp [Array.getD_eq_getD_getElem?, hge] at hlj
  · obtain ⟨S, ob, hs⟩ := hs
    exact ⟨S, ob, hs.world (Sub.refl _) ⟨hs.frame.size, hs.frame.same, hs.frame.tape, hs.frame.os, hs.frame.output⟩⟩
end
end Go.Lift

/- Whole bodies, and functions. -/
set_option linter.all false
namespace Go.Lift

inductive Ex where
  | normal | exit (id : Nat) | ret

def restrA (live : List Nat) (i : Nat) (x : A) : A := match x with
  | .bor _ => .dead
  | .adr .. => .dead
  | .cel .. => .dead
  | .clo f rs => (match and' (live.contains i) (rs.all live.contains) with
    | true => .clo f rs
    | false => .dead)
  | .pel .. => .dead
  | .psl .. => .dead
  | .dead => .dead
  | x => match live.contains i with
    | true => x
    | false => .dead

def restr (live : List Nat) : Nat → List A → List A
  | _, [] => []
  | i, x :: l => restrA live i x :: restr live (i + 1) l

def loopC {β : Type} (live : List Nat) (f : List A → (Ex → List A → Option β) → Option β) : Nat → List A → (Ex → List A → Option β) → Option β
  | 0, _, _ => none
  | n + 1, st, K => f st fun e st' => match e with
    | .normal => loopC live f n (restr live 0 st') K
    | e => K e st'

def evC {β : Type} (E : Env) (N : Nat) : Code → List A → (Ex → List A → Option β) → Option β
  | .skip, st, K => K .normal st
  | .region _ ops draw, st, K => match draw with
    | false => seqC E ops ops.toList st fun st => K .normal st
    | true => drawC E ops ops.toList [] st fun st => K .normal st
  | .seq a b, st, K => evC E N a st fun e st => match e with
    | .normal => evC E N b st K
    | e => K e st
  | .cond x a b, st, K => (rdK E x fun v => (.ret v : Cmd A)).cps E st fp0 fun v _ _ => match v with
    | .v .bool t => cond t (evC E N a st fun e st => K e (restr E.live 0 st)) (evC E N b st fun e st => K e (restr E.live 0 st))
    | _ => none
  | .block id a, st, K => evC E N a st fun e st => match e with
    | .normal => K .normal (restr E.live 0 st)
    | .exit j => (match Nat.beq j id with
      | true => K .normal (restr E.live 0 st)
      | false => K (.exit j) st)
    | .ret => K .ret st
  | .loop a, st, K => loopC E.live (evC E N a) N (restr E.live 0 st) K
  | .exit id, st, K => K (.exit id) st
  | .ret, st, K => K .ret st
  | _, _, _ => none

/-! ## results -/

def resK1 {α : Type} (E : Env) (r : ResultVar) (rt : TypeId) (k : Dat → Cmd α) : Cmd α :=
  match r with
  | .tmp t => tyK E rt fun e => rdK E (.tmp t) fun a => asK e.t a fun z => k ⟨e.t, z⟩
  | .cell ad ty => tyK E ty fun e => .get ad fun c => match c with
    | .box t x => (match teq t e.t with
      | true => k ⟨t, x⟩
      | false => .fail)
    | _ => .fail

def resKs {α : Type} (E : Env) : List ResultVar → List TypeId → (List Dat → Cmd α) → Cmd α
  | [], _, k => k []
  | r :: rs, rt :: rts, k => resK1 E r rt fun d => resKs E rs rts fun l => k (d :: l)
  | _, _, _ => .fail

def resOne {α : Type} (E : Env) (r : ResultVar) (rt : TypeId) (k : A → Cmd α) : Cmd α :=
  match r with
  | .tmp t => .get t fun a => match a with
    | .row u xs => (match E.ownRes with
      | true => (match E.lent.contains t with
        | true => .fail
        | false => k (.row u xs))
      | false => resK1 E (.tmp t) rt fun d => k (.v d.1 d.2))
    | .box u x => (match E.lent.contains t with
      | true => .fail
      | false => k (.box u x))
    | .clo f rs => datK (.clo f rs) fun d => k (.v d.1 d.2)
    | .v (.fn f u) x => k (.v (.fn f u) x)
    | _ => resK1 E (.tmp t) rt fun d => k (.v d.1 d.2)
  | r => resK1 E r rt fun d => k (.v d.1 d.2)

/-- what an owner gives as a value of type u -/
def ownAt (c : A) (u : T) : Option u.den := match c with
  | .ov t x => cast t u x
  | .row t xs => (match u with
    | .own w => cast (.sl t) (.sl w) xs
    | _ => none)
  | .box t x => (match u with
    | .nb w => (match cast t w x with
      | some x => some (some x)
      | none => none)
    | _ => none)
  | .nilsl => (match u with
    | .own _ => some []
    | _ => none)
  | .v .opq v => (match u, v with
    | .mp _ _, .map none => some none
    | .nb _, .pointer none => some none
    | _, _ => none)
  | _ => none

def resO1 {α : Type} (E : Env) : List ResultVar → List TypeId → List T → (List (ResultVar × T × Option Dat) → Cmd α) → Cmd α
  | [], _, [], k => k []
  | rv :: rs, rt :: rts, u :: us, k => (match noOwn u with
    | true => resK1 E rv rt fun d => resO1 E rs rts us fun l => k ((rv, u, some d) :: l)
    | false => resO1 E rs rts us fun l => k ((rv, u, none) :: l))
  | _, _, _, _ => .fail

def resO2 {α : Type} (E : Env) : List (ResultVar × T × Option Dat) → List Nat → (List Dat → Cmd α) → Cmd α
  | [], _, k => k []
  | (rv, u, y) :: r, used, k => match y with
    | some d => resO2 E r used fun l => k (d :: l)
    | none => match rv with
      | .tmp t => (match E.lent.contains t || used.contains t with
        | true => .fail
        | false => .get t fun c => (match ownAt c u with
          | some z => resO2 E r (t :: used) fun l => k (⟨u, z⟩ :: l)
          | none => .fail))
      | .cell t ty => (match E.lent.contains t || used.contains t with
        | true => .fail
        | false => tyK E ty fun e => .get t fun c => (match c with
          | .box t' x => (match and' (simT u e.t) (and' u.isAgg (noSelf u)), cast t' u x with
            | true, some z => resO2 E r (t :: used) fun l => k (⟨u, z⟩ :: l)
            | _, _ => .fail)
          | _ => .fail))

def resCmd {α : Type} (E : Env) (rs : List ResultVar) (rts : List TypeId) (k : A → Cmd α) : Cmd α :=
  match E.res with
  | [] => (match rs with
    | [r] => (match rts with
      | [rt] => resOne E r rt k
      | _ => .fail)
    | rs => resKs E rs rts fun l => k (.tup l))
  | us => resO1 E rs rts us fun l1 => resO2 E l1 [] fun l => (match l with
    | [d] => (match ovT d.1 with
      | true => k (.ov d.1 d.2)
      | false => .fail)
    | l => k (.otup l))

def outsK {α : Type} (E : Env) : Nat → Nat → (List A → Cmd α) → Cmd α
  | 0, _, k => k []
  | n + 1, i, k => match E.lent.contains i with
    | true => .get i fun c => (match c with
      | .box t x => outsK E n (i + 1) fun l => k (.box t x :: l)
      | _ => .fail)
    | false => outsK E n (i + 1) fun l => k (.dead :: l)

def argOk (lent : List Nat) (i : Nat) (x : A) : Bool := match x with
  | .v .. => !(lent.contains i)
  | .nilsl => !(lent.contains i)
  | .box .. => lent.contains i
  | _ => false

def argsOk (lent : List Nat) : Nat → List A → Bool
  | _, [] => true
  | i, x :: l => and' (argOk lent i x) (argsOk lent (i + 1) l)

def lentOk (n : Nat) : List Nat → Bool
  | [] => true
  | i :: l => and' (Nat.blt i n) (lentOk n l)

def undefs : Nat → List A
  | 0 => []
  | n + 1 => .tup [] :: undefs n

def evF {β : Type} (E : Env) (N : Nat) (fn : Func) (args : List A) (K : A → List A → Option β) : Option β :=
  match fn.body with
  | none => none
  | some body => match and' (and' (argsOk E.lent 0 args) (lentOk args.length E.lent)) (Nat.ble args.length fn.ntmps) with
    | true => evC E N body (args.append (undefs (fn.ntmps - args.length))) fun e st => match e with
      | .exit _ => none
      | _ => (resCmd E fn.results.toList fn.resultTypes.toList fun x => outsK E args.length 0 fun l => (.ret (x, l) : Cmd (A × List A))).cps E st fp0 fun r _ _ => K r.1 r.2
    | false => none

section
variable {P : Program} {E : Env} {c : Ctx} {st st' : List A} {fp fp' : FP} {a : Act} {w w' : World} {S : Hp} {ob : Nat → List Nat}

theorem restr_length (live : List Nat) : ∀ (i : Nat) (st : List A), (restr live i st).length = st.length
  | _, [] => rfl
  | i, x :: l => by simp [restr, restr_length live (i + 1) l]

theorem restr_at (live : List Nat) : ∀ (i : Nat) (st : List A) (j : Nat), (restr live i st)[j]? = st[j]?.map (restrA live (i + j))
  | _, [], j => by simp [restr]
  | i, x :: l, 0 => by simp [restr]
  | i, x :: l, j + 1 => by
    simp only [restr, List.getElem?_cons_succ]
    rw [restr_at live (i + 1) l j]
    congr 2; omega

theorem restrA_cases (live : List Nat) (i : Nat) (x : A) : restrA live i x = .dead ∨ (restrA live i x = x ∧ (∀ r ∈ x.refs, live.contains r = true) ∧ x.cell = none) := by
  cases x
  case clo f rs =>
    simp only [restrA]
    split
    · rename_i h
      exact .inr ⟨rfl, fun r hr => List.all_eq_true.1 (and'_true h).2 r hr, rfl⟩
    · exact .inl rfl
  all_goals first
    | exact .inl rfl
    | (simp only [restrA]; split <;> first | exact .inl rfl | exact .inr ⟨rfl, (fun r hr => by cases hr), rfl⟩)

theorem restrA_own {live : List Nat} {i : Nat} {x : A} (h : live.contains i = true) (ho : x.own = true) : restrA live i x = x := by
  cases x <;> simp [A.own] at ho <;> simp only [restrA, h]

/-- what nobody needs any more is forgotten -/
theorem SimD.restr (h : SimD c st a w S ob) (live : List Nat) : ∃ ob', SimD c (restr live 0 st) a w S ob' := by
  refine ⟨fun i => match (Lift.restr live 0 st)[i]? with | some .dead => [] | _ => ob i, ?_⟩
  have hsub : ∀ {i b : Nat}, b ∈ (fun i => match (Lift.restr live 0 st)[i]? with | some A.dead => [] | _ => ob i) i → b ∈ ob i := by
    intro i b hi
    dsimp only at hi
    split at hi
    · cases hi
    · exact hi
  refine ⟨h.defers.turn fun D h1 h2 h3 h4 => ⟨h1, h2, fun i hi => h3 i (hsub hi)⟩, by rw [restr_length]; exact h.size, ?_, ?_, ?_, ?_, ?_, ?_, h.sub, h.mono, ?_, h.newS, h.lent, h.frame⟩
  · intro i x hx
    have hx' := hx
    rw [restr_at] at hx
    cases hz : st[i]? with
    | none => rw [hz] at hx; cases hx
    | some z =>
      rw [hz] at hx
      simp only [Option.map_some, Option.some.injEq] at hx
      rw [hx']
      rcases restrA_cases live (0 + i) z with e | ⟨e, _⟩
      · rw [e] at hx; subst hx; rfl
      · rw [e] at hx; subst hx
        have := h.rel i z hz
        cases z <;> first
          | exact this
          | rfl
  · intro i x r hx hr
    rw [restr_at] at hx
    cases hz : st[i]? with
    | none => rw [hz] at hx; cases hx
    | some z =>
      rw [hz] at hx
      simp only [Option.map_some, Option.some.injEq] at hx
      rcases restrA_cases live (0 + i) z with e | ⟨e, hn, _⟩
      · rw [e] at hx; subst hx; cases hr
      · rw [e] at hx; subst hx
        obtain ⟨y, hy, hyo⟩ := h.refs i z r hz hr
        refine ⟨y, ?_, hyo⟩
        rw [restr_at, hy, Option.map_some, Nat.zero_add, restrA_own (hn r hr) hyo]
  · intro i hi
    rw [restr_length] at hi
    split
    · rfl
    · exact h.out i hi
  · intro i j b hi hj
    exact h.inj i j b (hsub hi) (hsub hj)
  · intro i
    split
    · exact .nil
    · exact h.nd i
  · intro i b hi
    exact h.hid i b (hsub hi)
  · intro i b hi
    exact h.fresh i b (hsub hi)

theorem Sim.restr (h : Sim c st a w) (live : List Nat) : Sim c (restr live 0 st) a w := by
  obtain ⟨S, ob, h⟩ := h
  obtain ⟨ob', h'⟩ := h.restr live
  exact ⟨S, ob', h'⟩

/-! ## loops -/

/-- behind a round of a loop -/
def Inl (P : Program) (k : Code) (Q : Exit → Act → World → Prop) (a : Act) (w : World) : Prop :=
  ∀ (b : Frame) (ks : List Item) (cs : List Frame), ∃ e a' w', Q e a' w' ∧ Arrives P (lone (b.at a (.inLoop k :: ks)) cs w) b ks cs e a' w'

theorem loop_round {k : Code} {Q : Exit → Act → World → Prop} (h : k.wp P (Exit.then (Inl P k Q) Q) a w) (b : Frame) (ks : List Item) (cs : List Frame) :
    ∃ e a' w', Q e a' w' ∧ Arrives P (lone (b.at a (.code k :: .inLoop k :: ks)) cs w) b ks cs e a' w' := by
  obtain ⟨e, a₁, w₁, hq, harr⟩ := h b (.inLoop k :: ks) cs
  cases e with
  | normal =>
    obtain ⟨e₂, a₂, w₂, hq₂, harr₂⟩ := hq b ks cs
    exact ⟨e₂, a₂, w₂, hq₂, .of_steps harr harr₂⟩
  | exit id => exact ⟨_, a₁, w₁, hq, .pass (x := .inLoop k) rfl (fun _ _ => .inl (by simp)) harr⟩
  | goto l => exact ⟨_, a₁, w₁, hq, .pass (x := .inLoop k) rfl (fun _ _ => .inl (by simp)) harr⟩
  | ret => exact ⟨_, a₁, w₁, hq, .pass (x := .inLoop k) rfl (fun _ _ => .inl (by simp)) harr⟩
  | panic ch => exact ⟨_, a₁, w₁, hq, .pass (x := .inLoop k) rfl (fun _ _ => .inl (by simp)) harr⟩
  | outgrown => exact ⟨_, a₁, w₁, hq, .pass (x := .inLoop k) rfl (fun _ _ => .inl (by simp)) harr⟩

theorem loop_wp {k : Code} {Q : Exit → Act → World → Prop} (h : k.wp P (Exit.then (Inl P k Q) Q) a w) : (Code.loop k).wp P Q a w := by
  intro b ks cs
  obtain ⟨e, a', w', hq, harr⟩ := loop_round h b ks cs
  exact ⟨e, a', w', hq, .of_steps (.one step_loop) harr⟩

theorem loop_inl {k : Code} {Q : Exit → Act → World → Prop} (h : k.wp P (Exit.then (Inl P k Q) Q) a w) : Inl P k Q a w := by
  intro b ks cs
  obtain ⟨e, a', w', hq, harr⟩ := loop_round h b ks cs
  exact ⟨e, a', w', hq, .of_steps (.one step_inLoop) harr⟩

def Ex.exit' : Ex → Exit
  | .normal => .normal
  | .exit id => .exit id
  | .ret => .ret

/-- a piece of code does what its plain function says -/
def CodeOk {β : Type} (P : Program) (c : Ctx) (k : Code) (f : List A → (Ex → List A → Option β) → Option β) : Prop :=
  ∀ (st : List A) (K : Ex → List A → Option β) (y : β), f st K = some y → ∃ e st', K e st' = some y ∧
    ∀ (Q : Exit → Act → World → Prop) (a : Act) (w : World), Sim c st a w → (∀ a' w', Sim c st' a' w' → Q e.exit' a' w') → k.wp P Q a w

theorem loop_sound {β : Type} {k : Code} {f : List A → (Ex → List A → Option β) → Option β} (hk : CodeOk P c k f) (live : List Nat) : ∀ (n : Nat) (st : List A) (K : Ex → List A → Option β) (y : β), loopC live f n st K = some y →
    ∃ e st', K e st' = some y ∧ ∀ (Q : Exit → Act → World → Prop) (a : Act) (w : World), Sim c st a w → (∀ a' w', Sim c st' a' w' → Q e.exit' a' w') → k.wp P (Exit.then (Inl P k Q) Q) a w
  | 0, st, K, y, h => by simp [loopC] at h
  | n + 1, st, K, y, h => by
    simp only [loopC] at h
    obtain ⟨e, st1, hK, hw⟩ := hk st _ y h
    cases e with
    | normal =>
      obtain ⟨e2, st2, hK2, hw2⟩ := loop_sound hk live n _ K y hK
      refine ⟨e2, st2, hK2, fun Q a w hs hq => hw _ a w hs fun a' w' hs' => ?_⟩
      exact loop_inl (hw2 Q a' w' (hs'.restr live) hq)
    | exit id => exact ⟨.exit id, st1, hK, fun Q a w hs hq => hw _ a w hs fun a' w' hs' => hq a' w' hs'⟩
    | ret => exact ⟨.ret, st1, hK, fun Q a w hs hq => hw _ a w hs fun a' w' hs' => hq a' w' hs'⟩

/-- 'CodeOk', also in a round -/
def CodeOkR {β : Type} (P : Program) (c : Ctx) (k : Code) (f : List A → (Ex → List A → Option β) → Option β) : Prop :=
  ∀ (st : List A) (K : Ex → List A → Option β) (y : β), f st K = some y → ∃ e st', K e st' = some y ∧
    ∀ (ρ : Option Nat) (Q : Exit → Act → World → Prop) (a : Act) (w : World), Sim c st a w → (∀ a' w', Sim c st' a' w' → Q e.exit' a' w') → k.wpIn (FR ρ) 0 P Q a w

theorem CodeOkR.ok {β : Type} {k : Code} {f : List A → (Ex → List A → Option β) → Option β} (h : CodeOkR P c k f) : CodeOk P c k f := by
  intro st K y hy
  obtain ⟨e, st', hK, hw⟩ := h st K y hy
  exact ⟨e, st', hK, fun Q a w hs hq => (wpIn_wide (n := 0)).1 (hw none Q a w hs hq)⟩

theorem loop_soundR {β : Type} {k : Code} {f : List A → (Ex → List A → Option β) → Option β} (hk : CodeOkR P c k f) (live : List Nat) : ∀ (n : Nat) (st : List A) (K : Ex → List A → Option β) (y : β), loopC live f n st K = some y →
    ∃ e st', K e st' = some y ∧ ∀ (ρ : Option Nat) (Q : Exit → Act → World → Prop) (a : Act) (w : World), Sim c st a w → (∀ a' w', Sim c st' a' w' → Q e.exit' a' w') → Code.roundsIn (FR ρ) 0 P k Q n a w
  | 0, st, K, y, h => by simp [loopC] at h
  | n + 1, st, K, y, h => by
    simp only [loopC] at h
    obtain ⟨e, st1, hK, hw⟩ := hk st _ y h
    cases e with
    | normal =>
      obtain ⟨e2, st2, hK2, hw2⟩ := loop_soundR hk live n _ K y hK
      exact ⟨e2, st2, hK2, fun ρ Q a w hs hq => hw ρ _ a w hs fun a' w' hs' => hw2 ρ Q a' w' (hs'.restr live) hq⟩
    | exit id => exact ⟨.exit id, st1, hK, fun ρ Q a w hs hq => hw ρ _ a w hs fun a' w' hs' => hq a' w' hs'⟩
    | ret => exact ⟨.ret, st1, hK, fun ρ Q a w hs hq => hw ρ _ a w hs fun a' w' hs' => hq a' w' hs'⟩

theorem evC_sound {β : Type} (hb : Base P E c) (N : Nat) : ∀ (k : Code), CodeOkR (β := β) P c k (evC E N k)
  | .skip => fun st K y h => ⟨.normal, st, h, fun ρ Q a w hs hq => wpIn_skip (hq a w hs)⟩
  | .region id ops draw => fun st K y h => by
    simp only [evC] at h
    cases draw with
    | false =>
      obtain ⟨fps, st', hr, hK⟩ := seqC_run _ _ _ h
      exact ⟨.normal, st', hK, fun ρ Q a w hs hq => wpIn_region_list (seq_sound hb hr a w hs hq)⟩
    | true =>
      obtain ⟨st', hK, hw⟩ := draw_sound (id := id) hb h
      exact ⟨.normal, st', hK, fun ρ Q a w hs hq => hw ρ Q a w hs hq⟩
  | .seq x z => fun st K y h => by
    simp only [evC] at h
    obtain ⟨e, st1, hK, hw⟩ := evC_sound hb N x st _ y h
    cases e with
    | normal =>
      obtain ⟨e2, st2, hK2, hw2⟩ := evC_sound hb N z st1 K y hK
      exact ⟨e2, st2, hK2, fun ρ Q a w hs hq => wpIn_seq (hw ρ _ a w hs fun a' w' hs' => hw2 ρ Q a' w' hs' hq)⟩
    | exit id => exact ⟨.exit id, st1, hK, fun ρ Q a w hs hq => wpIn_seq (hw ρ _ a w hs fun a' w' hs' => hq a' w' hs')⟩
    | ret => exact ⟨.ret, st1, hK, fun ρ Q a w hs hq => wpIn_seq (hw ρ _ a w hs fun a' w' hs' => hq a' w' hs')⟩
  | .cond x t e => fun st K y h => by
    simp only [evC] at h
    obtain ⟨v, st1, fp1, h1, h2⟩ := exec_of_cps h
    split at h2
    · rename_i b
      have hev : ∀ a w, Sim c st a w → a.eval x = .bool b := by
        rintro a w ⟨S, ob, hs⟩
        obtain ⟨A, fp', h3, hA, _⟩ := rdK_inv h1 hs (hb.globS hs)
        have := exec_ret h3
        simp only [Prod.mk.injEq] at this
        rw [← this.1] at hA
        exact hA.1.bool_inv
      cases b with
      | true =>
        simp only [cond] at h2
        obtain ⟨ex, st2, hK, hw⟩ := evC_sound hb N t st _ y h2
        exact ⟨ex, _, hK, fun ρ Q a w hs hq => wpIn_cond_true (hev a w hs) (hw ρ Q a w hs fun a' w' hs' => hq a' w' (hs'.restr _))⟩
      | false =>
        simp only [cond] at h2
        obtain ⟨ex, st2, hK, hw⟩ := evC_sound hb N e st _ y h2
        exact ⟨ex, _, hK, fun ρ Q a w hs hq => wpIn_cond_false (hev a w hs) (hw ρ Q a w hs fun a' w' hs' => hq a' w' (hs'.restr _))⟩
    · cases h2
  | .block id x => fun st K y h => by
    simp only [evC] at h
    obtain ⟨e, st1, hK, hw⟩ := evC_sound hb N x st _ y h
    cases e with
    | normal => exact ⟨.normal, _, hK, fun ρ Q a w hs hq => wpIn_block (hw ρ _ a w hs fun a' w' hs' => hq a' w' (hs'.restr _))⟩
    | exit j =>
      dsimp only at hK
      split at hK
      · rename_i hj
        have hj := beq_nat hj
        subst hj
        refine ⟨.normal, _, hK, fun ρ Q a w hs hq => wpIn_block (hw ρ _ a w hs fun a' w' hs' => ?_)⟩
        simp only [Ex.exit', Exit.inBlock, if_true]
        exact hq a' w' (hs'.restr _)
      · rename_i hj
        have hj : j ≠ id := fun e => by subst e; simp [Nat.beq_refl] at hj
        refine ⟨.exit j, _, hK, fun ρ Q a w hs hq => wpIn_block (hw ρ _ a w hs fun a' w' hs' => ?_)⟩
        simp only [Ex.exit', Exit.inBlock, if_neg hj]
        exact hq a' w' hs'
    | ret => exact ⟨.ret, _, hK, fun ρ Q a w hs hq => wpIn_block (hw ρ _ a w hs fun a' w' hs' => hq a' w' hs')⟩
  | .loop x => fun st K y h => by
    simp only [evC] at h
    obtain ⟨e, st', hK, hw⟩ := loop_soundR (evC_sound hb N x) _ _ _ K y h
    exact ⟨e, st', hK, fun ρ Q a w hs hq => wpIn_loop_rounds N (hw ρ Q a w (hs.restr _) hq)⟩
  | .exit id => fun st K y h => ⟨.exit id, st, h, fun ρ Q a w hs hq => wpIn_exit (hq a w hs)⟩
  | .ret => fun st K y h => ⟨.ret, st, h, fun ρ Q a w hs hq => wpIn_ret (hq a w hs)⟩
  | .rangeFunc .. => fun st K y h => by simp [evC] at h
  | .scope .. => fun st K y h => by simp [evC] at h
  | .label .. => fun st K y h => by simp [evC] at h
  | .goto .. => fun st K y h => by simp [evC] at h
  | .refuse .. => fun st K y h => by simp [evC] at h
end
end Go.Lift

/- Ranges over functions: the rounds of such a loop, each from the temporaries at the loop's entry; what the boxes hold goes on from round to round. -/
set_option linter.all false
namespace Go.Lift
section
variable {P : Program} {E : Env} {c : Ctx} {st st' : List A} {fp fp' : FP} {a : Act} {w w' : World} {S : Hp} {ob : Nat → List Nat}

theorem seqC_bind {β : Type} {all : Array Oper} : ∀ (l : List Oper) (st : List A) (K : List A → Option β), seqC E all l st K = (seqC E all l st some).bind K
  | [], st, K => rfl
  | o :: l, st, K => by
    simp only [seqC]
    rw [cps_eq, cps_eq (K := fun _ st' _ => seqC E all l st' some), Option.bind_assoc]
    congr 1
    funext r
    exact seqC_bind l _ K

theorem drawC_bind {β : Type} {all : Array Oper} : ∀ (l : List Oper) (fps : List FP) (st : List A) (K : List A → Option β), drawC E all l fps st K = (drawC E all l fps st some).bind K
  | [], fps, st, K => by
    simp only [drawC]
    split <;> rfl
  | o :: l, fps, st, K => by
    simp only [drawC]
    rw [cps_eq, cps_eq (K := fun _ st' fp => drawC E all l (fps.append [fp]) st' some), Option.bind_assoc]
    congr 1
    funext r
    exact drawC_bind l _ _ K

def pairK : Ex → List A → Option (Ex × List A) := fun e s => some (e, s)

theorem loopC_bind {β : Type} {f : List A → (Ex → List A → Option β) → Option β} {f2 : List A → (Ex → List A → Option (Ex × List A)) → Option (Ex × List A)} (hf : ∀ st K, f st K = (f2 st pairK).bind fun p => K p.1 p.2)
    (hf2 : ∀ st K, f2 st K = (f2 st pairK).bind fun p => K p.1 p.2) (live : List Nat) : ∀ (n : Nat) (st : List A) (K : Ex → List A → Option β), loopC live f n st K = (loopC live f2 n st pairK).bind fun p => K p.1 p.2
  | 0, st, K => rfl
  | n + 1, st, K => by
    simp only [loopC]
    rw [hf]
    conv => rhs; rw [hf2]
    rw [Option.bind_assoc]
    congr 1
    funext p
    obtain ⟨e, s⟩ := p
    cases e with
    | normal => exact loopC_bind hf hf2 live n _ K
    | exit id => rfl
    | ret => rfl

theorem evC_bind {β : Type} (N : Nat) : ∀ (k : Code) (st : List A) (K : Ex → List A → Option β), evC E N k st K = (evC E N k st pairK).bind fun p => K p.1 p.2
  | .skip, st, K => rfl
  | .region id ops draw, st, K => by
    simp only [evC]
    cases draw with
    | false =>
      simp only
      rw [seqC_bind, seqC_bind (K := fun st => pairK .normal st), Option.bind_assoc]
      rfl
    | true =>
      simp only
      rw [drawC_bind, drawC_bind (K := fun st => pairK .normal st), Option.bind_assoc]
      rfl
  | .seq x z, st, K => by
    simp only [evC]
    rw [evC_bind N x]
    conv => rhs; rw [evC_bind N x]
    rw [Option.bind_assoc]
    congr 1
    funext p
    obtain ⟨e, s⟩ := p
    cases e with
    | normal => exact evC_bind N z _ K
    | exit id => rfl
    | ret => rfl
  | .cond x t e, st, K => by
    simp only [evC]
    rw [cps_eq, cps_eq (β := Ex × List A), Option.bind_assoc]
    congr 1
    funext p
    obtain ⟨v, s, fp⟩ := p
    dsimp only
    split
    · rename_i b
      cases b with
      | true =>
        simp only [cond]
        rw [evC_bind N t, evC_bind N t st (fun e st => pairK e (restr E.live 0 st)), Option.bind_assoc]
        rfl
      | false =>
        simp only [cond]
        rw [evC_bind N e, evC_bind N e st (fun e st => pairK e (restr E.live 0 st)), Option.bind_assoc]
        rfl
    · rfl
  | .block id x, st, K => by
    simp only [evC]
    rw [evC_bind N x]
    conv => rhs; rw [evC_bind N x]
    rw [Option.bind_assoc]
    congr 1
    funext p
    obtain ⟨e, s⟩ := p
    cases e with
    | normal => rfl
    | exit j => dsimp only; split <;> rfl
    | ret => rfl
  | .loop x, st, K => by
    simp only [evC]
    exact loopC_bind (fun st K => evC_bind N x st K) (fun st K => evC_bind N x st K) _ _ _ K
  | .exit id, st, K => rfl
  | .ret, st, K => rfl
  | .rangeFunc .., st, K => rfl
  | .scope .., st, K => rfl
  | .label .., st, K => rfl
  | .goto .., st, K => rfl
  | .refuse .., st, K => rfl


/-! ## the function that is ranged over -/

def gK (E : Env) (g : Operand) : Cmd Dat := rdK E g fun A => match A with
  | .v .opq (.func (.func f) first captured) => (match and' first.isEmpty captured.isEmpty with
    | true => .ret ⟨.fn f .unit, ()⟩
    | false => .fail)
  | A => datK A fun d => .ret d

theorem gK_inv {g : Operand} {d : Dat} (h : exec E (gK E g) st fp = some (d, st', fp')) (hs : SimD c st a w S ob) (hg : GlobOk E.glob S) :
    ∃ S' ob', SimD c st' a w S' ob' ∧ Sub S S' ∧ VR S' d.1 d.2 (a.eval g) := by
  obtain ⟨A, fp1, h1, hA, _⟩ := rdK_inv h hs hg
  split at h1
  · rename_i f first captured _
    split at h1
    · rename_i hck
      obtain ⟨h2, h3⟩ := and'_true hck
      have e1 : first = #[] := by simpa using h2
      have e2 : captured = #[] := by simpa using h3
      subst e1; subst e2
      have := exec_ret h1
      simp only [Prod.mk.injEq] at this
      obtain ⟨rfl, rfl, rfl⟩ := this
      exact ⟨S, ob, hs, Sub.refl _, VR.of_one rfl ⟨#[], by rw [hA.1.opq_inv], rfl⟩⟩
    · exact (exec_fail h1).elim
  · obtain ⟨d', st1, fp2, S', ob', h2, hs', hS, hv, _⟩ := datK_inv h1 hs hA
    have := exec_ret h2
    simp only [Prod.mk.injEq] at this
    obtain ⟨rfl, rfl, rfl⟩ := this
    exact ⟨S', ob', hs', hS, hv⟩

/-! ## the rounds -/

def prepA (x : A) : Bool := match x with
  | .row .. | .iter .. | .cel .. | .yld | .ov .. | .otup .. | .pel .. | .psl .. => false
  | _ => true

def prepOk : List A → Bool
  | [] => true
  | x :: l => and' (prepA x) (prepOk l)

def boxIds : Nat → List A → List Nat
  | _, [] => []
  | i, x :: l => match x with
    | .box .. => i :: boxIds (i + 1) l
    | _ => boxIds (i + 1) l

def psK : List Nat → List Dat → Cmd Unit
  | [], [] => .ret ()
  | p :: ps, d :: l => .set p (.v d.1 d.2) (psK ps l)
  | _, _ => .fail

/-- the temporaries behind a round: those at the loop's entry, the boxes with what they hold now -/
def backS : List A → List A → Option (List A)
  | [], [] => some []
  | x :: l, y :: m => match x with
    | .box .. => (match y with
      | .box t z => (match backS l m with
        | some r => some (.box t z :: r)
        | none => none)
      | _ => none)
    | x => match backS l m with
      | some r => some (x :: r)
      | none => none
  | _, _ => none

def rndE (E : Env) (st : List A) : Env := { E with lent := boxIds 0 st, live := List.range st.length }

def rndC {β : Type} (E : Env) (N : Nat) (ps : List Nat) (assign body : Code) (l : List Dat) (st : List A) (K : Ex → List A → Option β) : Option β :=
  (psK ps l).cps (rndE E st) st fp0 fun _ st0 _ => evC (rndE E st) N assign st0 fun e st1 => match e with
    | .normal => evC (rndE E st) N body st1 fun e st2 => (backS st st2).bind fun st3 => K e st3
    | _ => none

def rfC {β : Type} {ts : List T} (f : denL ts → List A → (Ex → List A → Option β) → Option β) : List (denL ts) → List A → (Ex → List A → Option β) → Option β
  | [], st, K => K .normal st
  | y :: ys, st, K => f y st fun e st' => match e with
    | .normal => rfC f ys st' K
    | e => K e st'

def rfEv {β : Type} (E : Env) (N : Nat) (live : List Nat) (g : Operand) (ps : Array Tmp) (assign body : Code) (st : List A) (K : Ex → List A → Option β) : Option β :=
  (gK E g).cps E st fp0 fun d st1 _ => match d with
    | ⟨.fn f t, x⟩ => (match prepOk (restr live 0 st1) with
      | true => (E.it f ⟨t, x⟩).val.bind fun xs => rfC (fun y => rndC E N ps.toList assign body (mkL (E.it f ⟨t, x⟩).ts y)) xs (restr live 0 st1) K
      | false => none)
    | _ => none

def rndOk (E : Env) (N : Nat) (ps : List Nat) (assign body : Code) (l : List Dat) (st : List A) (e : Ex) (st' : List A) : Prop :=
  ∃ st0 fp st1 st2, exec (rndE E st) (psK ps l) st fp0 = some ((), st0, fp) ∧ evC (rndE E st) N assign st0 pairK = some (.normal, st1) ∧
    evC (rndE E st) N body st1 pairK = some (e, st2) ∧ backS st st2 = some st'

theorem rndC_inv {β : Type} {N : Nat} {ps : List Nat} {assign body : Code} {l : List Dat} {K : Ex → List A → Option β} {y : β} (h : rndC E N ps assign body l st K = some y) :
    ∃ e st', rndOk E N ps assign body l st e st' ∧ K e st' = some y := by
  unfold rndC at h
  obtain ⟨_, st0, fp, h1, h2⟩ := exec_of_cps h
  rw [evC_bind] at h2
  cases ha : evC (rndE E st) N assign st0 pairK with
  | none => rw [ha] at h2; cases h2
  | some p =>
    obtain ⟨e, st1⟩ := p
    rw [ha] at h2
    simp only [Option.bind_some] at h2
    cases e with
    | exit id => cases h2
    | ret => cases h2
    | normal =>
      dsimp only at h2
      rw [evC_bind] at h2
      cases hb : evC (rndE E st) N body st1 pairK with
      | none => rw [hb] at h2; cases h2
      | some p =>
        obtain ⟨e, st2⟩ := p
        rw [hb] at h2
        simp only [Option.bind_some] at h2
        cases hk : backS st st2 with
        | none => rw [hk] at h2; cases h2
        | some st3 =>
          rw [hk] at h2
          exact ⟨e, st3, ⟨st0, fp, st1, st2, h1, ha, hb, hk⟩, h2⟩

/-- the rounds, one behind the other -/
inductive Path {α : Type} (ok : α → List A → Ex → List A → Prop) : List α → List A → Ex → List A → Prop
  | nil {st : List A} : Path ok [] st .normal st
  | more {y : α} {ys : List α} {st st1 : List A} {e : Ex} {st2 : List A} (h : ok y st .normal st1) (hp : Path ok ys st1 e st2) : Path ok (y :: ys) st e st2
  | out {y : α} {ys : List α} {st st1 : List A} {e : Ex} (h : ok y st e st1) (he : e ≠ .normal) : Path ok (y :: ys) st e st1

theorem rfC_path {β : Type} {ts : List T} {f : denL ts → List A → (Ex → List A → Option β) → Option β} {ok : denL ts → List A → Ex → List A → Prop}
    (hf : ∀ y st K r, f y st K = some r → ∃ e st', ok y st e st' ∧ K e st' = some r) : ∀ (xs : List (denL ts)) (st : List A) (K : Ex → List A → Option β) (r : β), rfC f xs st K = some r →
    ∃ e st', Path ok xs st e st' ∧ K e st' = some r
  | [], st, K, r, h => ⟨.normal, st, .nil, h⟩
  | y :: ys, st, K, r, h => by
    simp only [rfC] at h
    obtain ⟨e, st1, h1, h2⟩ := hf _ _ _ _ h
    cases e with
    | normal =>
      obtain ⟨e2, st2, h3, h4⟩ := rfC_path hf ys st1 K r h2
      exact ⟨e2, st2, .more h1 h3, h4⟩
    | exit id => exact ⟨_, st1, .out h1 (by simp), h2⟩
    | ret => exact ⟨_, st1, .out h1 (by simp), h2⟩

theorem prepOk_at : ∀ {l : List A}, prepOk l = true → ∀ (i : Nat) (x : A), l[i]? = some x → prepA x = true
  | [], _, i, x, hx => by simp at hx
  | y :: l, h, i, x, hx => by
    obtain ⟨h1, h2⟩ := and'_true h
    cases i with
    | zero => simp at hx; subst hx; exact h1
    | succ i => exact prepOk_at h2 i x (by simpa using hx)

theorem mem_boxIds : ∀ {l : List A} {k j : Nat}, j ∈ boxIds k l ↔ ∃ i t x, j = k + i ∧ l[i]? = some (.box t x)
  | [], k, j => by simp [boxIds]
  | y :: l, k, j => by
    have ih := mem_boxIds (l := l) (k := k + 1) (j := j)
    have tail : (∃ i t x, j = k + 1 + i ∧ l[i]? = some (.box t x)) ↔ ∃ i t x, j = k + (i + 1) ∧ (y :: l)[i + 1]? = some (.box t x) := by
      constructor
      · rintro ⟨i, t, x, e, h⟩; exact ⟨i, t, x, by omega, by simpa using h⟩
      · rintro ⟨i, t, x, e, h⟩; exact ⟨i, t, x, by omega, by simpa using h⟩
    have split : (∃ i t x, j = k + i ∧ (y :: l)[i]? = some (.box t x)) ↔ (∃ t x, j = k ∧ y = .box t x) ∨ ∃ i t x, j = k + (i + 1) ∧ (y :: l)[i + 1]? = some (.box t x) := by
      constructor
      · rintro ⟨i, t, x, e, h⟩
        cases i with
        | zero => simp at h; exact .inl ⟨t, x, by omega, h⟩
        | succ i => exact .inr ⟨i, t, x, e, h⟩
      · rintro (⟨t, x, e, h⟩ | ⟨i, t, x, e, h⟩)
        · exact ⟨0, t, x, by omega, by simp [h]⟩
        · exact ⟨i + 1, t, x, e, h⟩
    rw [split, ← tail]
    cases y <;> simp only [boxIds] <;> first
      | (rw [List.mem_cons, ih]; simp)
      | (rw [ih]; simp)

theorem backS_length : ∀ {l m r : List A}, backS l m = some r → r.length = l.length
  | [], [], r, h => by simp [backS] at h; subst h; rfl
  | [], _ :: _, r, h => by simp [backS] at h
  | _ :: _, [], r, h => by simp [backS] at h
  | x :: l, y :: m, r, h => by
    cases x <;> simp only [backS] at h
    case box =>
      cases y <;> simp only [reduceCtorEq] at h
      split at h
      · rename_i r' hr
        cases h
        simp [backS_length hr]
      · cases h
    all_goals
      split at h
      · rename_i r' hr
        cases h
        simp [backS_length hr]
      · cases h

theorem backS_at : ∀ {l m r : List A}, backS l m = some r → ∀ (i : Nat) (x : A), l[i]? = some x →
    (isBoxA x = true ∧ ∃ t z, m[i]? = some (.box t z) ∧ r[i]? = some (.box t z)) ∨ (isBoxA x = false ∧ r[i]? = some x)
  | [], [], r, h, i, x, hx => by simp at hx
  | [], _ :: _, r, h, i, x, hx => by simp [backS] at h
  | _ :: _, [], r, h, i, x, hx => by simp [backS] at h
  | u :: l, y :: m, r, h, i, x, hx => by
    cases u <;> simp only [backS] at h
    case box =>
      cases y <;> simp only [reduceCtorEq] at h
      split at h
      · rename_i r' hr
        cases h
        cases i with
        | zero => simp at hx; subst hx; exact .inl ⟨rfl, _, _, rfl, rfl⟩
        | succ i => simpa using backS_at hr i x (by simpa using hx)
      · cases h
    all_goals
      split at h
      · rename_i r' hr
        cases h
        cases i with
        | zero => simp at hx; subst hx; exact .inr ⟨rfl, rfl⟩
        | succ i => simpa using backS_at hr i x (by simpa using hx)
      · cases h

theorem psK_inv (hb : Base P E c) : ∀ (ps : List Nat) (l : List Dat) (vs : List Value) (st : List A) (fp : FP) (a : Act) (ob : Nat → List Nat) (st' : List A) (fp' : FP), exec E (psK ps l) st fp = some ((), st', fp') → SimD c st a w S ob → TupRel S l vs →
    ps.length = vs.length ∧ ∃ ob', SimD c st' { a with tmps := (ps.zip vs).foldl (fun tmps p => tmps.setIfInBounds p.1 p.2) a.tmps } w S ob'
  | [], [], vs, st, fp, a, ob, st', fp', h, hs, ht => by
    cases ht
    have := exec_ret h
    simp only [Prod.mk.injEq] at this
    obtain ⟨_, rfl, _⟩ := this
    exact ⟨rfl, ob, hs⟩
  | [], _ :: _, vs, st, fp, a, ob, st', fp', h, hs, ht => (exec_fail h).elim
  | _ :: _, [], vs, st, fp, a, ob, st', fp', h, hs, ht => (exec_fail h).elim
  | p :: ps, d :: l, vs, st, fp, a, ob, st', fp', h, hs, ht => by
    cases ht with
    | cons hv ht =>
      rename_i v vs
      obtain ⟨fp1, h1, hs1⟩ := set_sim (o' := []) h hb hs (x := .v d.1 d.2) (v := v) ⟨hv, rfl⟩ (fun b hb => by cases hb)
      obtain ⟨hl, ob', hs2⟩ := psK_inv hb ps l vs _ _ _ _ _ _ h1 hs1 ht
      exact ⟨by simp [hl], ob', hs2⟩

/-! ## the same state, seen from elsewhere -/

/-- one block that nobody reads or owns may turn; the context may be another -/
theorem SimD.rebase {c' : Ctx} {a' : Act} {l : Nat} (h : SimD c st a w S ob) (hw : ∀ b, b ≠ l → hp w' b = hp w b) (hl : S l = none) (hol : ∀ i, l ∉ ob i) (hd : ∀ q, hp w l ≠ some (.deferred q))
    (hc : WF c'.w0 c'.B0 w') (hS : Sub c'.S0 S) (hf : ∀ i b, b ∈ ob i → c'.B0 b ∨ c'.w0.heap.size ≤ b) (hn : ∀ b, S b ≠ none → c'.S0 b ≠ none ∨ c'.B0 b ∨ c'.w0.heap.size ≤ b)
    (hda : (a'.defers = a.defers ∧ ∀ D, c.B0 D ∨ c.w0.heap.size ≤ D → c'.B0 D ∨ c'.w0.heap.size ≤ D) ∨ a'.defers = []) (hta : a'.tmps = a.tmps) (hlent : ∀ p ∈ c'.lent, tv a p.1 = p.2) : SimD c' st a' w' S ob := by
  have htv : tv a' = tv a := by funext i; simp only [tv, hta]
  have hob : ∀ {i b}, b ∈ ob i → b ≠ l := fun hb e => hol _ (by rw [← e]; exact hb)
  refine ⟨?_, by rw [hta]; exact h.size, ?_, h.refs, h.out, h.inj, h.nd, h.hid, ?_, hS, hf, hn, ?_, hc⟩
  · rcases hda with ⟨hda, hm⟩ | hda
    case inr => rw [hda]; exact ⟨[], rfl, .nil, fun D hD => by cases hD⟩
    rw [hda]
    obtain ⟨Ds, e, hnd, hD⟩ := h.defers
    refine ⟨Ds, e, hnd, fun D hDm => ?_⟩
    obtain ⟨h1, h2, h3, h4⟩ := hD D hDm
    refine ⟨?_, h2, h3, hm D h4⟩
    rw [hw D (fun e => hd _ (by rw [← e]; exact h1))]; exact h1
  · intro i x hx
    rw [htv]
    refine (h.rel i x hx).mono (Sub.refl _) (fun b hb => hw b (hob hb)) (fun _ _ => rfl) (fun r hr b hb => hw b (hob (h.main hx (A.cell_refs hr) hb)))
  · intro b o hbo
    rw [hw b (fun e => by subst e; rw [hl] at hbo; cases hbo)]
    exact h.sub b o hbo
  · intro p hp'
    rw [htv]; exact hlent p hp'

/-- what a round has left of the world in which it began -/
structure Left (W : World) (S : Hp) (ob : Nat → List Nat) (l : Nat) (W3 : World) (S3 : Hp) (ob3 : Nat → List Nat) : Prop where
  wf : WF W (fun b => b = l ∨ ∃ i, b ∈ ob i) W3
  sub : Sub S S3
  newS : ∀ b, S3 b ≠ none → S b ≠ none ∨ (∃ i, b ∈ ob i) ∨ W.heap.size ≤ b
  fresh : ∀ i b, b ∈ ob3 i → (∃ i, b ∈ ob i) ∨ W.heap.size ≤ b

theorem Left.outS {W W3 : World} {S S3 : Hp} {ob ob3 : Nat → List Nat} {l b : Nat} (h : Left W S ob l W3 S3 ob3) (hb : b < W.heap.size) (hS : S b = none) (ho : ∀ i, b ∉ ob i) : S3 b = none ∧ ∀ i, b ∉ ob3 i := by
  constructor
  · cases hx : S3 b with
    | none => rfl
    | some o =>
      exfalso
      rcases h.newS b (by rw [hx]; simp) with h1 | ⟨i, h1⟩ | h1
      · exact h1 hS
      · exact ho i h1
      · omega
  · intro i hi
    rcases h.fresh i b hi with ⟨j, h1⟩ | h1
    · exact ho j h1
    · omega

/-- the loop's entry, behind a round -/
theorem SimD.back {a0 a3 : Act} {c2 : Ctx} {W W3 W4 : World} {S3 : Hp} {ob3 : Nat → List Nat} {l : Nat} {st3 st' : List A} (h : SimD c st a0 W S ob) (hprep : prepOk st = true) (h3 : SimD c2 st3 a3 W3 S3 ob3) (hk : backS st st3 = some st') (hL : Left W S ob l W3 S3 ob3)
    (hl : l < W.heap.size) (hSl : S l = none) (hol : ∀ i, l ∉ ob i) (hdl : ∀ q, hp W l ≠ some (.deferred q)) (hcl : c.B0 l ∨ c.w0.heap.size ≤ l) (hw : ∀ b, b ≠ l → hp W4 b = hp W3 b) (hwf : WF W (fun b => b = l ∨ ∃ i, b ∈ ob i) W4)
    (htv : ∀ i t x, st[i]? = some (.box t x) → tv a3 i = tv a0 i) : ∃ ob4, SimD c st' a0 W4 S3 ob4 ∧ (∀ i, l ∉ ob4 i) ∧ ∀ {i b}, b ∈ ob4 i → b ∈ ob3 i := by
  classical
  obtain ⟨hSl3, hol3⟩ := hL.outS hl hSl hol
  let ob4 : Nat → List Nat := fun i => if (∃ t x, st[i]? = some (.box t x)) then ob3 i else []
  have hsub : ∀ {i b}, b ∈ ob4 i → b ∈ ob3 i := by
    intro i b hb
    simp only [ob4] at hb
    split at hb
    · exact hb
    · cases hb
  have hne : ∀ {i b}, b ∈ ob3 i → b ≠ l := fun hb e => hol3 _ (by rw [← e]; exact hb)
  have hlen := backS_length hk
  have at' : ∀ {i : Nat} {y : A}, st'[i]? = some y → ∃ x : A, st[i]? = some x := by
    intro i y hy
    have : i < st.length := by
      rcases Nat.lt_or_ge i st.length with h' | h'
      · exact h'
      · rw [List.getElem?_eq_none (by omega)] at hy; cases hy
    exact ⟨_, List.getElem?_eq_getElem this⟩
  refine ⟨ob4, ⟨?_, by rw [hlen]; exact h.size, ?_, ?_, ?_, ?_, ?_, ?_, ?_, h.mono.trans hL.sub, ?_, ?_, h.lent, ?_⟩, fun i hi => hol3 i (hsub hi), hsub⟩
  · obtain ⟨Ds, e, hnd, hD⟩ := h.defers
    refine ⟨Ds, e, hnd, fun D hDm => ?_⟩
    obtain ⟨h1, h2, h4, h5⟩ := hD D hDm
    have hDl : D ≠ l := fun e => hdl _ (by rw [← e]; exact h1)
    have hlt : D < W.heap.size := hp_lt h1
    obtain ⟨g1, g2⟩ := hL.outS hlt h2 h4
    refine ⟨?_, g1, fun i hi => g2 i (hsub hi), h5⟩
    have := hwf.same D hlt (by rintro (e | ⟨i, hi⟩); exact hDl e; exact h4 i hi)
    simp only [hp]; rw [this]; exact h1
  · intro i y hy
    obtain ⟨x, hx⟩ := at' hy
    rcases backS_at hk i x hx with ⟨hbx, t, z, hm, hr⟩ | ⟨hbx, hr⟩
    · rw [hr] at hy; cases hy
      have hbox : ∃ t x, st[i]? = some (.box t x) := by
        cases x <;> simp [isBoxA] at hbx
        exact ⟨_, _, hx⟩
      have e4 : ob4 i = ob3 i := by simp only [ob4]; rw [if_pos hbox]
      rw [e4]
      obtain ⟨t', x', hx'⟩ := hbox
      rw [← htv i t' x' hx']
      exact (h3.rel i _ hm).mono (Sub.refl _) (fun b hb => hw b (hne hb)) (fun _ _ => rfl)
    · rw [hr] at hy; cases hy
      have hnb : ¬ ∃ t x, st[i]? = some (.box t x) := by
        rintro ⟨t, z, hz⟩
        rw [hx] at hz; cases hz; simp [isBoxA] at hbx
      have e4 : ob4 i = [] := by simp only [ob4]; rw [if_neg hnb]
      rw [e4]
      have hpa := prepOk_at hprep i _ hx
      have hrel := h.rel i _ hx
      have hno : y.own = false := by cases y <;> simp [prepA] at hpa <;> simp [isBoxA] at hbx <;> rfl
      have hnc : y.cell = none := by cases y <;> simp [prepA] at hpa <;> rfl
      rw [hrel.nil_of_not_own hno] at hrel
      exact hrel.mono hL.sub (fun b hb => by cases hb) (fun _ _ => rfl) (fun r hr => by rw [hnc] at hr; cases hr)
  · intro i y r hy hyr
    obtain ⟨x, hx⟩ := at' hy
    rcases backS_at hk i x hx with ⟨hbx, t, z, hm, hr⟩ | ⟨hbx, hr⟩
    · rw [hr] at hy; cases hy; cases hyr
    · rw [hr] at hy; cases hy
      obtain ⟨u, hu, huo⟩ := h.refs i _ r hx hyr
      have hpa := prepOk_at hprep r _ hu
      rcases backS_at hk r u hu with ⟨_, t, z, _, hr'⟩ | ⟨hbu, hr'⟩
      · exact ⟨_, hr', rfl⟩
      · exfalso; cases u <;> simp [A.own] at huo <;> simp [prepA] at hpa <;> simp [isBoxA] at hbu
  · intro i hi
    rw [hlen] at hi
    simp only [ob4]
    rw [if_neg (by rintro ⟨t, x, hx⟩; rw [List.getElem?_eq_none hi] at hx; cases hx)]
  · exact fun i j b hi hj => h3.inj i j b (hsub hi) (hsub hj)
  · intro i
    simp only [ob4]
    split
    · exact h3.nd i
    · exact .nil
  · exact fun i b hi => h3.hid i b (hsub hi)
  · intro b o hbo
    rw [hw b (fun e => by subst e; rw [hSl3] at hbo; cases hbo)]
    exact h3.sub b o hbo
  · intro i b hi
    rcases hL.fresh i b (hsub hi) with ⟨j, hj⟩ | hge
    · exact h.fresh j b hj
    · exact .inr (Nat.le_trans h.frame.size hge)
  · intro b hb
    rcases hL.newS b hb with h1 | ⟨j, hj⟩ | hge
    · exact h.newS b h1
    · exact .inr (h.fresh j b hj)
    · exact .inr (.inr (Nat.le_trans h.frame.size hge))
  · refine h.frame.trans hwf ?_
    rintro b (rfl | ⟨i, hi⟩)
    · exact hcl
    · exact h.fresh i b hi

theorem backS_prep : ∀ {l m r : List A}, backS l m = some r → prepOk l = true → prepOk r = true
  | [], [], r, h, hp => by simp [backS] at h; subst h; rfl
  | [], _ :: _, r, h, hp => by simp [backS] at h
  | _ :: _, [], r, h, hp => by simp [backS] at h
  | x :: l, y :: m, r, h, hp => by
    obtain ⟨h1, h2⟩ := and'_true hp
    have fin : ∀ {z : A} {r' : List A}, prepA z = true → backS l m = some r' → prepOk (z :: r') = true := by
      intro z r' hz hr
      show and' (prepA z) (prepOk r') = true
      rw [backS_prep hr h2, hz]; rfl
    cases x <;> simp only [backS] at h
    case box =>
      cases y <;> simp only [reduceCtorEq] at h
      split at h
      · rename_i r' hr
        cases h
        exact fin rfl hr
      · cases h
    all_goals
      split at h
      · rename_i r' hr
        cases h
        exact fin h1 hr
      · cases h

theorem WF.putObj {w0 w : World} {B : Nat → Prop} (h : WF w0 B w) {b : Nat} (hb : B b ∨ w0.heap.size ≤ b) (o : Obj) : WF w0 B (w.putObj b o) :=
  ⟨by have := h.size; simpa using this, fun i hi hn => by
    have : i ≠ b := fun e => by subst e; exact hb.elim hn (fun h => by omega)
    rw [World.putObj_heap_other this]; exact h.same i hi hn, h.tape, h.os, h.output⟩

theorem WF.weaken {w0 w : World} {B B' : Nat → Prop} (h : WF w0 B w) (hB : ∀ b, B b → B' b) : WF w0 B' w :=
  ⟨h.size, fun b hb hn => h.same b hb (fun h' => hn (hB b h')), h.tape, h.os, h.output⟩

theorem WF.subHp {w w' : World} (h : WF w (fun _ => False) w') : Sub (hp w) (hp w') := fun b o hb => by
  have := h.same b (hp_lt hb) (fun h => h)
  simp only [hp] at hb ⊢
  rw [this]; exact hb

def exJ : Ex → Option Code
  | .normal => none
  | .exit id => some (.exit id)
  | .ret => some .ret

def loopRec (fn : FuncId) (tmps : Array Value) (ps : Array Tmp) (assign body : Code) (D : Nat) (s : LoopState) (j : Option Code) : Loop :=
  { state := s, pending := j, fn := fn, tmps := tmps, params := ps, assign := assign, body := body, defers := D }

theorem rnd_base (hb : Base P E c) (hS : Sub c.S0 S) {w0 : World} {B : Nat → Prop} {st : List A} {a0 : Act} : Base P (rndE E st) ⟨w0, S, B, (boxIds 0 st).map fun i => (i, tv a0 i)⟩ :=
  ⟨⟨hb.env.ty, hb.env.fn, hb.env.it, hb.env.mixed⟩, hb.glob.mono hS, by simp [rndE, Function.comp_def]⟩

/-- ONE ROUND -/
theorem round_at (hb : Base P E c) {N : Nat} {fn : FuncId} {ps : Array Tmp} {assign body : Code} {D l : Nat} {a0 : Act} {W : World} {ld : List Dat} {vals : Array Value} {e : Ex}
    (h : SimD c st a0 W S ob) (hprep : prepOk st = true) (hrec : hp W l = some (.loop (loopRec fn a0.tmps ps assign body D .ready none))) (hSl : S l = none) (hol : ∀ i, l ∉ ob i) (hcl : c.B0 l ∨ c.w0.heap.size ≤ l)
    (hr : rndOk E N ps.toList assign body ld st e st') (hvals : TupRel S ld vals.toList) :
    YieldAt Fence.wide 0 P l vals W fun en W4 => en = .returned (.bool (exJ e).isNone) ∧ ∃ S3 ob4, SimD c st' a0 W4 S3 ob4 ∧ Left W S ob l W4 S3 ob4 ∧
      hp W4 l = some (.loop (loopRec fn a0.tmps ps assign body D (if (exJ e).isNone then .ready else .done) (exJ e))) ∧ S3 l = none ∧ ∀ i, l ∉ ob4 i := by
  obtain ⟨st0, fp, st1, st2, h0, ha, hbody, hk⟩ := hr
  have hlt : l < W.heap.size := hp_lt hrec
  have hdl : ∀ q, hp W l ≠ some (.deferred q) := fun q hq => by rw [hrec] at hq; cases hq
  let L : List (Nat × Value) := (boxIds 0 st).map fun i => (i, tv a0 i)
  have hLm : ∀ p ∈ L, tv a0 p.1 = p.2 := by
    intro p hp'
    obtain ⟨i, _, rfl⟩ := List.mem_map.1 hp'
    rfl
  let c1 : Ctx := ⟨W, S, fun b => ∃ i, b ∈ ob i, L⟩
  let ar : Act := { tmps := a0.tmps, defers := [] }
  have hs1 : SimD c1 st ar W S ob := h.rebase (l := l) (fun _ _ => rfl) hSl hol hdl (WF.refl _ _) (Sub.refl _) (fun i b hi => .inl ⟨i, hi⟩) (fun b hb => .inl hb) (.inr rfl) rfl hLm
  have hb1 : Base P (rndE E st) c1 := rnd_base hb h.mono
  obtain ⟨hpl, ob0, hs2⟩ := psK_inv hb1 _ _ _ _ _ _ _ _ _ h0 hs1 hvals
  obtain ⟨e1, st1', hp1, hw1⟩ := evC_sound (β := Ex × List A) hb1 N assign _ _ _ ha
  simp only [pairK, Option.some.injEq, Prod.mk.injEq] at hp1
  obtain ⟨rfl, rfl⟩ := hp1
  have efold : ((ps.zip vals).foldl (fun tmps (t, a) => tmps.setIfInBounds t a) a0.tmps) = (ps.toList.zip vals.toList).foldl (fun tmps p => tmps.setIfInBounds p.1 p.2) a0.tmps := by
    rw [← Array.foldl_toList, Array.toList_zip]
  refine ⟨_, _, _, _, run_yield (r := loopRec fn a0.tmps ps assign body D .ready none) hrec (show vals.size = ps.size by simpa using hpl.symm), ?_⟩
  refine roundIn_of_wpIn (F := Fence.wide) trivial ?_
  have e0 : ({ tmps := ((loopRec fn a0.tmps ps assign body D .ready none).params.zip vals).foldl (fun tmps (t, a) => tmps.setIfInBounds t a) (loopRec fn a0.tmps ps assign body D .ready none).tmps, defers := [] } : Act) =
      { ar with tmps := (ps.toList.zip vals.toList).foldl (fun tmps p => tmps.setIfInBounds p.1 p.2) ar.tmps } := by
    show ({ tmps := _, defers := [] } : Act) = { tmps := _, defers := [] }
    rw [← efold]; rfl
  rw [e0]
  refine hw1 (some l) _ _ W ⟨S, ob0, hs2⟩ ?_
  rintro a1 W1 ⟨S1, ob1, hs3⟩
  have hL1 : Left W S ob l W1 S1 ob1 := ⟨hs3.frame.weaken (fun b hb => .inr hb), hs3.mono, hs3.newS, hs3.fresh⟩
  obtain ⟨hSl1, hol1⟩ := hL1.outS hlt hSl hol
  have hrec1 : hp W1 l = some (.loop (loopRec fn a0.tmps ps assign body D .ready none)) := by
    have := hs3.frame.same l hlt (by rintro ⟨i, hi⟩; exact hol i hi)
    simp only [hp] at hrec ⊢
    rw [this]; exact hrec
  refine ⟨_, run_beginRound hrec1 rfl, ?_⟩
  generalize hW2 : W1.putObj l (.loop { loopRec fn a0.tmps ps assign body D .ready none with state := .busy }) = W2
  have hsz2 : W2.heap.size = W1.heap.size := by rw [← hW2]; simp
  have hother2 : ∀ b, b ≠ l → hp W2 b = hp W1 b := fun b hbl => by rw [← hW2]; exact World.putObj_heap_other hbl
  have hrec2 : hp W2 l = some (.loop (loopRec fn a0.tmps ps assign body D .busy none)) := by
    rw [← hW2]; exact World.putObj_heap_same (hp_lt hrec1)
  let c2 : Ctx := ⟨W2, S1, fun b => b ≠ l ∧ ((∃ i, b ∈ ob1 i) ∨ (∃ i, b ∈ ob i) ∨ W.heap.size ≤ b), L⟩
  have hne1 : ∀ {i b}, b ∈ ob1 i → b ≠ l := fun hb e => hol1 _ (by rw [← e]; exact hb)
  have hs4 : SimD c2 st1' a1 W2 S1 ob1 := hs3.rebase (l := l) hother2 hSl1 hol1 (fun q hq => by rw [hrec1] at hq; cases hq) (WF.refl _ _) (Sub.refl _) (fun i b hi => .inl ⟨hne1 hi, .inl ⟨i, hi⟩⟩) (fun b hb => .inl hb)
    (.inl ⟨rfl, fun D hD => .inl (by
      rcases hD with ⟨i, hi⟩ | hge
      · exact ⟨fun e => hol i (by rw [← e]; exact hi), .inr (.inl ⟨i, hi⟩)⟩
      · exact ⟨fun e => by subst e; exact absurd hlt (Nat.not_lt.2 hge), .inr (.inr hge)⟩)⟩) rfl hs3.lent
  have hb2 : Base P (rndE E st) c2 := rnd_base hb (h.mono.trans hL1.sub)
  obtain ⟨e2, st2', hp2, hw2⟩ := evC_sound (β := Ex × List A) hb2 N body _ _ _ hbody
  simp only [pairK, Option.some.injEq, Prod.mk.injEq] at hp2
  obtain ⟨rfl, rfl⟩ := hp2
  refine hw2 (some l) _ a1 W2 ⟨S1, ob1, hs4⟩ ?_
  rintro a3 W3 ⟨S3, ob3, hs5⟩
  have hwf2 : WF W (fun b => b = l ∨ ∃ i, b ∈ ob i) W2 := by rw [← hW2]; exact hL1.wf.putObj (b := l) (.inl (.inl rfl)) _
  have hL3 : Left W S ob l W3 S3 ob3 := by
    have hin : ∀ b, c2.B0 b → (∃ i, b ∈ ob i) ∨ W.heap.size ≤ b := by
      rintro b ⟨_, ⟨i, hi⟩ | hi | hi⟩
      · exact hL1.fresh i b hi
      · exact .inl hi
      · exact .inr hi
    have hge : ∀ b, W2.heap.size ≤ b → W.heap.size ≤ b := fun b hb => Nat.le_trans hwf2.size hb
    refine ⟨hwf2.trans hs5.frame (fun b hb => (hin b hb).imp (fun h => .inr h) id), hL1.sub.trans hs5.mono, fun b hb => ?_, fun i b hi => ?_⟩
    · rcases hs5.newS b hb with h1 | h1 | h1
      · exact hL1.newS b h1
      · exact .inr (hin b h1)
      · exact .inr (.inr (hge b h1))
    · rcases hs5.fresh i b hi with h1 | h1
      · exact hin b h1
      · exact .inr (hge b h1)
  obtain ⟨hSl3, hol3⟩ := hL3.outS hlt hSl hol
  have hrec3 : hp W3 l = some (.loop (loopRec fn a0.tmps ps assign body D .busy none)) := by
    have := hs5.frame.same l (hp_lt hrec2) (fun hbl => hbl.1 rfl)
    simp only [hp] at hrec2 ⊢
    rw [this]; exact hrec2
  have hend := run_endRound (P := P) (exJ e2) hrec3
  generalize hW4 : W3.putObj l (.loop { loopRec fn a0.tmps ps assign body D .busy none with state := if (exJ e2).isNone then .ready else .done, pending := exJ e2 }) = W4 at hend
  have hother4 : ∀ b, b ≠ l → hp W4 b = hp W3 b := fun b hbl => by rw [← hW4]; exact World.putObj_heap_other hbl
  have hrec4 : hp W4 l = some (.loop (loopRec fn a0.tmps ps assign body D (if (exJ e2).isNone then .ready else .done) (exJ e2))) := by
    rw [← hW4]; exact World.putObj_heap_same (hp_lt hrec3)
  have hwf4 : WF W (fun b => b = l ∨ ∃ i, b ∈ ob i) W4 := by rw [← hW4]; exact hL3.wf.putObj (b := l) (.inl (.inl rfl)) _
  obtain ⟨ob4, hs6, hol4, hob4⟩ := h.back hprep hs5 hk hL3 hlt hSl hol hdl hcl hother4 hwf4 (fun i t x hi => by
    exact hs5.lent (i, tv a0 i) (List.mem_map.2 ⟨i, mem_boxIds.2 ⟨i, t, x, by omega, hi⟩, rfl⟩))
  have hfin : (Ending.returned (.bool (exJ e2).isNone)) = .returned (.bool (exJ e2).isNone) ∧ ∃ S3 ob4, SimD c st' a0 W4 S3 ob4 ∧ Left W S ob l W4 S3 ob4 ∧
      hp W4 l = some (.loop (loopRec fn a0.tmps ps assign body D (if (exJ e2).isNone then .ready else .done) (exJ e2))) ∧ S3 l = none ∧ ∀ i, l ∉ ob4 i :=
    ⟨rfl, S3, ob4, hs6, ⟨hwf4, hL3.sub, hL3.newS, fun i b hi => hL3.fresh i b (hob4 hi)⟩, hrec4, hSl3, hol4⟩
  cases e2 with
  | normal => exact ⟨_, _, hend, hfin⟩
  | exit id => exact ⟨_, _, hend, hfin⟩
  | ret => exact ⟨_, _, hend, hfin⟩

theorem fn_inv {f : Nat} {t : T} {x : t.den} {v : Value} (h : VR S (.fn f t) x v) : ∃ caps : Array Value, v = .func (.func f) #[] caps ∧ Rd S t x caps.toList := by
  unfold VR at h
  simp only [T.isAgg, Bool.false_eq_true, if_false] at h
  obtain ⟨caps, ev, hrd⟩ := h
  simp only [List.cons.injEq, and_true] at ev
  exact ⟨caps, ev, hrd⟩

/-- what is not read and not owned may turn -/
theorem SimD.away (h : SimD c st a w S ob) (hw : ∀ b, (S b ≠ none ∨ (∃ i, b ∈ ob i) ∨ markOf b ∈ a.defers) → hp w' b = hp w b) (hf : WF c.w0 c.B0 w') : SimD c st a w' S ob := by
  refine ⟨?_, h.size, fun i x hx => ?_, h.refs, h.out, h.inj, h.nd, h.hid, fun b o hb => ?_, h.mono, h.fresh, h.newS, h.lent, hf⟩
  · obtain ⟨Ds, e, hnd, hD⟩ := h.defers
    refine ⟨Ds, e, hnd, fun D hDm => ?_⟩
    obtain ⟨h1, h2⟩ := hD D hDm
    refine ⟨?_, h2⟩
    rw [hw D (.inr (.inr (by rw [e]; exact List.mem_map.2 ⟨D, hDm, rfl⟩)))]; exact h1
  · exact (h.rel i x hx).mono (Sub.refl _) (fun b hb => hw b (.inr (.inl ⟨i, hb⟩))) (fun _ _ => rfl) (fun r hr b hb => hw b (.inr (.inl ⟨r, h.main hx (A.cell_refs hr) hb⟩)))
  · rw [hw b (.inl (by rw [hb]; simp))]; exact h.sub b o hb

/-- more is read -/
theorem SimD.merge {S1 : Hp} (h : SimD c st a w S ob) (h1 : Sub S1 (hp w)) (h2 : ∀ b, S1 b ≠ none → S b = none → (∀ i, b ∉ ob i) ∧ markOf b ∉ a.defers ∧ (c.B0 b ∨ c.w0.heap.size ≤ b)) :
    ∃ S', SimD c st a w S' ob ∧ Sub S S' ∧ Sub S1 S' ∧ ∀ b, S' b ≠ none → S b ≠ none ∨ S1 b ≠ none := by
  let S' : Hp := fun b => match S b with
    | some o => some o
    | none => S1 b
  have e1 : ∀ {b o}, S b = some o → S' b = some o := fun hb => by simp only [S', hb]
  have e2 : ∀ {b}, S b = none → S' b = S1 b := fun hb => by simp only [S', hb]
  have hS : Sub S S' := fun b o hb => e1 hb
  have hmk : Marks c a.defers w S' ob := by
    obtain ⟨Ds, e, hnd, hDs⟩ := h.defers
    refine ⟨Ds, e, hnd, fun D hDm => ?_⟩
    obtain ⟨k1, k2, k3, k4⟩ := hDs D hDm
    refine ⟨k1, ?_, k3, k4⟩
    rw [e2 k2]
    cases hx : S1 D with
    | none => rfl
    | some o => exact absurd (by rw [e]; exact List.mem_map.2 ⟨D, hDm, rfl⟩) (h2 D (by rw [hx]; simp) k2).2.1
  refine ⟨S', ⟨hmk, h.size, fun i x hx => (h.rel i x hx).mono hS (fun _ _ => rfl) (fun _ _ => rfl) (fun _ _ _ _ => rfl), h.refs, h.out, h.inj, h.nd, fun i b hi => ?_, fun b o hb => ?_, h.mono.trans hS, h.fresh, fun b hb => ?_, h.lent, h.frame⟩, hS, fun b o hb => ?_, fun b hb => ?_⟩
  · have := h.hid i b hi
    rw [e2 this]
    cases hx : S1 b with
    | none => rfl
    | some o => exact absurd hi ((h2 b (by rw [hx]; simp) this).1 i)
  · cases hs : S b with
    | some o' => rw [e1 hs] at hb; cases hb; exact h.sub b _ hs
    | none => rw [e2 hs] at hb; exact h1 b o hb
  · cases hs : S b with
    | some o' => exact h.newS b (by rw [hs]; simp)
    | none => rw [e2 hs] at hb; exact .inr (h2 b hb hs).2.2
  · cases hs : S b with
    | some o' =>
      have := h.sub b _ hs
      rw [h1 b o hb] at this; cases this
      exact e1 hs
    | none => rw [e2 hs]; exact hb
  · cases hs : S b with
    | some o' => exact .inl (by simp)
    | none => rw [e2 hs] at hb; exact .inr hb

/-- A RANGE OVER A FUNCTION -/
theorem rf_sound {β : Type} (hb : Base P E c) (N : Nat) (live : List Nat) (g : Operand) (ps : Array Tmp) (assign body : Code) : CodeOk (β := β) P c (.rangeFunc g ps assign body) (rfEv E N live g ps assign body) := by
  intro st K y h
  unfold rfEv at h
  obtain ⟨d, st1, fp1, h1, h2⟩ := exec_of_cps h
  split at h2
  case h_2 => cases h2
  rename_i f t x
  split at h2
  case h_2 => cases h2
  rename_i hprep
  generalize hst2 : restr live 0 st1 = st2 at h2 hprep
  cases hxs : (E.it f ⟨t, x⟩).val with
  | none => rw [hxs] at h2; cases h2
  | some xs =>
  rw [hxs] at h2
  simp only [Option.bind_some] at h2
  obtain ⟨es, sts, hpath, hK⟩ := rfC_path (ok := fun y => rndOk E N ps.toList assign body (mkL (E.it f ⟨t, x⟩).ts y)) (fun y st K r hr => rndC_inv hr) _ _ _ _ h2
  refine ⟨es, sts, hK, fun Q a w hs hq => (wpIn_wide (n := 0)).1 ?_⟩
  obtain ⟨S, ob, hs⟩ := hs
  obtain ⟨S1, ob1, hs1, hS1, hv⟩ := gK_inv h1 hs (hb.globS hs)
  obtain ⟨caps, ev, hrd⟩ := fn_inv hv
  obtain ⟨ob2, hs2⟩ := hs1.restr live
  rw [hst2] at hs2
  rcases hb.env.it f with hno | ⟨⟨fn', hf, hbody', hname⟩, hit⟩
  · rw [hno] at hxs; cases hxs
  -- the loop's record
  let D := w.heap.size
  let l := w.heap.size + 1
  let a0 : Act := { a with defers := markOf D :: a.defers }
  obtain ⟨hs3, hD1, hD2, hD3⟩ := hs2.pushed (.deferred (some []))
  refine wpIn_rangeFunc fun fn _ => ?_
  let rc := loopRec fn a.tmps ps assign body D
  obtain ⟨hs4, hl1, hl2, hl3⟩ := hs3.pushed (.loop (rc .ready none))
  generalize hw1 : pushed (pushed w (.deferred (some []))) (.loop (rc .ready none)) = w1 at hs4
  have hsz : (pushed w (.deferred (some []))).heap.size = l := by simp [pushed, l]
  rw [hsz] at hl1 hl2 hl3
  have hrec : hp w1 l = some (.loop (rc .ready none)) := by rw [← hw1, ← hsz]; exact hp_pushed _ _
  have hDw : hp w1 D = some (.deferred (some [])) := by
    rw [← hw1]; exact sub_pushed _ _ _ _ (hp_pushed _ _)
  have hs5 : SimD c st2 a0 w1 S1 ob2 := by
    refine ⟨?_, hs4.size, hs4.rel, hs4.refs, hs4.out, hs4.inj, hs4.nd, hs4.hid, hs4.sub, hs4.mono, hs4.fresh, hs4.newS, hs4.lent, hs4.frame⟩
    obtain ⟨Ds, e, hnd, hDs⟩ := hs2.defers
    obtain ⟨Ds', e', _, hDs'⟩ := hs4.defers
    refine ⟨D :: Ds, by show markOf D :: a.defers = _; rw [e]; rfl, List.nodup_cons.2 ⟨fun hm => ?_, hnd⟩, fun B hB => ?_⟩
    · exact absurd (hp_lt (hDs D hm).1) (Nat.lt_irrefl _)
    · rcases List.mem_cons.1 hB with rfl | hB
      · exact ⟨hDw, hD2, hD1, hD3⟩
      · obtain ⟨k1, k2, k3, k4⟩ := hDs B hB
        refine ⟨?_, k2, k3, k4⟩
        rw [← hw1]; exact sub_pushed _ _ _ _ (sub_pushed _ _ _ _ k1)
  refine ⟨l, [markOf D], w1, { target := .fn (.func f) caps, args := #[.func (.yield l) #[] #[]] }, w1, f, #[.func (.yield l) #[] #[]] ++ caps, w1, ?_, ?_, fun _ _ => trivial, ?_, fun hd => by simp [Fence.wide] at hd, ?_⟩
  · rw [show Fence.wide.round = none from rfl, run_enterLoop_outer, ← hw1]; rfl
  · simp [resolve, rangeCall, ev, Deferred.ofValue]
    rfl
  · have hbn : fn'.body ≠ none := by intro e; rw [e] at hbody'; simp at hbody'
    simp [invoke, callFunc, hf, hbn, hname]
  · let ok := fun y : denL (E.it f ⟨t, x⟩).ts => rndOk E N ps.toList assign body (mkL (E.it f ⟨t, x⟩).ts y)
    let base : (Nat → Prop) → Hp → World → Hp → (Nat → List Nat) → Prop := fun O Sh W S' ob' => Sub Sh S' ∧ (∀ b, S' b ≠ none → O b ∨ Sh b ≠ none) ∧ (∀ i b, b ∈ ob' i → O b) ∧ (∀ b, b < w1.heap.size → O b) ∧ S' l = none ∧ (∀ i, l ∉ ob' i)
    let J : List (denL (E.it f ⟨t, x⟩).ts) → (Nat → Prop) → Hp → World → Prop := fun ys O Sh W => ∃ st S' ob', SimD c st a0 W S' ob' ∧ prepOk st = true ∧ base O Sh W S' ob' ∧ hp W l = some (.loop (rc .ready none)) ∧ Path ok ys st es sts
    let Jx : (Nat → Prop) → Hp → World → Prop := fun O Sh W => es ≠ .normal ∧ ∃ S' ob', SimD c sts a0 W S' ob' ∧ base O Sh W S' ob' ∧ hp W l = some (.loop (rc .done (exJ es)))
    have hcl : c.B0 l ∨ c.w0.heap.size ≤ l := hl3
    have hlw : l < w1.heap.size := hp_lt hrec
    have hmarks : ∀ D, markOf D ∈ a0.defers → D < w1.heap.size := by
      intro D' hD'
      obtain ⟨Ds, e, hnd, hDs⟩ := hs5.defers
      rw [e] at hD'
      obtain ⟨D2, hm2, e2⟩ := List.mem_map.1 hD'
      have : D2 = D' := by simpa [markOf] using e2
      subst this
      exact hp_lt (hDs D2 hm2).1
    have stable : ∀ {st : List A} {O : Nat → Prop} {Sh : Hp} {W W' : World} {S' : Hp} {ob' : Nat → List Nat}, SimD c st a0 W S' ob' → base O Sh W S' ob' → WF W (fun b => ¬ O b) W' → Sub Sh (hp W') → SimD c st a0 W' S' ob' := by
      rintro st O Sh W W' S' ob' hs ⟨b1, b2, b3, b4, b5, b6⟩ hw hsh
      have hO : ∀ b, O b → b < W.heap.size → hp W' b = hp W b := fun b hb hlt => hw.same b hlt (fun h => h hb)
      refine hs.away (fun b hb => ?_) (hs.frame.trans hw fun b hb => .inr ?_)
      · rcases hb with hb | ⟨i, hb⟩ | hb
        · cases hx : S' b with
          | none => exact absurd hx hb
          | some o =>
            have h1 := hs.sub b o hx
            rcases b2 b hb with h2 | h2
            · exact hO b h2 (hp_lt h1)
            · cases hy : Sh b with
              | none => exact absurd hy h2
              | some o' =>
                have := b1 b o' hy
                rw [hx] at this; cases this
                rw [h1, hsh b _ hy]
        · obtain ⟨_, _, o, ho⟩ := hs.ob_some hb
          exact hO b (b3 i b hb) (hp_lt ho)
        · have := hmarks b hb
          refine hO b (b4 b this) ?_
          obtain ⟨Ds, e, hnd, hDs⟩ := hs.defers
          rw [e] at hb
          obtain ⟨D2, hm2, e2⟩ := List.mem_map.1 hb
          have e3 : D2 = b := by simpa [markOf] using e2
          subst e3
          exact hp_lt (hDs D2 hm2).1
      · rcases Nat.lt_or_ge b w1.heap.size with h | h
        · exact absurd (b4 b h) hb
        · exact Nat.le_trans hs5.frame.size h
    have hrecS : ∀ {O : Nat → Prop} {Sh : Hp} {W W' : World} {S' : Hp} {ob' : Nat → List Nat} {r : Loop}, base O Sh W S' ob' → WF W (fun b => ¬ O b) W' → hp W l = some (.loop r) → hp W' l = some (.loop r) := by
      rintro O Sh W W' S' ob' r ⟨b1, b2, b3, b4, b5, b6⟩ hw hr
      have := hw.same l (hp_lt hr) (fun h => h (b4 l hlw))
      simp only [hp] at hr ⊢
      rw [this]; exact hr
    refine callsIn_wide.2 ((hit w1 S1 ⟨t, x⟩ caps hrd hs5.sub (hb.globS hs5) xs hxs l J Jx ?_ ?_ ?_ ?_).mono ?_)
    · rintro ys O Sh W W' ⟨st, S', ob', k1, k2, k3, k4, k7⟩ hw hsh
      exact ⟨st, S', ob', stable k1 k3 hw hsh, k2, k3, hrecS k3 hw k4, k7⟩
    · rintro O Sh W W' ⟨k0, S', ob', k1, k3, k4⟩ hw hsh
      exact ⟨k0, S', ob', stable k1 k3 hw hsh, k3, hrecS k3 hw k4⟩
    · rintro y ys O Sh S2 W1 vals ⟨st, S', ob', k1, k2, ⟨b1, b2, b3, b4, b5, b6⟩, k4, k7⟩ hsh hS2 hnew hvals
      have key : ∃ e st', ok y st e st' ∧ ((e = .normal ∧ Path ok ys st' es sts) ∨ (e ≠ .normal ∧ e = es ∧ st' = sts)) := by
        cases k7 with
        | more hy hp' => exact ⟨_, _, hy, .inl ⟨rfl, hp'⟩⟩
        | out hy he => exact ⟨_, _, hy, .inr ⟨he, rfl, rfl⟩⟩
      obtain ⟨e, st', hy, hcase⟩ := key
      have hn : ∀ b, S2 b ≠ none → S' b = none → ¬ O b := fun b hb hb' => (hnew b hb).elim (fun h => by
        cases hx : Sh b with
        | none => exact absurd hx h
        | some o => rw [b1 b o hx] at hb'; cases hb') id
      obtain ⟨S'', m1, m2, m3, m4⟩ := k1.merge hS2 (fun b hb hb' => ⟨fun i hi => hn b hb hb' (b3 i b hi), fun hm => hn b hb hb' (b4 b (hmarks b hm)), .inr (by
        rcases Nat.lt_or_ge b w1.heap.size with h | h
        · exact absurd (b4 b h) (hn b hb hb')
        · exact Nat.le_trans hs5.frame.size h)⟩)
      have b5' : S'' l = none := by
        cases hx : S'' l with
        | none => rfl
        | some o =>
          rcases m4 l (by rw [hx]; simp) with h | h
          · exact absurd b5 h
          · exact absurd (b4 l hlw) (hn l h b5)
      obtain ⟨fn1, tm1, as1, bo1, r1, r2⟩ := round_at hb m1 k2 k4 b5' b6 hcl hy (hvals.mono m3)
      refine ⟨fn1, tm1, as1, bo1, r1, r2.mono ?_⟩
      rintro en W4 ⟨rfl, S3, ob4, q1, q2, q3, q4, q5⟩
      have hin : ∀ b, (b = l ∨ ∃ i, b ∈ ob' i) → O b := by
        rintro b (rfl | ⟨i, hi⟩)
        · exact b4 _ hlw
        · exact b3 i b hi
      have hb' : base (fun b => O b ∨ (W1.heap.size ≤ b ∧ b < W4.heap.size)) S2 W4 S3 ob4 := by
        refine ⟨m3.trans q2.sub, fun b hb => ?_, fun i b hi => ?_, fun b hb => .inl (b4 b hb), q4, q5⟩
        · rcases q2.newS b hb with h | ⟨i, h⟩ | h
          · rcases m4 b h with h | h
            · rcases b2 b h with h | h
              · exact .inl (.inl h)
              · refine .inr ?_
                cases hx : Sh b with
                | none => exact absurd hx h
                | some o => rw [hsh b o hx]; simp
            · exact .inr h
          · exact .inl (.inl (b3 i b h))
          · refine .inl (.inr ⟨h, ?_⟩)
            cases hx : S3 b with
            | none => exact absurd hx hb
            | some o => exact hp_lt (q1.sub b o hx)
        · rcases q2.fresh i b hi with ⟨j, h⟩ | h
          · exact .inl (b3 j b h)
          · obtain ⟨_, _, o, ho⟩ := q1.ob_some hi
            exact .inr ⟨h, hp_lt ho⟩
      refine ⟨fun b => O b ∨ (W1.heap.size ≤ b ∧ b < W4.heap.size), fun b hb => .inl hb, fun b hb => hb, q2.wf.weaken hin, (m3.trans q2.sub).trans q1.sub, ?_⟩
      rcases hcase with ⟨rfl, hp'⟩ | ⟨he, rfl, rfl⟩
      · refine .inl ⟨rfl, st', S3, ob4, q1, ?_, hb', q3, hp'⟩
        obtain ⟨_, _, _, _, _, _, _, hk⟩ := hy
        exact backS_prep hk k2
      · refine .inr ⟨?_, he, S3, ob4, q1, hb', ?_⟩
        · cases e <;> first | exact absurd rfl he | rfl
        · cases e <;> first | exact absurd rfl he | exact q3
    · refine ⟨st2, S1, ob2, hs5, hprep, ⟨Sub.refl _, fun b hb => .inr hb, fun i b hi => ?_, fun b hb => hb, hl2, hl1⟩, hrec, hpath⟩
      obtain ⟨_, _, o, ho⟩ := hs5.ob_some hi
      exact hp_lt ho
    · rintro e W' ⟨⟨v, rfl⟩, O, Sh, hJ⟩
      have fin : ∀ {S' : Hp} {ob' : Nat → List Nat} {s : LoopState}, SimD c sts a0 W' S' ob' → hp W' l = some (.loop (rc s (exJ es))) → s ≠ .busy → S' l = none → (∀ i, l ∉ ob' i) →
          ∃ jump w4, (Instr.endLoop l).run P W' = .ok jump w4 ∧ (match jump with
            | none => Q .normal a0 w4
            | some c => c.wpIn Fence.wide 0 P Q a0 w4) := by
        intro S' ob' s k1 k4 hsb k5 k6
        refine ⟨_, _, run_endLoop k4 hsb, ?_⟩
        have hsim : Sim c sts a0 (W'.putObj l (.loop { rc s (exJ es) with state := .exhausted })) :=
          ⟨S', ob', k1.rebase (l := l) (fun b hb => World.putObj_heap_other hb) k5 k6 (fun q hq => by rw [k4] at hq; cases hq) (k1.frame.putObj hcl _) k1.mono k1.fresh k1.newS (.inl ⟨rfl, fun D hD => hD⟩) rfl k1.lent⟩
        have := hq _ _ hsim
        show (match exJ es with
            | none => Q .normal a0 _
            | some c => c.wpIn Fence.wide 0 P Q a0 _)
        cases es with
        | normal => exact this
        | exit id => exact wpIn_exit this
        | ret => exact wpIn_ret this
      rcases hJ with ⟨st, S', ob', k1, k2, ⟨_, _, _, _, k5, k6⟩, k4, k7⟩ | ⟨he, S', ob', k1, ⟨_, _, _, _, k5, k6⟩, k4⟩
      · cases k7
        exact fin k1 k4 (by simp) k5 k6
      · exact fin k1 k4 (by simp) k5 k6
end
end Go.Lift

/- Functions: the contract that a plain function's value earns. -/
set_option linter.all false
namespace Go.Lift
section
variable {P : Program} {E : Env} {c : Ctx} {st st' : List A} {fp fp' : FP} {a : Act} {w w' : World} {S : Hp} {ob : Nat → List Nat}

/-- what one result variable gives -/
def resSem (tmps : Array Value) : ResultVar → Sem Value
  | .tmp t => pure (tmps.getD t undef)
  | .cell a t => do loadVar t (← asAddr (tmps.getD a undef))

theorem results_eq (fn : Func) (tmps : Array Value) : results fn tmps = (do
    let vs ← fn.results.mapM (resSem tmps)
    pure (if h : vs.size = 1 then vs[0] else .tuple vs)) := by
  unfold results
  have : (fun (x : ResultVar) => match x with
      | .tmp t => (pure (tmps.getD t undef) : Sem Value)
      | .cell a t => do loadVar t (← asAddr (tmps.getD a undef))) = resSem tmps := by funext r; cases r <;> rfl
  rw [← this]
  rfl

theorem resK1_inv {α : Type} {r : α × List A × FP} {rv : ResultVar} {rt : TypeId} {k : Dat → Cmd α} (h : exec E (resK1 E rv rt k) st fp = some r) (hb : Base P E c) (hs : SimD c st a w S ob) :
    ∃ d v st' fp' S' ob', exec E (k d) st' fp' = some r ∧ SimD c st' a w S' ob' ∧ Sub S S' ∧ VR S' d.1 d.2 v ∧ (resSem a.tmps rv).run P w = .ok v w ∧ st'.length = st.length := by
  cases rv with
  | tmp t =>
    simp only [resK1] at h
    obtain ⟨e, he, h1⟩ := tyK_inv h
    obtain ⟨A, fp1, h2, hA, hAo, hAd, hAr⟩ := rdK_inv h1 hs (hb.globS hs)
    obtain ⟨x, st1, fp2, S1, ob1, h3, hs1, hS, hv, hl⟩ := asK_inv h2 hs hA
    exact ⟨⟨e.t, x⟩, _, st1, fp2, S1, ob1, h3, hs1, hS, hv, rfl, hl⟩
  | cell ad ty =>
    simp only [resK1] at h
    obtain ⟨e, he, h1⟩ := tyK_inv h
    obtain ⟨fp1, h2⟩ := exec_get h1
    clear h h1
    split at h2
    · rename_i t x hy
      split at h2
      · rename_i ht
        have := teq_eq ht
        subst this
        obtain ⟨b, cs, E', fr, bs, hob, hv, hcs, hfr, hrdo⟩ := hs.rel ad _ (getD_at hy (by simp))
        obtain ⟨_, hrd⟩ := hrdo.rd _ _ _ _ (hb.tyOk he).noOwn
        obtain ⟨v, hrun, hvr⟩ := run_loadVar (P := P) (w := w) (hb.tyOk he) (b := b) (off := 0) (c1 := cs.toList) ⟨cs, E', fr, [], [], hcs, by simp, rfl⟩ hrd
        refine ⟨⟨e.t, x⟩, v, st, fp1, S, ob, h2, hs, Sub.refl _, hvr, ?_, rfl⟩
        have hv' : a.tmps.getD ad undef = .pointer (some ⟨b, 0, none⟩) := hv
        simp only [resSem, hv', asAddr, Sem.run_bind, Sem.run_pure, Result.andThen_ok, hrun]
      · exact (exec_fail h2).elim
    · exact (exec_fail h2).elim

theorem resKs_inv {α : Type} {r : α × List A × FP} (hb : Base P E c) : ∀ (rs : List ResultVar) (rts : List TypeId) (k : List Dat → Cmd α) (st : List A) (fp : FP) (S : Hp) (ob : Nat → List Nat), exec E (resKs E rs rts k) st fp = some r → SimD c st a w S ob →
    ∃ l vs st' fp' S' ob', exec E (k l) st' fp' = some r ∧ SimD c st' a w S' ob' ∧ Sub S S' ∧ TupRel S' l vs ∧ (rs.mapM (resSem a.tmps)).run P w = .ok vs w ∧ st'.length = st.length
  | [], rts, k, st, fp, S, ob, h, hs => ⟨[], [], st, fp, S, ob, by cases rts <;> exact h, hs, Sub.refl _, .nil, by simp, rfl⟩
  | rv :: rs, [], k, st, fp, S, ob, h, hs => (exec_fail h).elim
  | rv :: rs, rt :: rts, k, st, fp, S, ob, h, hs => by
    simp only [resKs] at h
    obtain ⟨d, v, st1, fp1, S1, ob1, h1, hs1, hS, hv, hrun, hl⟩ := resK1_inv h hb hs
    obtain ⟨l, vs, st2, fp2, S2, ob2, h2, hs2, hS2, ht, hrun2, hl2⟩ := resKs_inv hb rs rts _ st1 fp1 S1 ob1 h1 hs1
    refine ⟨d :: l, v :: vs, st2, fp2, S2, ob2, h2, hs2, hS.trans hS2, .cons (hv.mono hS2) ht, ?_, by omega⟩
    simp only [List.mapM_cons, Sem.run_bind, hrun, Result.andThen_ok, hrun2, Sem.run_pure]

theorem results_one {fn : Func} {rv : ResultVar} {v : Value} (h : fn.results.toList = [rv]) (hr : (resSem a.tmps rv).run P w = .ok v w) : (results fn a.tmps).run P w = .ok v w := by
  have h' : fn.results = #[rv] := by apply Array.toList_inj.1; rw [h]
  rw [results_eq, h', Array.mapM_eq_mapM_toList]
  simp [hr]

theorem ownAt_vro {hh S : Hp} {tv : Nat → Value} {x : A} {v : Value} {o : List Nat} {u : T} {z : u.den} (hx : ARel hh S tv x v o) (h : ownAt x u = some z) : VRO hh S u z v o := by
  unfold ownAt at h
  split at h
  · obtain ⟨e, e'⟩ := cast_some h
    subst e; subst e'
    exact hx.2
  · split at h
    · obtain ⟨e, e'⟩ := cast_some h
      cases e; subst e'
      exact VRO.of_one rfl ⟨_, rfl, hx⟩
    · cases h
  · split at h
    · split at h
      · rename_i x' hx'
        cases h
        obtain ⟨e, e'⟩ := cast_some hx'
        subst e; subst e'
        obtain ⟨b, cs, E', fr, bs, hob, hv, hcs, hfr, hr⟩ := hx
        exact VRO.of_one rfl (.inr ⟨_, b, cs, E', fr, bs, rfl, by rw [hv], hob, hcs, hfr, hr⟩)
      · cases h
    · cases h
  · split at h
    · cases h
      rw [hx.1, hx.2]
      exact VRO.of_one rfl ⟨_, rfl, .inl ⟨rfl, ⟨_, rfl, fun _ _ => rfl⟩, rfl⟩⟩
    · cases h
  · split at h
    · cases h
      have := VR.opq_inv hx.1
      rw [this, hx.2]
      exact VRO.of_one rfl ⟨_, rfl, .inl ⟨rfl, rfl, rfl⟩⟩
    · cases h
      have := VR.opq_inv hx.1
      rw [this, hx.2]
      exact VRO.of_one rfl (.inl ⟨rfl, rfl, rfl⟩)
    · cases h
  · cases h

inductive ResP (P : Program) (S : Hp) (a : Act) (w : World) : List ResultVar → List (ResultVar × T × Option Dat) → Prop
  | nil : ResP P S a w [] []
  | dat {rv : ResultVar} {u : T} {d : Dat} {v : Value} {rs : List ResultVar} {l : List (ResultVar × T × Option Dat)} (hv : VR S d.1 d.2 v) (hr : (resSem a.tmps rv).run P w = .ok v w) (h : ResP P S a w rs l) : ResP P S a w (rv :: rs) ((rv, u, some d) :: l)
  | own {rv : ResultVar} {u : T} {rs : List ResultVar} {l : List (ResultVar × T × Option Dat)} (h : ResP P S a w rs l) : ResP P S a w (rv :: rs) ((rv, u, none) :: l)

theorem resO1_inv {α : Type} {r : α × List A × FP} (hb : Base P E c) : ∀ (rs : List ResultVar) (rts : List TypeId) (us : List T) (k : List (ResultVar × T × Option Dat) → Cmd α) (st : List A) (fp : FP) (S : Hp) (ob : Nat → List Nat), exec E (resO1 E rs rts us k) st fp = some r → SimD c st a w S ob →
    ∃ l st' fp' S' ob', exec E (k l) st' fp' = some r ∧ SimD c st' a w S' ob' ∧ Sub S S' ∧ ResP P S' a w rs l ∧ st'.length = st.length
  | [], rts, [], k, st, fp, S, ob, h, hs => ⟨[], st, fp, S, ob, by cases rts <;> exact h, hs, Sub.refl _, .nil, rfl⟩
  | [], rts, u :: us, k, st, fp, S, ob, h, hs => by cases rts <;> exact (exec_fail h).elim
  | rv :: rs, [], us, k, st, fp, S, ob, h, hs => by cases us <;> exact (exec_fail h).elim
  | rv :: rs, rt :: rts, [], k, st, fp, S, ob, h, hs => (exec_fail h).elim
  | rv :: rs, rt :: rts, u :: us, k, st, fp, S, ob, h, hs => by
    simp only [resO1] at h
    split at h
    · obtain ⟨d, v, st1, fp1, S1, ob1, h1, hs1, hS, hv, hrun, hl⟩ := resK1_inv h hb hs
      obtain ⟨l, st2, fp2, S2, ob2, h2, hs2, hS2, hp, hl2⟩ := resO1_inv hb rs rts us _ st1 fp1 S1 ob1 h1 hs1
      exact ⟨_, st2, fp2, S2, ob2, h2, hs2, hS.trans hS2, .dat (hv.mono hS2) hrun hp, by omega⟩
    · obtain ⟨l, st2, fp2, S2, ob2, h2, hs2, hS2, hp, hl2⟩ := resO1_inv hb rs rts us _ st fp S ob h hs
      exact ⟨_, st2, fp2, S2, ob2, h2, hs2, hS2, .own hp, hl2⟩

theorem resO2_inv {α : Type} {r : α × List A × FP} (hb : Base P E c) (hs : SimD c st a w S ob) {rs : List ResultVar} {l1 : List (ResultVar × T × Option Dat)} (hq : ResP P S a w rs l1) : ∀ (used : List Nat) (k : List Dat → Cmd α) (fp : FP), exec E (resO2 E l1 used k) st fp = some r →
    ∃ l vs o fp', exec E (k l) st fp' = some r ∧ OTup (hp w) S l vs o ∧ (rs.mapM (resSem a.tmps)).run P w = .ok vs w ∧ vs.length = rs.length ∧ o.Nodup ∧ ∀ b ∈ o, ∃ t, t ∉ E.lent ∧ t ∉ used ∧ b ∈ ob t := by
  induction hq with
  | nil => intro used k fp h; exact ⟨[], [], [], fp, h, ⟨rfl, rfl⟩, by simp, rfl, .nil, fun b hb => by cases hb⟩
  | @dat rv u d v rs l1 hv hr hp ih =>
    intro used k fp h
    simp only [resO2] at h
    obtain ⟨l, vs, o, fp', h1, h2, h3, h3l, h4, h5⟩ := ih used _ fp h
    refine ⟨_, v :: vs, o, fp', h1, ⟨v, vs, [], o, rfl, rfl, VRO.of_vr hv, h2⟩, ?_, by simp [h3l], h4, h5⟩
    simp only [List.mapM_cons, Sem.run_bind, hr, Result.andThen_ok, h3, Sem.run_pure]
  | @own rv u rs l1 hp ih =>
    intro used k fp h
    have fin : ∀ {t : Nat} {z : u.den} {v : Value} {o1 : List Nat} {fp1 : FP}, t ∉ E.lent → t ∉ used → VRO (Lift.hp w) S u z v o1 → (∀ b ∈ o1, b ∈ ob t) → o1.Nodup → (resSem a.tmps rv).run P w = .ok v w → exec E (resO2 E l1 (t :: used) fun l => k (⟨u, z⟩ :: l)) st fp1 = some r →
        ∃ l vs o fp', exec E (k l) st fp' = some r ∧ OTup (Lift.hp w) S l vs o ∧ ((rv :: rs).mapM (resSem a.tmps)).run P w = .ok vs w ∧ vs.length = (rv :: rs).length ∧ o.Nodup ∧ ∀ b ∈ o, ∃ t, t ∉ E.lent ∧ t ∉ used ∧ b ∈ ob t := by
      intro t z v o1 fp1 hl hu hv ho hn hr h1
      obtain ⟨l, vs, o, fp', h1, h2, h3, h3l, h4, h5⟩ := ih (t :: used) _ fp1 h1
      refine ⟨_, v :: vs, o1 ++ o, fp', h1, ⟨v, vs, o1, o, rfl, rfl, hv, h2⟩, ?_, by simp [h3l], List.nodup_append.2 ⟨hn, h4, fun x hx y hy e => ?_⟩, fun b hb' => ?_⟩
      · simp only [List.mapM_cons, Sem.run_bind, hr, Result.andThen_ok, h3, Sem.run_pure]
      · subst e
        obtain ⟨t', _, hu', hb'⟩ := h5 x hy
        exact hu' (by rw [hs.inj t' t x hb' (ho x hx)]; simp)
      · rcases List.mem_append.1 hb' with hb' | hb'
        · exact ⟨t, hl, hu, ho b hb'⟩
        · obtain ⟨t', h6, h7, h8⟩ := h5 b hb'
          exact ⟨t', h6, fun h9 => h7 (by simp [h9]), h8⟩
    simp only [resO2] at h
    split at h
    · rename_i t
      split at h
      · exact (exec_fail h).elim
      · rename_i hck
        simp only [Bool.or_eq_false_iff] at hck
        obtain ⟨fp1, h1⟩ := exec_get h
        split at h1
        · rename_i z hz
          have hne : st.getD t .dead ≠ .dead := fun e => by rw [e] at hz; simp [ownAt] at hz
          have hrel := hs.rel t _ (getD_at rfl hne)
          exact fin (by simpa using hck.1) (by simpa using hck.2) (ownAt_vro hrel hz) (fun b hb' => hb') (hs.nd t) rfl h1
        · exact (exec_fail h1).elim
    · rename_i t ty
      split at h
      · exact (exec_fail h).elim
      · rename_i hck
        simp only [Bool.or_eq_false_iff] at hck
        obtain ⟨e, he, h1⟩ := tyK_inv h
        obtain ⟨fp1, h2⟩ := exec_get h1
        split at h2
        · rename_i t' x hy
          split at h2
          · rename_i z hck2 hz
            obtain ⟨hsim, hck2⟩ := and'_true hck2
            obtain ⟨hag, hns⟩ := and'_true hck2
            obtain ⟨e1, e2⟩ := cast_some hz
            subst e1; subst e2
            obtain ⟨b, cs, E', fr, bs, hob, hv, hcs, hfr, hrd⟩ := hs.rel t _ (getD_at hy (by simp))
            have hnd := hs.nd t
            rw [hob] at hnd
            have hage : e.t.isAgg = true := by rw [← simT_agg hsim]; exact hag
            have hrun : (resSem a.tmps (.cell t ty)).run P w = .ok (.agg cs) w := by
              have hv' : a.tmps.getD t undef = .pointer (some ⟨b, 0, none⟩) := hv
              have hlen : cs.toList.length = e.size := by rw [hrd.length, simT_size hsim, (hb.tyOk he).size]
              have hl := run_loadCells_lies (P := P) (w := w) (b := b) (off := 0) (c1 := cs.toList) ⟨cs, E', fr, [], [], hcs, by simp, rfl⟩
              rw [hlen] at hl
              simp [resSem, hv', asAddr, loadVar, run_isAgg (hb.tyOk he), hage, run_sizeOf (hb.tyOk he), hl]
            exact fin (by simpa using hck.1) (by simpa using hck.2) (VRO.of_agg hag (RdO.move _ _ _ _ hns hrd)) (fun k hk => by rw [hob]; simp [hk]) (List.nodup_cons.1 hnd).2 hrun h2
          · exact (exec_fail h2).elim
        · exact (exec_fail h2).elim

/-- the results -/
theorem resCmd_inv {α : Type} {r : α × List A × FP} {fn : Func} {rts : List TypeId} {k : A → Cmd α} (h : exec E (resCmd E fn.results.toList rts k) st fp = some r) (hb : Base P E c) (hs : SimD c st a w S ob) :
    ∃ x v o st' fp' S' ob', exec E (k x) st' fp' = some r ∧ SimD c st' a w S' ob' ∧ Sub S S' ∧ (results fn a.tmps).run P w = .ok v w ∧ ARel (hp w) S' (tv a) x v o ∧ x.refs = [] ∧
      (∀ b ∈ o, ∃ t, t ∉ E.lent ∧ b ∈ ob' t) ∧ o.Nodup ∧ st'.length = st.length := by
  unfold resCmd at h
  split at h
  rotate_left
  · -- values that own what they have
    rename_i us hus
    obtain ⟨l1, st1, fp1, S1, ob1, h1, hs1, hS, hpp, hl1⟩ := resO1_inv hb _ _ _ _ _ _ _ _ h hs
    obtain ⟨l, vs, o, fp2, h2, hot, hrun, hlen, hnd, hown⟩ := resO2_inv hb hs1 hpp _ _ _ h1
    have hres : (results fn a.tmps).run P w = .ok (if h : vs.length = 1 then vs[0] else .tuple vs.toArray) w := by
      rw [results_eq, Array.mapM_eq_mapM_toList]
      simp only [Sem.run_bind, Sem.run_map, hrun, Result.andThen_ok, Sem.run_pure]
      simp
    have hown' : ∀ b ∈ o, ∃ t, t ∉ E.lent ∧ b ∈ ob1 t := fun b hb' => by obtain ⟨t, h3, _, h4⟩ := hown b hb'; exact ⟨t, h3, h4⟩
    split at h2
    · rename_i d
      split at h2
      · rename_i hov
        obtain ⟨v, vs', o1, o2, e1, e2, hvo, e3, e4⟩ := hot
        subst e3; subst e4; subst e1
        simp only [List.append_nil] at e2
        subst e2
        exact ⟨_, v, _, st1, fp2, S1, ob1, h2, hs1, hS, by simpa using hres, ⟨hov, hvo⟩, rfl, hown', hnd, hl1⟩
      · exact (exec_fail h2).elim
    · rename_i hne
      have hvl : vs.length ≠ 1 := by
        intro hvl
        have : ∀ {l : List Dat} {vs : List Value} {o : List Nat}, OTup (hp w) S1 l vs o → vs.length = l.length := by
          intro l
          induction l with
          | nil => rintro vs o ⟨rfl, _⟩; rfl
          | cons d l ih => rintro vs o ⟨_, vs', _, _, rfl, _, _, h3⟩; simp [ih h3]
        have h3 := this hot
        rw [hvl] at h3
        obtain ⟨d, rfl⟩ := List.length_eq_one_iff.1 h3.symm
        exact hne d rfl
      rw [dif_neg hvl] at hres
      exact ⟨_, .tuple vs.toArray, o, st1, fp2, S1, ob1, h2, hs1, hS, hres, ⟨_, rfl, by simpa using hot⟩, rfl, hown', hnd, hl1⟩
  split at h
  · rename_i rv hrv
    split at h
    · rename_i rt
      have plain : ∀ {st1 : List A} {fp1 : FP}, SimD c st1 a w S ob → st1.length = st.length → exec E (resK1 E rv rt fun d => k (.v d.1 d.2)) st1 fp1 = some r →
          ∃ x v o st' fp' S' ob', exec E (k x) st' fp' = some r ∧ SimD c st' a w S' ob' ∧ Sub S S' ∧ (results fn a.tmps).run P w = .ok v w ∧ ARel (hp w) S' (tv a) x v o ∧ x.refs = [] ∧
            (∀ b ∈ o, ∃ t, t ∉ E.lent ∧ b ∈ ob' t) ∧ o.Nodup ∧ st'.length = st.length := by
        intro st1 fp1 hs1 hl1 h1
        obtain ⟨d, v, st2, fp2, S2, ob2, h2, hs2, hS, hv, hrun, hl⟩ := resK1_inv h1 hb hs1
        exact ⟨_, v, [], st2, fp2, S2, ob2, h2, hs2, hS, results_one hrv hrun, ⟨hv, rfl⟩, rfl, (fun b e => by cases e), .nil, by omega⟩
      unfold resOne at h
      split at h
      · rename_i t
        obtain ⟨fp1, h1⟩ := exec_get h
        clear h
        have hrun : (resSem a.tmps (.tmp t)).run P w = .ok (tv a t) w := rfl
        split at h1
        · rename_i u xs hy
          split at h1
          · split at h1
            · exact (exec_fail h1).elim
            · rename_i hl
              exact ⟨_, tv a t, ob t, st, fp1, S, ob, h1, hs, Sub.refl _, results_one hrv hrun, hs.row_at hy, rfl, fun b e => ⟨t, by simpa using hl, e⟩, hs.nd t, rfl⟩
          · exact plain hs rfl h1
        · rename_i u x hy
          split at h1
          · exact (exec_fail h1).elim
          · rename_i hl
            exact ⟨_, tv a t, ob t, st, fp1, S, ob, h1, hs, Sub.refl _, results_one hrv hrun, hs.rel t _ (getD_at hy (by simp)), rfl, fun b e => ⟨t, by simpa using hl, e⟩, hs.nd t, rfl⟩
        · rename_i f rs hy
          have hA := hs.rel t _ (getD_at hy (by simp))
          have hno := hA.nil_of_not_own rfl
          rw [hno] at hA
          obtain ⟨d, st2, fp2, S2, ob2, h2, hs2, hS, hv, hl⟩ := datK_inv h1 hs hA
          exact ⟨_, tv a t, [], st2, fp2, S2, ob2, h2, hs2, hS, results_one hrv hrun, ⟨hv, rfl⟩, rfl, (fun b e => by cases e), .nil, hl⟩
        · rename_i f u x hy
          have hA := hs.rel t _ (getD_at hy (by simp))
          exact ⟨_, tv a t, [], st, fp1, S, ob, h1, hs, Sub.refl _, results_one hrv hrun, ⟨hA.1, rfl⟩, rfl, (fun b e => by cases e), .nil, rfl⟩
        · exact plain hs rfl h1
      · exact plain hs rfl h
    · exact (exec_fail h).elim
  · rename_i rs hne
    obtain ⟨l, vs, st1, fp1, S1, ob1, h1, hs1, hS, ht, hrun, hl⟩ := resKs_inv hb _ _ _ _ _ _ _ h hs
    refine ⟨_, .tuple vs.toArray, [], st1, fp1, S1, ob1, h1, hs1, hS, ?_, ⟨rfl, vs.toArray, rfl, by simpa using ht⟩, rfl, (fun b e => by cases e), .nil, hl⟩
    rw [results_eq, Array.mapM_eq_mapM_toList]
    simp only [Sem.run_bind, Sem.run_map, hrun, Result.andThen_ok, Sem.run_pure]
    have hlen : vs.length = fn.results.toList.length := by
      clear h h1 ht hs1 hne
      generalize fn.results.toList = rs at hrun
      induction rs generalizing vs with
      | nil => simp at hrun; subst hrun; rfl
      | cons x rs ih =>
        simp only [List.mapM_cons, Sem.run_bind] at hrun
        cases hx : (resSem a.tmps x).run P w with
        | halt q w1 => rw [hx] at hrun; simp at hrun
        | ok v w1 =>
          rw [hx] at hrun
          simp only [Result.andThen_ok] at hrun
          have hw1 : (List.mapM (resSem a.tmps) rs).run P w1 = (List.mapM (resSem a.tmps) rs).run P w1 := rfl
          cases hm : (List.mapM (resSem a.tmps) rs).run P w1 with
          | halt q w2 => rw [hm] at hrun; simp at hrun
          | ok us w2 =>
            rw [hm] at hrun
            simp only [Result.andThen_ok, Sem.run_pure, Result.ok.injEq] at hrun
            have : ∀ (rs : List ResultVar) (w1 w2 : World) (us : List Value), (List.mapM (resSem a.tmps) rs).run P w1 = .ok us w2 → us.length = rs.length := by
              intro rs
              induction rs with
              | nil => intro w1 w2 us h; simp at h; rw [h.1]; rfl
              | cons y rs ih2 =>
                intro w1 w2 us h
                simp only [List.mapM_cons, Sem.run_bind] at h
                cases hy : (resSem a.tmps y).run P w1 with
                | halt q w3 => rw [hy] at h; simp at h
                | ok v' w3 =>
                  rw [hy] at h
                  simp only [Result.andThen_ok] at h
                  cases hm' : (List.mapM (resSem a.tmps) rs).run P w3 with
                  | halt q w4 => rw [hm'] at h; simp at h
                  | ok us' w4 =>
                    rw [hm'] at h
                    simp only [Result.andThen_ok, Sem.run_pure, Result.ok.injEq] at h
                    rw [← h.1, List.length_cons, ih2 _ _ _ hm', List.length_cons]
            rw [← hrun.1, List.length_cons, this _ _ _ _ hm, List.length_cons]
    have h1' : ¬ vs.toArray.size = 1 := by
      rw [List.size_toArray, hlen]
      intro h1
      obtain ⟨x, hx⟩ := List.length_eq_one_iff.1 h1
      exact hne x hx
    rw [dif_neg h1']

theorem outsK_inv {α : Type} {r : α × List A × FP} : ∀ (n i : Nat) (k : List A → Cmd α) (fp : FP), exec E (outsK E n i k) st fp = some r →
    ∃ l fp', exec E (k l) st fp' = some r ∧ l.length = n ∧ ∀ j, j < n → (i + j ∈ E.lent → ∃ t x, st[i + j]? = some (.box t x) ∧ l[j]? = some (.box t x))
  | 0, i, k, fp, h => ⟨[], fp, h, rfl, fun j hj => by omega⟩
  | n + 1, i, k, fp, h => by
    simp only [outsK] at h
    split at h
    · rename_i hc
      obtain ⟨fp1, h1⟩ := exec_get h
      split at h1
      · rename_i t x hy
        obtain ⟨l, fp2, h2, hl, hall⟩ := outsK_inv n (i + 1) _ _ h1
        refine ⟨_, fp2, h2, by simp [hl], fun j hj hm => ?_⟩
        cases j with
        | zero => exact ⟨t, x, getD_at hy (by simp), rfl⟩
        | succ j =>
          obtain ⟨t', x', h3, h4⟩ := hall j (by omega) (by rw [show i + 1 + j = i + (j + 1) by omega]; exact hm)
          exact ⟨t', x', by rw [show i + (j + 1) = i + 1 + j by omega]; exact h3, by simpa using h4⟩
      · exact (exec_fail h1).elim
    · rename_i hc
      obtain ⟨l, fp2, h2, hl, hall⟩ := outsK_inv n (i + 1) _ _ h
      refine ⟨_, fp2, h2, by simp [hl], fun j hj hm => ?_⟩
      cases j with
      | zero => exact absurd hm (by simpa using hc)
      | succ j =>
        obtain ⟨t', x', h3, h4⟩ := hall j (by omega) (by rw [show i + 1 + j = i + (j + 1) by omega]; exact hm)
        exact ⟨t', x', by rw [show i + (j + 1) = i + 1 + j by omega]; exact h3, by simpa using h4⟩

theorem argsOk_spec {lent : List Nat} : ∀ {i : Nat} {l : List A}, argsOk lent i l = true → ∀ (j : Nat) (x : A), l[j]? = some x → argOk lent (i + j) x = true
  | _, [], _, j, x, hj => by simp at hj
  | i, y :: l, h, j, x, hj => by
    obtain ⟨h1, h2⟩ := and'_true h
    cases j with
    | zero => simp at hj; subst hj; exact h1
    | succ j =>
      have := argsOk_spec h2 j x (by simpa using hj)
      rw [show i + 1 + j = i + (j + 1) by omega] at this
      exact this

theorem argOk_lent {lent : List Nat} {i : Nat} {x : A} (h : argOk lent i x = true) : (i ∈ lent ↔ isBoxA x = true) ∧ x.refs = [] := by
  cases x <;> simp_all [argOk, isBoxA, A.refs]

theorem undefs_at : ∀ (n j : Nat), (undefs n)[j]? = if j < n then some (.tup []) else none
  | 0, j => by simp [undefs]
  | n + 1, 0 => by simp [undefs]
  | n + 1, j + 1 => by simp [undefs, undefs_at n j]

theorem undefs_length : ∀ n, (undefs n).length = n
  | 0 => rfl
  | n + 1 => by simp [undefs, undefs_length n]

theorem lentOk_spec {n : Nat} : ∀ {l : List Nat}, lentOk n l = true → ∀ i ∈ l, i < n
  | [], _, i, hi => by cases hi
  | f :: l, h, i, hi => by
    obtain ⟨h1, h2⟩ := and'_true h
    rcases List.mem_cons.1 hi with rfl | hi
    · simpa using h1
    · exact lentOk_spec h2 i hi

/-! ## the end of a function -/

/-- the first mark is come to -/
theorem SimD.unmark {D : Nat} {ds : List Deferred} (h : SimD c st a w S ob) (hd : a.defers = markOf D :: ds) : hp w D = some (.deferred (some [])) ∧ SimD c st { a with defers := ds } (w.putObj D (.deferred none)) S ob := by
  obtain ⟨Ds, e, hnd, hDs⟩ := h.defers
  rw [hd] at e
  cases Ds with
  | nil => cases e
  | cons D' Ds =>
    have e1 : D = D' := by have := (List.cons.inj e).1; simpa [markOf] using this
    subst e1
    obtain ⟨k1, k2, k3, k4⟩ := hDs D (by simp)
    obtain ⟨hnm, hnd'⟩ := List.nodup_cons.1 hnd
    have hne : ∀ {i b}, b ∈ ob i → b ≠ D := fun hb e => k3 _ (by rw [← e]; exact hb)
    have hw : ∀ b, b ≠ D → hp (w.putObj D (.deferred none)) b = hp w b := fun b hb => World.putObj_heap_other hb
    refine ⟨k1, ⟨Ds, (List.cons.inj e).2, hnd', fun B hB => ?_⟩, h.size, fun i x hx => ?_, h.refs, h.out, h.inj, h.nd, h.hid, fun b o hb => ?_, h.mono, h.fresh, h.newS, h.lent, h.frame.putObj k4 _⟩
    · obtain ⟨g1, g2, g3, g4⟩ := hDs B (by simp [hB])
      exact ⟨by rw [hw B (fun e => hnm (by rw [← e]; exact hB))]; exact g1, g2, g3, g4⟩
    · exact (h.rel i x hx).mono (Sub.refl _) (fun b hb => hw b (hne hb)) (fun _ _ => rfl) (fun r hr b hb => hw b (hne (h.main hx (A.cell_refs hr) hb)))
    · rw [hw b (fun e => by subst e; rw [k2] at hb; cases hb)]
      exact h.sub b o hb

theorem leaves_marks {fn : Func} {R : Ending → World → Prop} {tmps : Array Value} : ∀ (ds : List Deferred) (a : Act) (w : World), a.defers = ds → a.tmps = tmps → SimD c st a w S ob →
    (∀ a' w', a'.tmps = tmps → SimD c st a' w' S ob → ∃ v, (results fn tmps).run P w' = .ok v w' ∧ R (.returned v) w') → LeavesInM Fence.wide 0 P fn tmps R ds .returning w
  | [], a, w, hd, ht, hs, hR => hR a w ht hs
  | d :: ds, a, w, hd, ht, hs, hR => by
    obtain ⟨Ds, e, _⟩ := hs.defers
    rw [hd] at e
    cases Ds with
    | nil => cases e
    | cons D Ds =>
      have e1 := (List.cons.inj e).1
      subst e1
      obtain ⟨k1, hs'⟩ := hs.unmark hd
      exact ⟨by simp, .inl ⟨D, _, rfl, run_takeDeferred k1, leaves_marks ds { a with defers := ds } _ rfl ht hs' hR⟩⟩

def fnCtx (E : Env) (w : World) (S : Hp) (vals : List Value) (ob : Nat → List Nat) : Ctx := ⟨w, S, fun b => ∃ i, b ∈ ob i, E.lent.map (fun i => (i, vals.getD i undef))⟩

theorem fnCtx_base (hE : EnvOk P E) (hg : GlobOk E.glob S) {vals : List Value} : Base P E (fnCtx E w S vals ob) := ⟨hE, hg, by simp [fnCtx, Function.comp_def]⟩

def startAct (fn : Func) (vals : List Value) : Act := { tmps := vals.toArray ++ Array.replicate (fn.ntmps - vals.toArray.size) undef, defers := [] }

theorem start_sim {fn : Func} {args : List A} {vals : List Value} (hntmps : args.length ≤ fn.ntmps) (har : ArgsRel (hp w) S args vals ob) (hS : Sub S (hp w)) :
    Sim (fnCtx E w S vals ob) (args ++ undefs (fn.ntmps - args.length)) (startAct fn vals) w := by
  have hlen := har.len
  have htv : ∀ i, tv (startAct fn vals) i = vals.getD i undef := by
    intro i
    simp only [tv, startAct, Array.getD_eq_getD_getElem?, List.getD_eq_getElem?_getD]
    by_cases hi : i < vals.length
    · rw [Array.getElem?_append_left (by simpa using hi)]; simp
    · rw [Array.getElem?_append_right (by simpa using hi), List.getElem?_eq_none (by omega)]
      rw [Array.getElem?_replicate]
      split <;> rfl
  refine ⟨S, ob, ⟨[], rfl, .nil, fun D hD => by cases hD⟩, by simp [startAct, undefs_length, hlen], ?_, ?_, ?_, har.inj, har.nd, har.hid, hS, Sub.refl _, fun i b e => .inl ⟨i, e⟩, fun b e => .inl e, ?_, WF.refl _ _⟩
  · intro i x hx
    rw [htv]
    by_cases hi : i < args.length
    · rw [List.getElem?_append_left hi] at hx
      obtain ⟨⟨v, hv, hrel⟩, href⟩ := har.rel i x hx
      rw [show vals.getD i undef = v by simp [List.getD, hv]]
      exact hrel.mono (Sub.refl _) (fun _ _ => rfl) (fun r hr => by rw [href] at hr; cases hr) (fun r hr => by have := A.cell_refs hr; rw [href] at this; cases this)
    · rw [List.getElem?_append_right (by omega), undefs_at] at hx
      split at hx
      · simp only [Option.some.injEq] at hx
        subst hx
        rw [har.out i (by omega), show vals.getD i undef = undef by simp [List.getD, List.getElem?_eq_none (by omega : vals.length ≤ i)]]
        exact ⟨rfl, #[], rfl, .nil⟩
      · cases hx
  · intro i x r hx hr
    by_cases hi : i < args.length
    · rw [List.getElem?_append_left hi] at hx
      rw [(har.rel i x hx).2] at hr; cases hr
    · rw [List.getElem?_append_right (by omega), undefs_at] at hx
      split at hx
      · simp only [Option.some.injEq] at hx
        subst hx; cases hr
      · cases hx
  · intro i hi
    exact har.out i (by simp at hi; omega)
  · intro p hp'
    obtain ⟨i, _, rfl⟩ := List.mem_map.1 hp'
    exact htv i

/-- HOW A FUNCTION ENDS -/
theorem ends_of_sim {fn : Func} {args : List A} {st1 st2 : List A} {fp1 : FP} {r : A} {outs : List A} {vals : List Value} {S1 : Hp} {ob1 : Nat → List Nat} {a' : Act} {w' : World} (hE : EnvOk P E)
    (hargs : argsOk E.lent 0 args = true) (har : ArgsRel (hp w) S args vals ob) (hg : GlobOk E.glob S)
    (hx : exec E (resCmd E fn.results.toList fn.resultTypes.toList fun x => outsK E args.length 0 fun l => (.ret (x, l) : Cmd (A × List A))) st1 fp0 = some ((r, outs), st2, fp1))
    (hs1 : SimD (fnCtx E w S vals ob) st1 a' w' S1 ob1) : ∃ v, (results fn a'.tmps).run P w' = .ok v w' ∧ Ends w S args vals ob r outs (.returned v) w' := by
  have haok := fun j x hj => argOk_lent (by simpa using argsOk_spec hargs j x hj)
  have hb : Base P E (fnCtx E w S vals ob) := fnCtx_base hE hg
  obtain ⟨x, v, o, st3, fp3, S3, ob3, h3, hs3, hS13, hres, hrel, href, hfresh, hond, hl3⟩ := resCmd_inv hx hb hs1
  obtain ⟨l, fp4, h4, hll, hlall⟩ := outsK_inv _ _ _ _ h3
  have h5 := exec_ret h4
  simp only [Prod.mk.injEq] at h5
  obtain ⟨⟨rfl, rfl⟩, _⟩ := h5
  have hmemL : ∀ i, i ∈ E.lent → tv a' i = vals.getD i undef := fun i hi => hs3.lent (i, vals.getD i undef) (List.mem_map.2 ⟨i, hi, rfl⟩)
  have hbox : ∀ i, i ∈ E.lent → i < args.length → ∃ x' : A, args[i]? = some x' ∧ isBoxA x' = true := fun i hi hia => ⟨_, List.getElem?_eq_getElem hia, ((haok i _ (List.getElem?_eq_getElem hia)).1).1 hi⟩
  -- what the lent boxes own now
  let ob' : Nat → List Nat := fun i => if i ∈ E.lent ∧ i < args.length then ob3 i else []
  have hsub : ∀ {i b}, b ∈ ob' i → i ∈ E.lent ∧ b ∈ ob3 i := by
    intro i b hb'
    simp only [ob'] at hb'
    split at hb'
    · rename_i hc; exact ⟨hc.1, hb'⟩
    · cases hb'
  refine ⟨v, hres, v, S3, o, ob', rfl, hs3.frame, hs3.mono, hs3.sub, hs3.newS, ⟨hrel.mono (Sub.refl _) (fun _ _ => rfl) (fun r hr => by rw [href] at hr; cases hr) (fun r hr => by have := A.cell_refs hr; rw [href] at this; cases this), href⟩, ?_, hond, ?_, ?_, ?_, ?_, ?_⟩
  · intro b hbo
    obtain ⟨t, htl, hot⟩ := hfresh b hbo
    exact ⟨hs3.hid _ _ hot, hs3.fresh _ _ hot⟩
  · intro i x' hx' hbx
    have hia : i < args.length := by
      rcases Nat.lt_or_ge i args.length with h | h
      · exact h
      · simp [List.getElem?_eq_none h] at hx'
    have hmem : i ∈ E.lent := ((haok i _ hx').1).2 hbx
    obtain ⟨t, y', h6, h7⟩ := hlall i hia (by simpa using hmem)
    rw [Nat.zero_add] at h6
    obtain ⟨⟨v', hv', hrel'⟩, _⟩ := har.rel i _ hx'
    have htvi : tv a' i = v' := by rw [hmemL i hmem]; simp [List.getD, hv']
    refine ⟨_, v', h7, hv', rfl, ?_⟩
    have hr6 := hs3.rel i _ h6
    rw [htvi] at hr6
    have e : ob' i = ob3 i := by simp only [ob']; rw [if_pos ⟨hmem, hia⟩]
    rw [e]
    exact hr6.mono (Sub.refl _) (fun _ _ => rfl) (fun r hr => by cases hr)
  · intro i b hi
    obtain ⟨hil, hi3⟩ := hsub hi
    refine ⟨hs3.fresh _ _ hi3, hs3.hid _ _ hi3, fun hbo => ?_⟩
    obtain ⟨t, htl, hot⟩ := hfresh b hbo
    have := hs3.inj _ _ _ hot hi3
    subst this
    exact htl hil
  · exact fun i j b hi hj => hs3.inj i j b (hsub hi).2 (hsub hj).2
  · intro i
    simp only [ob']
    split
    · exact hs3.nd i
    · exact .nil
  · intro i hi
    simp only [ob']
    rw [if_neg]
    rintro ⟨hil, hia⟩
    obtain ⟨x', hx', hbx⟩ := hbox i hil hia
    obtain ⟨⟨v', hv', hrel'⟩, _⟩ := har.rel i _ hx'
    cases x' <;> simp [isBoxA] at hbx
    obtain ⟨b, cs, E', fr, bs, e1, _⟩ := hrel'
    rw [hi] at e1; cases e1

theorem fun_end {f : FuncId} {fn : Func} {body : Code} {args : List A} {e : Ex} {st1 st2 : List A} {fp1 : FP} {r : A} {outs : List A} {vals : List Value} (hE : EnvOk P E) (hf : P.funcs[f]? = some fn) (hbody : fn.body = some body)
    (hargs : argsOk E.lent 0 args = true) (hntmps : args.length ≤ fn.ntmps) (har : ArgsRel (hp w) S args vals ob) (hS : Sub S (hp w)) (hg : GlobOk E.glob S)
    (hwp : ∀ (Q : Exit → Act → World → Prop) (a : Act) (w1 : World), Sim (fnCtx E w S vals ob) (args ++ undefs (fn.ntmps - args.length)) a w1 → (∀ a' w', Sim (fnCtx E w S vals ob) st1 a' w' → Q e.exit' a' w') → body.wp P Q a w1)
    (hee : e = .normal ∨ e = .ret)
    (hx : exec E (resCmd E fn.results.toList fn.resultTypes.toList fun x => outsK E args.length 0 fun l => (.ret (x, l) : Cmd (A × List A))) st1 fp0 = some ((r, outs), st2, fp1)) :
    Calls P f vals.toArray w fun e w' => Ends w S args vals ob r outs e w' := by
  have hs0 := start_sim (E := E) (fn := fn) hntmps har hS
  refine callsIn_wide.1 (callsIn_of_wp_marks (n := 0) hf hbody trivial (wpIn_wide.2 (hwp _ _ _ hs0 ?_)))
  rintro a1 w1 ⟨S1, ob1, hs1⟩
  have key : LeavesInM Fence.wide 0 P fn a1.tmps (fun e w' => Ends w S args vals ob r outs e w') a1.defers .returning w1 := by
    refine leaves_marks a1.defers a1 w1 rfl rfl hs1 ?_
    intro a' w' hta hs1
    rw [← hta]
    exact ends_of_sim hE hargs har hg hx hs1
  rcases hee with rfl | rfl <;> exact key

/-! ## a function that is called as a deferred one -/

theorem going_marks {fn : Func} {R : Ending → World → Prop} {tmps : Array Value} : ∀ (ds : List Deferred) (a : Act) (w : World) (fr : Frame) (cs : List Frame), a.defers = ds → a.tmps = tmps → SimD c st a w S ob → fr.mode = .returning → fr.defers = ds → fr.tmps = tmps → P.funcs[fr.fn]? = some fn →
    (∀ a' w', a'.tmps = tmps → SimD c st a' w' S ob → ∃ v, (results fn tmps).run P w' = .ok v w' ∧ R (.returned v) w') →
    ∃ v w' fr', R (.returned v) w' ∧ Steps P (lone fr cs w) (lone fr' cs w') ∧ fr'.kind = fr.kind ∧ fr'.going P w' (.returned v)
  | [], a, w, fr, cs, hd, ht, hs, hm, hfd, hft, hf, hR => by
    obtain ⟨v, hr, hv⟩ := hR a w ht hs
    exact ⟨v, w, fr, hv, Steps.refl P _, rfl, hm, hfd, fn, hf, by rw [hft]; exact hr⟩
  | d :: ds, a, w, fr, cs, hd, ht, hs, hm, hfd, hft, hf, hR => by
    obtain ⟨Ds, e, _⟩ := hs.defers
    rw [hd] at e
    cases Ds with
    | nil => cases e
    | cons D Ds =>
      have e1 := (List.cons.inj e).1
      subst e1
      obtain ⟨k1, hs'⟩ := hs.unmark hd
      have h1 := step_collected (P := P) (cs := cs) (fr := fr) (by rw [hm]; simp) hfd rfl (run_takeDeferred k1)
      obtain ⟨v, w2, fr2, g1, g2, g3, g4⟩ := going_marks ds { a with defers := ds } _ { fr with defers := [] ++ ds } cs rfl ht hs' hm rfl hft hf hR
      exact ⟨v, w2, fr2, g1, .head h1 g2, g3, g4⟩

theorem fun_endD {f : FuncId} {fn : Func} {body : Code} {args : List A} {e : Ex} {st1 st2 : List A} {fp1 : FP} {r : A} {outs : List A} {vals : List Value} (hE : EnvOk P E) (hf : P.funcs[f]? = some fn) (hbody : fn.body = some body)
    (hargs : argsOk E.lent 0 args = true) (hntmps : args.length ≤ fn.ntmps) (har : ArgsRel (hp w) S args vals ob) (hS : Sub S (hp w)) (hg : GlobOk E.glob S)
    (hwp : ∀ (Q : Exit → Act → World → Prop) (a : Act) (w1 : World), Sim (fnCtx E w S vals ob) (args ++ undefs (fn.ntmps - args.length)) a w1 → (∀ a' w', Sim (fnCtx E w S vals ob) st1 a' w' → Q e.exit' a' w') → body.wp P Q a w1)
    (hee : e = .normal ∨ e = .ret)
    (hx : exec E (resCmd E fn.results.toList fn.resultTypes.toList fun x => outsK E args.length 0 fun l => (.ret (x, l) : Cmd (A × List A))) st1 fp0 = some ((r, outs), st2, fp1)) :
    CallsD P f vals.toArray .returning w fun e u' w' => u' = .returning ∧ Ends w S args vals ob r outs e w' := by
  have hs0 := start_sim (E := E) (fn := fn) hntmps har hS
  intro c₀ cs hu
  let b : Frame := { (default : Frame) with fn := f, kind := .deferred }
  have henter : Frame.enter P f vals.toArray .deferred = b.at (startAct fn vals) [.code body] := by
    simp [Frame.enter, Frame.at, hf, hbody, b, startAct]
  have hc : ({ c₀ with mode := .returning } : Frame) = c₀ := by rw [← hu]
  obtain ⟨e', a', w', hq, harr⟩ := hwp (fun ex a1 w1 => ex = e.exit' ∧ Sim (fnCtx E w S vals ob) st1 a1 w1) _ _ hs0 (fun a' w' h => ⟨rfl, h⟩) b [] (c₀ :: cs)
  rw [← henter] at harr
  obtain ⟨rfl, S1, ob1, hs1⟩ := hq
  rcases hee with rfl | rfl
  · obtain ⟨v, w2, fr2, g1, g2, g3, g4⟩ := going_marks (fn := fn) (R := fun e w' => Ends w S args vals ob r outs e w') a'.defers a' w' { b.at a' [] with mode := .returning } (c₀ :: cs) rfl rfl hs1 rfl rfl rfl hf (fun a2 w2 h2 hs2 => by rw [← h2]; exact ends_of_sim hE hargs har hg hx hs2)
    exact ⟨.returned v, .returning, w2, fr2, ⟨rfl, g1⟩, (by rw [hc]; exact Steps.trans (Steps.trans harr (.one step_end)) g2), g3, g4⟩
  · obtain ⟨todo, hs₀⟩ := harr
    obtain ⟨v, w2, fr2, g1, g2, g3, g4⟩ := going_marks (fn := fn) (R := fun e w' => Ends w S args vals ob r outs e w') a'.defers a' w' { b.at a' todo with mode := .returning } (c₀ :: cs) rfl rfl hs1 rfl rfl rfl hf (fun a2 w2 h2 hs2 => by rw [← h2]; exact ends_of_sim hE hargs har hg hx hs2)
    exact ⟨.returned v, .returning, w2, fr2, ⟨rfl, g1⟩, (by rw [hc]; exact Steps.trans hs₀ g2), g3, g4⟩
end
end Go.Lift

/- Functions in pieces: parts of a body are replaced by plain functions of what the temporaries hold; and the contract that follows. -/
set_option linter.all false
namespace Go.Lift

/-! ## shapes of states -/

inductive AS where
  | v (t : T) | row (t : T) | box (t : T) | nilsl | tup (ts : List T) | iter | nilp | fnc (f : Nat) | yld | ov (t : T) | otup (ts : List T) | clo (f : Nat) (rs : List Nat)
  deriving DecidableEq

@[reducible] def AS.den : AS → Type
  | .v t => t.den
  | .row t => List t.den
  | .box t => t.den
  | .nilsl => Unit
  | .tup ts => denL ts
  | .iter => List UInt8 × Nat
  | .nilp => Unit
  | .fnc _ => Unit
  | .yld => Unit
  | .ov t => t.den
  | .otup ts => denL ts
  | .clo _ _ => Unit

def AS.mk : (s : AS) → s.den → A
  | .v t, x => .v t x
  | .row t, x => .row t x
  | .box t, x => .box t x
  | .nilsl, _ => .nilsl
  | .tup ts, x => .tup (mkL ts x)
  | .iter, x => .iter x.1 x.2
  | .nilp, _ => .v .opq (.pointer none)
  | .fnc f, _ => .v .opq (.func (.func f) #[] #[])
  | .yld, _ => .yld
  | .ov t, x => .ov t x
  | .otup ts, x => .otup (mkL ts x)
  | .clo f rs, _ => .clo f rs

def unL : (ts : List T) → List Dat → Option (denL ts)
  | [], [] => some ()
  | t :: ts, d :: l => match cast d.1 t d.2 with
    | some x => (match unL ts l with
      | some y => some (x, y)
      | none => none)
    | none => none
  | _, _ => none

def eqNats : List Nat → List Nat → Bool
  | [], [] => true
  | x :: l, y :: m => and' (Nat.beq x y) (eqNats l m)
  | _, _ => false

theorem eqNats_eq : ∀ {l m : List Nat}, eqNats l m = true → l = m
  | [], [], _ => rfl
  | x :: l, y :: m, h => by rw [Nat.eq_of_beq_eq_true (and'_true h).1, eqNats_eq (and'_true h).2]
  | [], _ :: _, h => by simp [eqNats] at h
  | _ :: _, [], h => by simp [eqNats] at h

def AS.un : (s : AS) → A → Option s.den
  | .v t, .v u x => cast u t x
  | .row t, .row u x => cast (.sl u) (.sl t) x
  | .box t, .box u x => cast u t x
  | .nilsl, .nilsl => some ()
  | .tup ts, .tup l => unL ts l
  | .iter, .iter s p => some (s, p)
  | .yld, .yld => some ()
  | .ov t, .ov u x => cast u t x
  | .otup ts, .otup l => unL ts l
  | .clo f rs, .clo g rs' => (match and' (Nat.beq f g) (eqNats rs rs') with
    | true => some ()
    | false => none)
  | .nilp, .v .opq x => (match x with
    | .pointer none => some ()
    | _ => none)
  | .fnc f, .v .opq x => (match x with
    | .func (.func g) a b => (match and' (Nat.beq f g) (and' a.isEmpty b.isEmpty) with
      | true => some ()
      | false => none)
    | _ => none)
  | _, _ => none

/-- a state: some dead, then something, again and again; at last some dead -/
@[reducible] def denS : List (Nat × AS) → Type
  | [] => Unit
  | p :: r => p.2.den × denS r

def deads (n : Nat) (l : List A) : List A := match n with
  | 0 => l
  | n + 1 => .dead :: deads n l

def mkS : (s : List (Nat × AS)) → Nat → denS s → List A
  | [], m, _ => deads m []
  | p :: r, m, x => deads p.1 (p.2.mk x.1 :: mkS r m x.2)

def unDeads {α : Type} (n : Nat) (l : List A) (k : List A → Option α) : Option α := match n with
  | 0 => k l
  | n + 1 => match l with
    | .dead :: l => unDeads n l k
    | _ => none

def unS : (s : List (Nat × AS)) → Nat → List A → Option (denS s)
  | [], m, l => unDeads m l fun l => match l with
    | [] => some ()
    | _ => none
  | p :: r, m, l => unDeads p.1 l fun l => match l with
    | a :: l => (match p.2.un a with
      | some x => (match unS r m l with
        | some y => some (x, y)
        | none => none)
      | none => none)
    | [] => none

theorem unL_mk : ∀ {ts : List T} {l : List Dat} {x : denL ts}, unL ts l = some x → l = mkL ts x
  | [], [], _, _ => rfl
  | t :: ts, d :: l, x, h => by
    simp only [unL] at h
    split at h
    · rename_i y hy
      split at h
      · rename_i z hz
        cases h
        obtain ⟨e, e'⟩ := cast_some hy
        obtain ⟨u, d⟩ := d
        dsimp only at e; subst e; dsimp only at e'; subst e'
        simp only [mkL]
        rw [← unL_mk hz]
      · cases h
    · cases h
  | [], _ :: _, _, h => by simp [unL] at h
  | _ :: _, [], _, h => by simp [unL] at h

theorem AS.un_nilp {a : A} (h : AS.un .nilp a = some ()) : a = .v .opq (.pointer none) := by
  cases a <;> try (simp [AS.un] at h; done)
  case v t x =>
    cases t <;> try (simp [AS.un] at h; done)
    simp only [AS.un] at h
    split at h
    · rfl
    · cases h

theorem AS.un_fnc {f : Nat} {a : A} (h : AS.un (.fnc f) a = some ()) : a = .v .opq (.func (.func f) #[] #[]) := by
  cases a <;> try (simp [AS.un] at h; done)
  case v t x =>
    cases t <;> try (simp [AS.un] at h; done)
    simp only [AS.un] at h
    split at h
    · rename_i g a b
      split at h
      · rename_i hc
        obtain ⟨h1, h2⟩ := and'_true hc
        obtain ⟨h2, h3⟩ := and'_true h2
        have h1 := Nat.eq_of_beq_eq_true h1
        have h2 : a = #[] := by simpa using h2
        have h3 : b = #[] := by simpa using h3
        subst h1; subst h2; subst h3; rfl
      · cases h
    · cases h

theorem AS.un_mk {s : AS} {a : A} {x : s.den} (h : s.un a = some x) : a = s.mk x := by
  by_cases hn : s = .nilp
  · subst hn; exact AS.un_nilp h
  by_cases hf : ∃ f, s = .fnc f
  · obtain ⟨f, rfl⟩ := hf; exact AS.un_fnc h
  cases s <;> cases a <;> simp only [AS.un, reduceCtorEq] at h
  case v.v t u y => obtain ⟨e, e'⟩ := cast_some h; subst e; dsimp only at e'; subst e'; rfl
  case row.row t u y => obtain ⟨e, e'⟩ := cast_some h; cases e; dsimp only at e'; subst e'; rfl
  case box.box t u y => obtain ⟨e, e'⟩ := cast_some h; subst e; dsimp only at e'; subst e'; rfl
  case nilsl.nilsl => rfl
  case tup.tup ts l => rw [unL_mk h]; rfl
  case iter.iter s p => cases h; rfl
  case yld.yld => rfl
  case ov.ov t u y => obtain ⟨e, e'⟩ := cast_some h; subst e; dsimp only at e'; subst e'; rfl
  case otup.otup ts l => rw [unL_mk h]; rfl
  case clo.clo f rs g rs' =>
    split at h
    · rename_i hc
      obtain ⟨h1, h2⟩ := and'_true hc
      rw [← Nat.eq_of_beq_eq_true h1, ← eqNats_eq h2]; rfl
    · cases h
  all_goals first
    | (exact absurd rfl hn)
    | (exact absurd ⟨_, rfl⟩ hf)

theorem unDeads_some {α : Type} {k : List A → Option α} {y : α} : ∀ {n : Nat} {l : List A}, unDeads n l k = some y → ∃ l', l = deads n l' ∧ k l' = some y
  | 0, l, h => ⟨l, rfl, h⟩
  | n + 1, l, h => by
    simp only [unDeads] at h
    split at h
    · obtain ⟨l', e, hk⟩ := unDeads_some h
      exact ⟨l', by simp only [deads]; rw [e], hk⟩
    · cases h

theorem unS_mk : ∀ {s : List (Nat × AS)} {m : Nat} {l : List A} {x : denS s}, unS s m l = some x → l = mkS s m x
  | [], m, l, x, h => by
    simp only [unS] at h
    obtain ⟨l', e, hk⟩ := unDeads_some h
    split at hk
    · rw [e]; rfl
    · cases hk
  | p :: r, m, l, x, h => by
    simp only [unS] at h
    obtain ⟨l', e, hk⟩ := unDeads_some h
    split at hk
    · rename_i a l2
      split at hk
      · rename_i y hy
        split at hk
        · rename_i z hz
          cases hk
          rw [e, AS.un_mk hy, unS_mk hz]; rfl
        · cases hk
      · cases hk
    · cases hk

/-! ## bodies in pieces -/

abbrev Hd (β : Type) := List A → (Ex → List A → Option β) → Option β
abbrev Tab (β : Type) := List (List Nat × Hd β)

def eqL : List Nat → List Nat → Bool
  | [], [] => true
  | a :: l, b :: m => (match Nat.beq a b with
    | true => eqL l m
    | false => false)
  | _, _ => false

def look {β : Type} : Tab β → List Nat → Option (Hd β)
  | [], _ => none
  | e :: r, p => match eqL e.1 p with
    | true => some e.2
    | false => look r p

def lookL : List (List Nat × List Nat) → List Nat → List Nat
  | [], _ => []
  | e :: r, p => match eqL e.1 p with
    | true => e.2
    | false => lookL r p

def lookO : List (List Nat × List Nat) → List Nat → Option (List Nat)
  | [], _ => none
  | e :: r, p => match eqL e.1 p with
    | true => some e.2
    | false => lookO r p

/-- what is not needed at place p is forgotten -/
def rs (L : List (List Nat × List Nat)) (p : List Nat) (st : List A) : List A := match lookO L p with
  | some l => restr l 0 st
  | none => st

def via {β : Type} (o : Option (Hd β)) (f : Hd β) : Hd β := match o with
  | some h => h
  | none => f

/-- behind the arms of a test -/
def joinK {β : Type} (L : List (List Nat × List Nat)) (p : List Nat) (K : Ex → List A → Option β) : Ex → List A → Option β := fun e st => match e with
  | .normal => K .normal (rs L p st)
  | e => K e st

def evN {β : Type} (E : Env) (N : Nat) (H : Tab β) (L : List (List Nat × List Nat)) (p : List Nat) : Code → List A → (Ex → List A → Option β) → Option β
  | .skip, st, K => K .normal (rs L p st)
  | .region _ ops draw, st, K => match draw with
    | false => seqC E ops ops.toList st fun st => K .normal (rs L p st)
    | true => drawC E ops ops.toList [] st fun st => K .normal (rs L p st)
  | .seq a b, st, K => via (look H (0 :: p)) (evN E N H L (0 :: p) a) st fun e st => match e with
    | .normal => via (look H (1 :: p)) (evN E N H L (1 :: p) b) st K
    | e => K e st
  | .cond x a b, st, K => (rdK E x fun v => (.ret v : Cmd A)).cps E st fp0 fun v _ _ => match v with
    | .v .bool t => cond t (via (look H (0 :: p)) (evN E N H L (0 :: p) a) st (joinK L p K)) (via (look H (1 :: p)) (evN E N H L (1 :: p) b) st (joinK L p K))
    | _ => none
  | .block id a, st, K => via (look H (0 :: p)) (evN E N H L (0 :: p) a) st fun e st => match e with
    | .normal => K .normal (rs L p st)
    | .exit j => (match Nat.beq j id with
      | true => K .normal (rs L p st)
      | false => K (.exit j) st)
    | .ret => K .ret st
  | .loop a, st, K => loopC (lookL L p) (via (look H (0 :: p)) (evN E N H L (0 :: p) a)) N (restr (lookL L p) 0 st) K
  | .rangeFunc g ps assign body, st, K => rfEv E N (lookL L p) g ps assign body st K
  | .exit id, st, K => K (.exit id) (rs L p st)
  | .ret, st, K => K .ret (rs L p st)
  | _, _, _ => none

def child (i : Nat) : Code → Code
  | .seq a b => (match i with
    | 0 => a
    | _ => b)
  | .cond _ a b => (match i with
    | 0 => a
    | _ => b)
  | .block _ a => a
  | .loop a => a
  | c => c

def nodeAt (body : Code) : List Nat → Code
  | [] => body
  | i :: p => child i (nodeAt body p)

def TabOk {β : Type} (P : Program) (c : Ctx) (body : Code) (H : Tab β) : Prop := ∀ q h, look H q = some h → CodeOk P c (nodeAt body q) h

section
variable {P : Program} {E : Env} {c : Ctx} {st st' : List A} {fp fp' : FP} {a : Act} {w w' : World} {S : Hp} {ob : Nat → List Nat}

theorem Sim.rs (h : Sim c st a w) (L : List (List Nat × List Nat)) (p : List Nat) : Sim c (Lift.rs L p st) a w := by
  unfold Lift.rs
  split
  · exact h.restr _
  · exact h

theorem eqL_eq : ∀ {l m : List Nat}, eqL l m = true → l = m
  | [], [], _ => rfl
  | a :: l, b :: m, h => by
    simp only [eqL] at h
    split at h
    · rename_i hab
      rw [Nat.eq_of_beq_eq_true hab, eqL_eq h]
    · cases h
  | [], _ :: _, h => by simp [eqL] at h
  | _ :: _, [], h => by simp [eqL] at h

theorem TabOk.nil {β : Type} {body : Code} : TabOk (β := β) P c body [] := fun q h e => by cases e

theorem TabOk.cons {β : Type} {body : Code} {q : List Nat} {k : Hd β} {H : Tab β} (h : CodeOk P c (nodeAt body q) k) (ht : TabOk P c body H) : TabOk P c body ((q, k) :: H) := by
  intro q' h' e
  simp only [look] at e
  split at e
  · rename_i hq
    cases e
    rw [← eqL_eq hq]; exact h
  · exact ht q' h' e

theorem via_ok {β : Type} {body k : Code} {H : Tab β} {q : List Nat} {f : Hd β} (hH : TabOk P c body H) (hq : nodeAt body q = k) (hf : CodeOk P c k f) : CodeOk P c k (via (look H q) f) := by
  cases hl : look H q with
  | none => exact hf
  | some h => rw [← hq]; exact hH q h hl

theorem evN_sound {β : Type} (hb : Base P E c) (N : Nat) (H : Tab β) (L : List (List Nat × List Nat)) (body : Code) (hH : TabOk P c body H) (p : List Nat) : ∀ (k : Code), nodeAt body p = k → CodeOk (β := β) P c k (evN E N H L p k) := by
  intro k
  induction k generalizing p with
  | skip => exact fun _ st K y h => ⟨.normal, _, h, fun Q a w hs hq => wp_skip (hq a w (hs.rs _ _))⟩
  | region id ops draw =>
    intro _ st K y h
    obtain ⟨e, st', hK, hw⟩ := (evC_sound (β := β) hb N (.region id ops draw)).ok st (fun e st => match e with
      | .normal => K .normal (rs L p st)
      | e => K e st) y h
    cases e with
    | normal => exact ⟨.normal, _, hK, fun Q a w hs hq => hw Q a w hs fun a' w' hs' => hq a' w' (hs'.rs _ _)⟩
    | exit id => exact ⟨.exit id, _, hK, fun Q a w hs hq => hw Q a w hs hq⟩
    | ret => exact ⟨.ret, _, hK, fun Q a w hs hq => hw Q a w hs hq⟩
  | seq x z ihx ihz =>
    intro hp st K y h
    have hx := via_ok hH (q := 0 :: p) (by simp only [nodeAt, hp, child]) (ihx (0 :: p) (by simp only [nodeAt, hp, child]))
    have hz := via_ok hH (q := 1 :: p) (by simp only [nodeAt, hp, child]) (ihz (1 :: p) (by simp only [nodeAt, hp, child]))
    simp only [evN] at h
    obtain ⟨e, st1, hK, hw⟩ := hx st _ y h
    cases e with
    | normal =>
      obtain ⟨e2, st2, hK2, hw2⟩ := hz st1 K y hK
      exact ⟨e2, st2, hK2, fun Q a w hs hq => wp_seq (hw _ a w hs fun a' w' hs' => hw2 Q a' w' hs' hq)⟩
    | exit id => exact ⟨.exit id, st1, hK, fun Q a w hs hq => wp_seq (hw _ a w hs fun a' w' hs' => hq a' w' hs')⟩
    | ret => exact ⟨.ret, st1, hK, fun Q a w hs hq => wp_seq (hw _ a w hs fun a' w' hs' => hq a' w' hs')⟩
  | cond x t e iht ihe =>
    intro hp st K y h
    have ht := via_ok hH (q := 0 :: p) (by simp only [nodeAt, hp, child]) (iht (0 :: p) (by simp only [nodeAt, hp, child]))
    have he := via_ok hH (q := 1 :: p) (by simp only [nodeAt, hp, child]) (ihe (1 :: p) (by simp only [nodeAt, hp, child]))
    simp only [evN] at h
    obtain ⟨v, st1, fp1, h1, h2⟩ := exec_of_cps h
    split at h2
    · rename_i b
      have hev : ∀ a w, Sim c st a w → a.eval x = .bool b := by
        rintro a w ⟨S, ob, hs⟩
        obtain ⟨A, fp', h3, hA, _⟩ := rdK_inv h1 hs (hb.globS hs)
        have := exec_ret h3
        simp only [Prod.mk.injEq] at this
        rw [← this.1] at hA
        exact hA.1.bool_inv
      cases b with
      | true =>
        simp only [cond] at h2
        obtain ⟨ex, st2, hK, hw⟩ := ht st _ y h2
        cases ex with
        | normal => exact ⟨.normal, _, hK, fun Q a w hs hq => wp_cond_true (hev a w hs) (hw Q a w hs fun a' w' hs' => hq a' w' (hs'.rs _ _))⟩
        | exit id => exact ⟨.exit id, _, hK, fun Q a w hs hq => wp_cond_true (hev a w hs) (hw Q a w hs hq)⟩
        | ret => exact ⟨.ret, _, hK, fun Q a w hs hq => wp_cond_true (hev a w hs) (hw Q a w hs hq)⟩
      | false =>
        simp only [cond] at h2
        obtain ⟨ex, st2, hK, hw⟩ := he st _ y h2
        cases ex with
        | normal => exact ⟨.normal, _, hK, fun Q a w hs hq => wp_cond_false (hev a w hs) (hw Q a w hs fun a' w' hs' => hq a' w' (hs'.rs _ _))⟩
        | exit id => exact ⟨.exit id, _, hK, fun Q a w hs hq => wp_cond_false (hev a w hs) (hw Q a w hs hq)⟩
        | ret => exact ⟨.ret, _, hK, fun Q a w hs hq => wp_cond_false (hev a w hs) (hw Q a w hs hq)⟩
    · cases h2
  | block id x ihx =>
    intro hp st K y h
    have hx := via_ok hH (q := 0 :: p) (by simp only [nodeAt, hp, child]) (ihx (0 :: p) (by simp only [nodeAt, hp, child]))
    simp only [evN] at h
    obtain ⟨e, st1, hK, hw⟩ := hx st _ y h
    cases e with
    | normal => exact ⟨.normal, _, hK, fun Q a w hs hq => wp_block (hw _ a w hs fun a' w' hs' => hq a' w' (hs'.rs _ _))⟩
    | exit j =>
      dsimp only at hK
      split at hK
      · rename_i hj
        have hj := beq_nat hj
        subst hj
        refine ⟨.normal, _, hK, fun Q a w hs hq => wp_block (hw _ a w hs fun a' w' hs' => ?_)⟩
        simp only [Ex.exit', Exit.inBlock, if_true]
        exact hq a' w' (hs'.rs _ _)
      · rename_i hj
        have hj : j ≠ id := fun e => by subst e; simp [Nat.beq_refl] at hj
        refine ⟨.exit j, _, hK, fun Q a w hs hq => wp_block (hw _ a w hs fun a' w' hs' => ?_)⟩
        simp only [Ex.exit', Exit.inBlock, if_neg hj]
        exact hq a' w' hs'
    | ret => exact ⟨.ret, _, hK, fun Q a w hs hq => wp_block (hw _ a w hs fun a' w' hs' => hq a' w' hs')⟩
  | loop x ihx =>
    intro hp st K y h
    have hx := via_ok hH (q := 0 :: p) (by simp only [nodeAt, hp, child]) (ihx (0 :: p) (by simp only [nodeAt, hp, child]))
    simp only [evN] at h
    obtain ⟨e, st', hK, hw⟩ := loop_sound hx _ _ _ K y h
    exact ⟨e, st', hK, fun Q a w hs hq => loop_wp (hw Q a w (hs.restr _) hq)⟩
  | exit id => exact fun _ st K y h => ⟨.exit id, _, h, fun Q a w hs hq => wp_exit (hq a w (hs.rs _ _))⟩
  | ret => exact fun _ st K y h => ⟨.ret, _, h, fun Q a w hs hq => wp_ret (hq a w (hs.rs _ _))⟩
  | rangeFunc g ps assign body => exact fun _ st K y h => rf_sound hb N _ g ps assign body st K y h
  | _ => intro _ st K y h; simp [evN] at h

/-- a piece, as a plain function of what the temporaries hold -/
theorem piece_ok {β : Type} {k : Code} {f : Hd β} {s : List (Nat × AS)} {m : Nat} {g : denS s → (Ex → List A → Option β) → Option β} (live : List Nat) (hf : CodeOk P c k f) (h : ∀ x K, f (mkS s m x) K = g x K) :
    CodeOk P c k (fun st K => (unS s m (restr live 0 st)).bind fun x => g x K) := by
  intro st K y hy
  cases hu : unS s m (restr live 0 st) with
  | none => simp only [hu] at hy; cases hy
  | some x =>
    simp only [hu, Option.bind_some] at hy
    rw [← h, ← unS_mk hu] at hy
    obtain ⟨e, st', hK, hw⟩ := hf _ K y hy
    exact ⟨e, st', hK, fun Q a w hs hq => hw Q a w (hs.restr live) hq⟩

def iter {σ β : Type} (step : σ → (σ → Option β) → Option β) : Nat → σ → Option β
  | 0, _ => none
  | n + 1, x => step x (iter step n)

def brk {β : Type} (live : List Nat) (rec : List A → Option β) (K : Ex → List A → Option β) : Ex → List A → Option β := fun e st => match e with
  | .normal => rec (restr live 0 st)
  | e => K e st

theorem loopC_iter {β ι σ : Type} {live : List Nat} {f : Hd β} {mk : ι → σ → List A} {g : ι → σ → (σ → Option β) → (Ex → List A → Option β) → Option β} (h : ∀ i v rec K, f (mk i v) (brk live rec K) = g i v (fun v' => rec (mk i v')) K)
    (K : Ex → List A → Option β) (i : ι) : ∀ (n : Nat) (v : σ), loopC live f n (mk i v) K = iter (fun v r => g i v r K) n v
  | 0, v => rfl
  | n + 1, v => by
    have := h i v (fun st => loopC live f n st K) K
    simp only [loopC, iter]
    refine Eq.trans this ?_
    congr 1
    funext v'
    exact loopC_iter h K i n v'

/-- a loop, as a plain function: i does not turn in it, v does -/
theorem loop_ok {β ι σ : Type} {k : Code} {f : Hd β} {s : List (Nat × AS)} {m : Nat} (g : ι → σ → (σ → Option β) → (Ex → List A → Option β) → Option β) (live : List Nat) (N : Nat) (pi : denS s → ι) (pv : denS s → σ) (mk : ι → σ → denS s) (hmk : ∀ x, mk (pi x) (pv x) = x) (hf : CodeOk P c k f)
    (h : ∀ i v rec K, f (mkS s m (mk i v)) (brk live rec K) = g i v (fun v' => rec (mkS s m (mk i v'))) K) :
    CodeOk P c (.loop k) (fun st K => (unS s m (restr live 0 st)).bind fun x => iter (fun v r => g (pi x) v r K) N (pv x)) := by
  intro st K y hy
  cases hu : unS s m (restr live 0 st) with
  | none => simp only [hu] at hy; cases hy
  | some x =>
    simp only [hu, Option.bind_some] at hy
    rw [← loopC_iter (mk := fun i v => mkS s m (mk i v)) (live := live) (f := f) h, hmk] at hy
    obtain ⟨e, st', hK, hw⟩ := loop_sound hf live N _ K y hy
    refine ⟨e, st', hK, fun Q a w hs hq => loop_wp (hw Q a w ?_ hq)⟩
    rw [← unS_mk hu]
    exact hs.restr live

/-- the rounds of a range over a function, over what it gives -/
def iterL {α σ β : Type} (step : α → σ → (σ → Option β) → Option β) (fin : σ → Option β) : List α → σ → Option β
  | [], v => fin v
  | y :: ys, v => step y v (iterL step fin ys)

def brkR {β : Type} (rec : List A → Option β) (K : Ex → List A → Option β) : Ex → List A → Option β := fun e st => match e with
  | .normal => rec st
  | e => K e st

theorem rfC_iter {β ι σ : Type} {ts : List T} {f : denL ts → Hd β} {mk : ι → σ → List A} {g : denL ts → ι → σ → (σ → Option β) → (Ex → List A → Option β) → Option β}
    (h : ∀ y i v rec K, f y (mk i v) (brkR rec K) = g y i v (fun v' => rec (mk i v')) K) (K : Ex → List A → Option β) (i : ι) : ∀ (xs : List (denL ts)) (v : σ),
    rfC f xs (mk i v) K = iterL (fun y v r => g y i v r K) (fun v => K .normal (mk i v)) xs v
  | [], v => rfl
  | y :: ys, v => by
    have := h y i v (fun st => rfC f ys st K) K
    simp only [rfC, iterL]
    refine Eq.trans this ?_
    congr 1
    funext v'
    exact rfC_iter h K i ys v'

/-- the rounds of a range over a function -/
def rfF {β : Type} (E : Env) (N : Nat) (ts : List T) (k : Code) : denL ts → Hd β := match k with
  | .rangeFunc _ ps assign body => fun y => rndC E N ps.toList assign body (mkL ts y)
  | _ => fun _ _ _ => none

/-- a range over a function, as a plain function: i does not turn in it, v does -/
theorem rf_ok {β ι σ : Type} {ts : List T} {s s2 : List (Nat × AS)} {m m2 : Nat} {k : Code} {F : Hd β} (liveP : List Nat) (Fit : denS s → Option (List (denL ts))) (pi : denS s → ι) (pv : denS s → σ) (mk : ι → σ → denS s2)
    (f : denL ts → Hd β) (g : denL ts → ι → σ → (σ → Option β) → (Ex → List A → Option β) → Option β) (hf : CodeOk P c k F)
    (h0 : ∀ x K, F (mkS s m x) K = (Fit x).bind fun xs => rfC f xs (mkS s2 m2 (mk (pi x) (pv x))) K)
    (h : ∀ y i v rec K, f y (mkS s2 m2 (mk i v)) (brkR rec K) = g y i v (fun v' => rec (mkS s2 m2 (mk i v'))) K) :
    CodeOk P c k (fun st K => (unS s m (restr liveP 0 st)).bind fun x => (Fit x).bind fun xs => iterL (fun y v r => g y (pi x) v r K) (fun v => K .normal (mkS s2 m2 (mk (pi x) v))) xs (pv x)) := by
  intro st K y hy
  cases hu : unS s m (restr liveP 0 st) with
  | none => simp only [hu] at hy; cases hy
  | some x =>
    simp only [hu, Option.bind_some] at hy
    cases hF : Fit x with
    | none => rw [hF] at hy; cases hy
    | some xs =>
      rw [hF] at hy
      simp only [Option.bind_some] at hy
      rw [← rfC_iter (mk := fun i v => mkS s2 m2 (mk i v)) h] at hy
      have h1 := h0 x K
      rw [hF, Option.bind_some] at h1
      rw [← h1, ← unS_mk hu] at hy
      obtain ⟨e, st', hK, hw⟩ := hf _ K y hy
      exact ⟨e, st', hK, fun Q a w hs hq => hw Q a w (hs.restr liveP) hq⟩

def evFX {β : Type} (E : Env) (N : Nat) (H : Tab β) (L : List (List Nat × List Nat)) (fn : Func) (args : List A) (K : A → List A → Option β) : Option β :=
  match fn.body with
  | none => none
  | some body => match and' (and' (argsOk E.lent 0 args) (lentOk args.length E.lent)) (Nat.ble args.length fn.ntmps) with
    | true => evN E N H L [] body (args.append (undefs (fn.ntmps - args.length))) fun e st => match e with
      | .exit _ => none
      | _ => (resCmd E fn.results.toList fn.resultTypes.toList fun x => outsK E args.length 0 fun l => (.ret (x, l) : Cmd (A × List A))).cps E st fp0 fun r _ _ => K r.1 r.2
    | false => none

/-- THE CONTRACT OF A FUNCTION, with its cuts -/
theorem evFX_sound {β : Type} {N : Nat} {H : Tab β} {L : List (List Nat × List Nat)} {f : FuncId} {fn : Func} {body : Code} {args : List A} {K : A → List A → Option β} {y : β} (hE : EnvOk P E) (hf : P.funcs[f]? = some fn) (hbody : fn.body = some body)
    (hH : ∀ c, Base P E c → TabOk P c body H) (h : evFX E N H L fn args K = some y)
    (w : World) (S : Hp) (vals : List Value) (ob : Nat → List Nat) (har : ArgsRel (hp w) S args vals ob) (hS : Sub S (hp w)) (hg : GlobOk E.glob S) :
    ∃ r outs, K r outs = some y ∧ Calls P f vals.toArray w fun e w' => Ends w S args vals ob r outs e w' := by
  unfold evFX at h
  rw [hbody] at h
  dsimp only at h
  split at h
  case h_2 => cases h
  rename_i hck
  obtain ⟨hck1, hntmps⟩ := and'_true hck
  obtain ⟨hargs, hlent⟩ := and'_true hck1
  have hntmps : args.length ≤ fn.ntmps := by simpa using hntmps
  have happ : args.append (undefs (fn.ntmps - args.length)) = args ++ undefs (fn.ntmps - args.length) := rfl
  rw [happ] at h
  have hb : Base P E (fnCtx E w S vals ob) := fnCtx_base hE hg
  obtain ⟨e, st1, hrun, hwp⟩ := evN_sound hb N H L body (hH _ hb) [] body rfl _ _ _ h
  obtain ⟨hee, ⟨r, outs⟩, st2, fp1, hx, hK⟩ : (e = .normal ∨ e = .ret) ∧ ∃ (q : A × List A) (st2 : List A) (fp1 : FP),
      exec E (resCmd E fn.results.toList fn.resultTypes.toList fun x => outsK E args.length 0 fun l => (.ret (x, l) : Cmd (A × List A))) st1 fp0 = some (q, st2, fp1) ∧ K q.1 q.2 = some y := by
    cases e with
    | exit id => cases hrun
    | normal => obtain ⟨q, st2, fp1, h1, h2⟩ := exec_of_cps hrun; exact ⟨.inl rfl, q, st2, fp1, h1, h2⟩
    | ret => obtain ⟨q, st2, fp1, h1, h2⟩ := exec_of_cps hrun; exact ⟨.inr rfl, q, st2, fp1, h1, h2⟩
  exact ⟨r, outs, hK, fun_end hE hf hbody hargs hntmps har hS hg hwp hee hx⟩

/-! ## a function's plain result -/

/-- the plain result of a function whose arguments have the shapes ps and whose plain function is F -/
def resOf {β : Type} (ps : List (Nat × AS)) (F : denS ps → Option β) (out : β → A × List A) (args : List A) : Res :=
  match unS ps 0 args with
  | some x => ⟨β, F x, out⟩
  | none => ⟨Unit, none, fun _ => (.dead, [])⟩

/-- another shape of the arguments -/
def resAlt {β : Type} (ps : List (Nat × AS)) (F : denS ps → Option β) (out : β → A × List A) (other : List A → Res) (args : List A) : Res :=
  match unS ps 0 args with
  | some x => ⟨β, F x, out⟩
  | none => other args

theorem Contract.alt {β : Type} {P : Program} {glob : Nat → Option Dat} {f : FuncId} {ps : List (Nat × AS)} {F : denS ps → Option β} {out : β → A × List A} {other : List A → Res} (h1 : Contract P glob f (resOf ps F out)) (h2 : Contract P glob f other) :
    Contract P glob f (resAlt ps F out other) := by
  refine ⟨h1.1, ?_⟩
  intro w S args vals ob har hS hg
  have k1 := h1.2 w S args vals ob har hS hg
  have k2 := h2.2 w S args vals ob har hS hg
  have e : resAlt ps F out other args = (match unS ps 0 args with | some x => ⟨β, F x, out⟩ | none => other args) := rfl
  have e1 : resOf ps F out args = (match unS ps 0 args with | some x => ⟨β, F x, out⟩ | none => ⟨Unit, none, fun _ => (.dead, [])⟩) := rfl
  cases hu : unS ps 0 args with
  | none => rw [hu] at e; rw [e]; exact k2
  | some x => rw [hu] at e e1; rw [e1] at k1; rw [e]; exact k1

/-- a contract by hand -/
theorem Contract.hand {β : Type} {P : Program} {glob : Nat → Option Dat} {f : FuncId} {ps : List (Nat × AS)} {F : denS ps → Option β} {out : β → A × List A} (hf : ∃ fn, P.funcs[f]? = some fn ∧ fn.body.isSome = true ∧ fn.name ≠ "runtime.NumGoroutine")
    (h : ∀ (w : World) (S : Hp) (vals : List Value) (ob : Nat → List Nat) (x : denS ps) (y : β), ArgsRel (hp w) S (mkS ps 0 x) vals ob → Sub S (hp w) → GlobOk glob S → F x = some y → Calls P f vals.toArray w fun e w' => Ends w S (mkS ps 0 x) vals ob (out y).1 (out y).2 e w') :
    Contract P glob f (resOf ps F out) := by
  refine ⟨hf, ?_⟩
  intro w S args vals ob har hS hg
  unfold resOf
  cases hu : unS ps 0 args with
  | none => intro y hy; cases hy
  | some x =>
    dsimp only
    intro y hy
    rw [unS_mk hu] at har ⊢
    exact h w S vals ob x y har hS hg hy

/-- no steps, no answer -/
theorem Contract.zero {β : Type} {P : Program} {glob : Nat → Option Dat} {f : FuncId} {fn : Func} {body : Code} {ps : List (Nat × AS)} {F : denS ps → Option β} {out : β → A × List A}
    (hf : P.funcs[f]? = some fn) (hbody : fn.body = some body) (hname : fn.name ≠ "runtime.NumGoroutine") (hF : ∀ x, F x = none) : Contract P glob f (resOf ps F out) := by
  refine ⟨⟨fn, hf, by rw [hbody]; rfl, hname⟩, ?_⟩
  intro w S args vals ob har hS hg
  unfold resOf
  cases unS ps 0 args with
  | none => intro y hy; cases hy
  | some x => intro y hy; dsimp only at hy; rw [hF] at hy; cases hy

theorem Contract.of {β : Type} {P : Program} {E : Env} {f : FuncId} {fn : Func} {body : Code} {H : Tab β} {L : List (List Nat × List Nat)} {N : Nat} {ps : List (Nat × AS)} {F : denS ps → Option β} {out : β → A × List A} {K : A → List A → Option β}
    (hE : EnvOk P E) (hf : P.funcs[f]? = some fn) (hbody : fn.body = some body) (hname : fn.name ≠ "runtime.NumGoroutine")
    (hH : ∀ c, Base P E c → TabOk P c body H) (hF : ∀ x y, F x = some y → evFX E N H L fn (mkS ps 0 x) K = some y) (hK : ∀ r outs y, K r outs = some y → (r, outs) = out y) :
    Contract P E.glob f (resOf ps F out) := by
  refine ⟨⟨fn, hf, by rw [hbody]; rfl, hname⟩, ?_⟩
  intro w S args vals ob har hS hg
  unfold resOf
  cases hu : unS ps 0 args with
  | none => intro y hy; cases hy
  | some x =>
    dsimp only
    intro y hy
    have := hF x y hy
    rw [← unS_mk hu] at this
    obtain ⟨r, outs, hr, hc⟩ := evFX_sound hE hf hbody hH this w S vals ob har hS hg
    have hro := hK r outs y hr
    have e1 : r = (out y).1 := by rw [← hro]
    have e2 : outs = (out y).2 := by rw [← hro]
    rw [← e1, ← e2]
    exact hc

/-- what a call does that was deferred -/
def ContractD (P : Program) (glob : Nat → Option Dat) (f : FuncId) (g : List A → Res) : Prop :=
  ∀ (w : World) (S : Hp) (args : List A) (vals : List Value) (ob : Nat → List Nat), ArgsRel (hp w) S args vals ob → Sub S (hp w) → GlobOk glob S →
    ∀ y, (g args).val = some y → CallsD P f vals.toArray .returning w fun e u' w' => u' = .returning ∧ Ends w S args vals ob ((g args).out y).1 ((g args).out y).2 e w'

theorem evFX_soundD {β : Type} {N : Nat} {H : Tab β} {L : List (List Nat × List Nat)} {f : FuncId} {fn : Func} {body : Code} {args : List A} {K : A → List A → Option β} {y : β} (hE : EnvOk P E) (hf : P.funcs[f]? = some fn) (hbody : fn.body = some body)
    (hH : ∀ c, Base P E c → TabOk P c body H) (h : evFX E N H L fn args K = some y)
    (w : World) (S : Hp) (vals : List Value) (ob : Nat → List Nat) (har : ArgsRel (hp w) S args vals ob) (hS : Sub S (hp w)) (hg : GlobOk E.glob S) :
    ∃ r outs, K r outs = some y ∧ CallsD P f vals.toArray .returning w fun e u' w' => u' = .returning ∧ Ends w S args vals ob r outs e w' := by
  unfold evFX at h
  rw [hbody] at h
  dsimp only at h
  split at h
  case h_2 => cases h
  rename_i hck
  obtain ⟨hck1, hntmps⟩ := and'_true hck
  obtain ⟨hargs, hlent⟩ := and'_true hck1
  have hntmps : args.length ≤ fn.ntmps := by simpa using hntmps
  have happ : args.append (undefs (fn.ntmps - args.length)) = args ++ undefs (fn.ntmps - args.length) := rfl
  rw [happ] at h
  have hb : Base P E (fnCtx E w S vals ob) := fnCtx_base hE hg
  obtain ⟨e, st1, hrun, hwp⟩ := evN_sound hb N H L body (hH _ hb) [] body rfl _ _ _ h
  obtain ⟨hee, ⟨r, outs⟩, st2, fp1, hx, hK⟩ : (e = .normal ∨ e = .ret) ∧ ∃ (q : A × List A) (st2 : List A) (fp1 : FP),
      exec E (resCmd E fn.results.toList fn.resultTypes.toList fun x => outsK E args.length 0 fun l => (.ret (x, l) : Cmd (A × List A))) st1 fp0 = some (q, st2, fp1) ∧ K q.1 q.2 = some y := by
    cases e with
    | exit id => cases hrun
    | normal => obtain ⟨q, st2, fp1, h1, h2⟩ := exec_of_cps hrun; exact ⟨.inl rfl, q, st2, fp1, h1, h2⟩
    | ret => obtain ⟨q, st2, fp1, h1, h2⟩ := exec_of_cps hrun; exact ⟨.inr rfl, q, st2, fp1, h1, h2⟩
  exact ⟨r, outs, hK, fun_endD hE hf hbody hargs hntmps har hS hg hwp hee hx⟩

theorem ContractD.of {β : Type} {P : Program} {E : Env} {f : FuncId} {fn : Func} {body : Code} {H : Tab β} {L : List (List Nat × List Nat)} {N : Nat} {ps : List (Nat × AS)} {F : denS ps → Option β} {out : β → A × List A} {K : A → List A → Option β}
    (hE : EnvOk P E) (hf : P.funcs[f]? = some fn) (hbody : fn.body = some body) (hname : fn.name ≠ "runtime.NumGoroutine")
    (hH : ∀ c, Base P E c → TabOk P c body H) (hF : ∀ x y, F x = some y → evFX E N H L fn (mkS ps 0 x) K = some y) (hK : ∀ r outs y, K r outs = some y → (r, outs) = out y) :
    ContractD P E.glob f (resOf ps F out) := by
  intro w S args vals ob har hS hg
  unfold resOf
  cases hu : unS ps 0 args with
  | none => intro y hy; cases hy
  | some x =>
    dsimp only
    intro y hy
    have := hF x y hy
    rw [← unS_mk hu] at this
    obtain ⟨r, outs, hr, hc⟩ := evFX_soundD hE hf hbody hH this w S vals ob har hS hg
    have hro := hK r outs y hr
    have e1 : r = (out y).1 := by rw [← hro]
    have e2 : outs = (out y).2 := by rw [← hro]
    rw [← e1, ← e2]
    exact hc
end
end Go.Lift

/- What comes in: an argument that reads as data, as a plain datum; and back. -/
set_option linter.all false
namespace Go.Lift
open Go.RowKit

/-- what bounds a datum has that came in -/
def Wf : (t : T) → t.den → Prop
  | .int k, n => (Lit.int k n).wf = true
  | .str, s => s.length ≤ maxLen
  | .pair a b, x => Wf a x.1 ∧ Wf b x.2
  | .arr n t, xs => xs.length = n ∧ ∀ x ∈ xs, Wf t x
  | .sl t, xs => xs.length ≤ maxLen ∧ ∀ x ∈ xs, Wf t x
  | _, _ => True

/-- the type's shape is u: of a type, or of the rest of a struct's fields -/
def mtB (P : Program) : (u : T) → (TypeId ⊕ (List Field × Nat)) → Bool
  | .bool, .inl t => match P.underlying t with
    | some .bool => true
    | _ => false
  | .int k, .inl t => match P.underlying t with
    | some (.int k') => decide (k = k')
    | _ => false
  | .str, .inl t => match P.underlying t with
    | some .string => true
    | _ => false
  | .sl u, .inl t => match P.underlying t with
    | some (.slice e) => and' (mtB P u (.inl e)) (and' (Nat.beq (P.cellsOf e) u.size) (Nat.blt 0 u.size))
    | _ => false
  | .arr n u, .inl t => match P.underlying t with
    | some (.array m e) => and' (mtB P u (.inl e)) (and' (Nat.beq n m) (and' (Nat.beq (P.cellsOf e) u.size) (Nat.beq (P.cellsOf t) (n * u.size))))
    | _ => false
  | .unit, .inl t => match P.underlying t with
    | some (.struct fs) => and' (Nat.beq (P.cellsOf t) 0) (Nat.beq fs.size 0)
    | _ => false
  | .unit, .inr p => match p.1 with
    | [] => true
    | _ => false
  | .pair a b, .inl t => match P.underlying t with
    | some (.struct fs) => (match fs.toList with
      | f :: r => and' (and' (mtB P a (.inl f.type)) (mtB P b (.inr (r, a.size)))) (and' (Nat.beq (P.cellsOf t) (a.size + b.size)) (and' (Nat.beq f.offset 0) (Nat.beq (P.cellsOf f.type) a.size)))
      | [] => false)
    | _ => false
  | .pair a b, .inr p => match p.1 with
    | f :: r => and' (and' (mtB P a (.inl f.type)) (mtB P b (.inr (r, p.2 + a.size)))) (and' (Nat.beq f.offset p.2) (Nat.beq (P.cellsOf f.type) a.size))
    | [] => false
  | _, _ => false

section
variable {H : Type} {enc : TypeId × Value → H} {P : Program} {w : World} {base : Nat} {spare : Nat → Bool} {held : Bool}

theorem beqN {a b : Nat} (h : Nat.beq a b = true) : a = b := Nat.eq_of_beq_eq_true h

/-- cells that stand one behind the other -/
theorem lies_of {a : Addr} {cs : List Value} (h0 : 0 < cs.length) (h : ∀ i, i < cs.length → w.cell? (a.add i) = cs[i]?) : ∃ b off, a = ⟨b, off, none⟩ ∧ Lies (hp w) b off cs := by
  obtain ⟨b, off, sp⟩ := a
  have h00 := h 0 h0
  rw [List.getElem?_eq_getElem h0] at h00
  have hsp : sp = none := by simpa [Addr.add] using World.cell?_spot h00
  subst hsp
  refine ⟨b, off, rfl, ?_⟩
  have h' : ∀ i, i < cs.length → w.cell? ⟨b, off + i, none⟩ = cs[i]? := fun i hi => by rw [← Go.WideShapes.add_plain]; exact h i hi
  have hob : ∃ all E fr, w.heap[b]? = some (.cells all E fr) := by
    have := h' 0 h0
    rw [List.getElem?_eq_getElem h0] at this
    unfold World.cell? at this
    split at this
    · rename_i all E fr hb; exact ⟨all, E, fr, hb⟩
    · cases this
  obtain ⟨all, E, fr, hb⟩ := hob
  have hget : ∀ i, i < cs.length → all.toList[off + i]? = cs[i]? := by
    intro i hi
    have := h' i hi
    unfold World.cell? at this
    simp only [hb] at this
    rw [← this]
    simp
  refine ⟨all, E, fr, all.toList.take off, all.toList.drop (off + cs.length), hb, ?_, ?_⟩
  · have hlen : off + cs.length ≤ all.toList.length := by
      rcases Nat.lt_or_ge all.toList.length (off + cs.length) with hlt | hge
      · have := hget (cs.length - 1) (by omega)
        rw [List.getElem?_eq_none (by omega), List.getElem?_eq_getElem (by omega)] at this
        cases this
      · exact hge
    have e : (all.toList.drop off).take cs.length = cs := by
      apply List.ext_getElem?
      intro i
      by_cases hi : i < cs.length
      · rw [List.getElem?_take_of_lt hi, List.getElem?_drop, hget i hi]
      · rw [List.getElem?_eq_none (by simp; omega), List.getElem?_eq_none (by omega)]
    have e2 : all.toList.drop (off + cs.length) = (all.toList.drop off).drop cs.length := by rw [List.drop_drop]
    rw [e2]
    conv => rhs; rw [← e, List.length_take, List.length_drop, Nat.min_eq_left (by omega)]
    rw [List.take_append_drop, List.take_append_drop]
  · rw [List.length_take]
    have := hget 0 h0
    rw [List.getElem?_eq_getElem h0] at this
    have : off + 0 < all.toList.length := by
      rcases Nat.lt_or_ge (off + 0) all.toList.length with h | h
      · exact h
      · rw [List.getElem?_eq_none h] at this; cases this
    omega

/-- elements that stand one behind the other -/
theorem all_of {α : Type} {R : α → List Value → Prop} {W : α → Prop} {a : Addr} {sz : Nat} (hs : ∀ x cs, R x cs → cs.length = sz) : ∀ (n : Nat), (∀ i, i < n → ∃ cs x, cs.length = sz ∧ (∀ j, j < sz → w.cell? (a.add (i * sz + j)) = cs[j]?) ∧ R x cs ∧ W x) →
    ∃ xs c, xs.length = n ∧ All R xs c ∧ (∀ x ∈ xs, W x) ∧ (∀ j, j < n * sz → w.cell? (a.add j) = c[j]?)
  | 0, _ => ⟨[], [], rfl, rfl, fun _ h => (by cases h), fun j hj => (by simp at hj)⟩
  | n + 1, h => by
    obtain ⟨xs, c, hl, hA, hW, hc⟩ := all_of hs n (fun i hi => h i (by omega))
    obtain ⟨cs, x, hcl, hcc, hR, hWx⟩ := h n (by omega)
    refine ⟨xs ++ [x], c ++ cs, by simp [hl], hA.append (All.one hR), ?_, ?_⟩
    · intro y hy
      rcases List.mem_append.1 hy with hy | hy
      · exact hW y hy
      · simp at hy; rw [hy]; exact hWx
    · intro j hj
      have hlen : c.length = n * sz := by rw [All.length hs _ _ hA, hl]
      rcases Nat.lt_or_ge j (n * sz) with hlt | hge
      · rw [hc j hlt, List.getElem?_append_left (by omega)]
      · have := hcc (j - n * sz) (by rw [Nat.succ_mul] at hj; omega)
        rw [show n * sz + (j - n * sz) = j by omega] at this
        rw [this, List.getElem?_append_right (by omega), hlen]

theorem add_add (a : Addr) (i j : Nat) (h : a.spot = none) : (a.add i).add j = a.add (i + j) := by
  obtain ⟨b, off, sp⟩ := a
  dsimp only at h
  subst h
  rw [Go.WideShapes.add_plain, Go.WideShapes.add_plain, Go.WideShapes.add_plain, Nat.add_assoc]

/-- WHAT READS AS DATA IS A PLAIN DATUM -/
theorem open_T : ∀ (u : T),
    (∀ (t : TypeId) (fuel : Nat) (cs : List Value) x, mtB P u (.inl t) = true → DataW.trod enc P w base spare held fuel t cs = some x → ∃ y, Rd (hp w) u y cs ∧ Wf u y) ∧
    (∀ (fs : List Field) (off n : Nat) (cs : List Value), mtB P u (.inr (fs, off)) = true → (∀ f ∈ fs, ∃ x, DataW.trod enc P w base spare held n f.type ((cs.drop f.offset).take (P.cellsOf f.type)) = some x) → cs.length = off + u.size →
      ∃ y, Rd (hp w) u y (cs.drop off) ∧ Wf u y) := by
  intro u
  induction u with
  | int k =>
    refine ⟨fun t fuel cs x hm h => ?_, fun fs off n cs hm => by simp [mtB] at hm⟩
    simp only [mtB] at hm
    split at hm
    · rename_i k' hu
      have hm : k = k' := by simpa using hm
      subst hm
      obtain ⟨n, rfl, _, hw⟩ := DataW.trod_int hu h
      exact ⟨n, rfl, hw⟩
    · cases hm
  | bool =>
    refine ⟨fun t fuel cs x hm h => ?_, fun fs off n cs hm => by simp [mtB] at hm⟩
    simp only [mtB] at hm
    split at hm
    · rename_i hu
      obtain ⟨n, rfl, _⟩ := DataW.trod_bool hu h
      exact ⟨n, rfl, trivial⟩
    · cases hm
  | str =>
    refine ⟨fun t fuel cs x hm h => ?_, fun fs off n cs hm => by simp [mtB] at hm⟩
    simp only [mtB] at hm
    split at hm
    · rename_i hu
      obtain ⟨s, rfl, _, hw⟩ := DataW.trod_string hu h
      exact ⟨s.data.toList, rfl, by simpa [Wf] using hw⟩
    · cases hm
  | opq => exact ⟨fun t fuel cs x hm => by simp [mtB] at hm, fun fs off n cs hm => by simp [mtB] at hm⟩
  | ptr t _ => exact ⟨fun t fuel cs x hm => by simp [mtB] at hm, fun fs off n cs hm => by simp [mtB] at hm⟩
  | own t _ => exact ⟨fun t fuel cs x hm => by simp [mtB] at hm, fun fs off n cs hm => by simp [mtB] at hm⟩
  | self ty => exact ⟨fun t fuel cs x hm => by simp [mtB] at hm, fun fs off n cs hm => by simp [mtB] at hm⟩
  | byt ty => exact ⟨fun t fuel cs x hm => by simp [mtB] at hm, fun fs off n cs hm => by simp [mtB] at hm⟩
  | any => exact ⟨fun t fuel cs x hm => by simp [mtB] at hm, fun fs off n cs hm => by simp [mtB] at hm⟩
  | mp k v _ _ => exact ⟨fun t fuel cs x hm => by simp [mtB] at hm, fun fs off n cs hm => by simp [mtB] at hm⟩
  | nb t _ => exact ⟨fun t fuel cs x hm => by simp [mtB] at hm, fun fs off n cs hm => by simp [mtB] at hm⟩
  | ifc ty t _ => exact ⟨fun t fuel cs x hm => by simp [mtB] at hm, fun fs off n cs hm => by simp [mtB] at hm⟩
  | fn f t _ => exact ⟨fun t fuel cs x hm => by simp [mtB] at hm, fun fs off n cs hm => by simp [mtB] at hm⟩
  | unit =>
    refine ⟨fun t fuel cs x hm h => ?_, fun fs off n cs hm h hl => ⟨(), by simp [Rd]; simp [T.size] at hl; omega, trivial⟩⟩
    simp only [mtB] at hm
    split at hm
    · rename_i fs hu
      obtain ⟨h1, h2⟩ := and'_true hm
      obtain ⟨xs, n, _, _, hl, _⟩ := DataW.trod_struct hu h
      rw [beqN h1] at hl
      exact ⟨(), by simpa [Rd] using hl, trivial⟩
    · cases hm
  | sl u ih =>
    refine ⟨fun t fuel cs x hm h => ?_, fun fs off n cs hm => by simp [mtB] at hm⟩
    simp only [mtB] at hm
    split at hm
    · rename_i e hu
      obtain ⟨h1, h2⟩ := and'_true hm
      obtain ⟨h2, h3⟩ := and'_true h2
      have h2 := beqN h2
      have h3 : 0 < u.size := by simpa using h3
      rcases DataW.trod_slice hu h with ⟨rfl, _⟩ | ⟨a, len, cap, elems, rest, n, _, rfl, _, hb, hl, hc, hel, heach, _⟩
      · exact ⟨[], ⟨none, 0, rfl, by simp, .inl rfl⟩, by simp [Wf]⟩
      · have hee : ∀ i, i < len → ∃ cs x, cs.length = u.size ∧ (∀ j, j < u.size → w.cell? (a.add (i * u.size + j)) = cs[j]?) ∧ Rd (hp w) u x cs ∧ Wf u x := by
          intro i hi
          have hi' := heach i hi
          rw [List.getElem?_eq_getElem (by omega)] at hi'
          obtain ⟨cs, hcs, htr⟩ := Option.bind_eq_some_iff.1 hi'
          obtain ⟨x, hR, hW⟩ := ih.1 e n cs _ h1 htr
          rw [h2] at hcs
          obtain ⟨hbb, hcl, hcc⟩ := World.cells?_some hcs
          refine ⟨cs, x, hcl, fun j hj => ?_, hR, hW⟩
          rw [← hcc j hj, ← add_add]
          have := hcc 0 h3
          rw [List.getElem?_eq_getElem (by omega)] at this
          have h0 : ((a.add (i * u.size)).add 0).spot = none := World.cell?_spot this
          by_cases hi0 : i * u.size = 0
          · simpa [Addr.add, hi0] using h0
          · have hlt : 0 < len := by omega
            have h00 := heach 0 hlt
            rw [List.getElem?_eq_getElem (by omega)] at h00
            obtain ⟨cs0, hcs0, _⟩ := Option.bind_eq_some_iff.1 h00
            rw [h2] at hcs0
            obtain ⟨_, hcl0, hcc0⟩ := World.cells?_some hcs0
            have := hcc0 0 h3
            rw [List.getElem?_eq_getElem (by omega)] at this
            have h0 : ((a.add (0 * u.size)).add 0).spot = none := World.cell?_spot this
            simpa [Addr.add] using h0
        obtain ⟨xs, c, hxl, hA, hW, hcell⟩ := all_of (Rd.length u) len hee
        have hclen : c.length = len * u.size := by rw [All.length (Rd.length u) _ _ hA, hxl]
        refine ⟨xs, ⟨some a, cap, by rw [hxl], by omega, ?_⟩, by omega, hW⟩
        cases xs with
        | nil => exact .inl rfl
        | cons x xs =>
          have : 0 < len := by rw [← hxl]; simp
          have hpos : 0 < len * u.size := Nat.mul_pos this h3
          obtain ⟨b, off, rfl, hlies⟩ := lies_of (cs := c) (by omega) (fun i hi => hcell i (by omega))
          exact .inr ⟨b, off, c, rfl, hlies, hA⟩
    · cases hm
  | arr n u ih =>
    refine ⟨fun t fuel cs x hm h => ?_, fun fs off n cs hm => by simp [mtB] at hm⟩
    simp only [mtB] at hm
    split at hm
    · rename_i m e hu
      obtain ⟨h1, h2⟩ := and'_true hm
      obtain ⟨h2, h3⟩ := and'_true h2
      obtain ⟨h3, h4⟩ := and'_true h3
      have h2 := beqN h2
      have h3 := beqN h3
      have h4 := beqN h4
      subst h2
      obtain ⟨xs, k, _, _, hl, hxl, heach⟩ := DataW.trod_array hu h
      rw [h4] at hl
      have key : ∀ (n : Nat) (cs : List Value), cs.length = n * u.size → (∀ i, i < n → ∃ y, Rd (hp w) u y ((cs.drop (i * u.size)).take u.size) ∧ Wf u y) → ∃ ys, ys.length = n ∧ All (Rd (hp w) u) ys cs ∧ ∀ y ∈ ys, Wf u y := by
        intro n
        induction n with
        | zero => intro cs hl _; exact ⟨[], rfl, by simp at hl; rw [hl]; rfl, fun _ h => by cases h⟩
        | succ n ihn =>
          intro cs hl he
          obtain ⟨y, hy, hyw⟩ := he 0 (by omega)
          obtain ⟨ys, hyl, hys, hysw⟩ := ihn (cs.drop u.size) (by rw [List.length_drop, hl, Nat.succ_mul]; omega) (fun i hi => by
            have := he (i + 1) (by omega)
            rw [Nat.succ_mul, Nat.add_comm, ← List.drop_drop] at this
            exact this)
          refine ⟨y :: ys, by simp [hyl], ⟨cs.take u.size, cs.drop u.size, by rw [List.take_append_drop], by simpa using hy, hys⟩, ?_⟩
          intro z hz
          rcases List.mem_cons.1 hz with rfl | hz
          · exact hyw
          · exact hysw z hz
      obtain ⟨ys, hyl, hys, hyw⟩ := key n cs hl (fun i hi => by
        have := heach i hi
        rw [List.getElem?_eq_getElem (by omega), h3] at this
        exact ih.1 e k _ _ h1 this)
      exact ⟨ys, ⟨hyl, hys⟩, hyl, hyw⟩
    · cases hm
  | pair a b iha ihb =>
    have fields : ∀ (f : Field) (r : List Field) (off n : Nat) (cs : List Value), mtB P a (.inl f.type) = true → mtB P b (.inr (r, off + a.size)) = true → f.offset = off → P.cellsOf f.type = a.size →
        (∀ g ∈ f :: r, ∃ x, DataW.trod enc P w base spare held n g.type ((cs.drop g.offset).take (P.cellsOf g.type)) = some x) → cs.length = off + (a.size + b.size) → ∃ y, Rd (hp w) (.pair a b) y (cs.drop off) ∧ Wf (.pair a b) y := by
      intro f r off n cs h1 h2 h3 h4 he hl
      obtain ⟨x, hx⟩ := he f (by simp)
      rw [h3, h4] at hx
      obtain ⟨y, hy, hyw⟩ := iha.1 _ _ _ _ h1 hx
      obtain ⟨z, hz, hzw⟩ := ihb.2 r (off + a.size) n cs h2 (fun g hg => he g (by simp [hg])) (by omega)
      exact ⟨(y, z), ⟨_, _, by rw [← List.drop_drop, List.take_append_drop], hy, hz⟩, hyw, hzw⟩
    constructor
    · intro t fuel cs x hm h
      simp only [mtB] at hm
      split at hm
      · rename_i fs hu
        split at hm
        · rename_i f r hfs
          obtain ⟨h1, h2⟩ := and'_true hm
          obtain ⟨h0, h1'⟩ := and'_true h1
          obtain ⟨h2, h3⟩ := and'_true h2
          obtain ⟨h3, h4⟩ := and'_true h3
          obtain ⟨xs, k, _, _, hl, hxl, heach⟩ := DataW.trod_struct hu h
          rw [beqN h2] at hl
          have := fields f r 0 k cs h0 (by rw [Nat.zero_add]; exact h1') (beqN h3) (beqN h4) (fun g hg => by
            rw [← hfs] at hg
            obtain ⟨i, hi, rfl⟩ := List.getElem_of_mem hg
            have hi' : i < fs.size := by simpa using hi
            have := heach i fs[i] (by rw [Array.getElem?_eq_getElem hi'])
            rw [List.getElem?_eq_getElem (by omega)] at this
            exact ⟨_, by simpa using this⟩) (by omega)
          simpa using this
        · cases hm
      · cases hm
    · intro fs off n cs hm he hl
      simp only [mtB] at hm
      split at hm
      · rename_i f r
        obtain ⟨h1, h2⟩ := and'_true hm
        obtain ⟨h0, h1'⟩ := and'_true h1
        obtain ⟨h3, h4⟩ := and'_true h2
        exact fields f r off n cs h0 h1' (beqN h3) (beqN h4) he hl
      · cases hm

theorem okWide_cell {r : Reach} {b0 : Nat} {t : TypeId} {v : Value} (h : Value.okWide P w r b0 t v) (hs : ∀ fs, P.underlying t ≠ some (.struct fs)) (ha : ∀ n e, P.underlying t ≠ some (.array n e)) : v.cells = #[v] := by
  unfold Value.okWide at h
  split at h
  · rename_i fs hu; exact absurd hu (hs fs)
  · rename_i n e hu; exact absurd hu (ha n e)
  · have no : ∀ cs, Cell.okWide P w r b0 t (.agg cs) → False := by
      intro cs
      unfold Cell.okWide Cell.ok
      generalize P.underlying t = o
      cases o with
      | none => exact id
      | some d => cases d <;> exact id
    cases v <;> first
      | rfl
      | exact (no _ h).elim

/-- an argument -/
theorem open_arg {r : Reach} {b0 : Nat} {u : T} {t : TypeId} {v : Value} {d : DataW H} {ps : List MemPlace} (hm : mtB P u (.inl t) = true) (hval : Value.okWide P w r b0 t v) (hd : DataW.Trod enc P w base spare held t v d ps) : ∃ y, VR (hp w) u y v ∧ Wf u y := by
  obtain ⟨fuel, hf⟩ := hd
  obtain ⟨y, hy, hw⟩ := (open_T (H := H) (enc := enc) (base := base) (spare := spare) (held := held) u).1 t fuel _ _ hm hf
  refine ⟨y, ?_, hw⟩
  cases hu : u.isAgg with
  | false =>
    have : v.cells = #[v] := by
      apply okWide_cell hval
      · intro fs e; cases u <;> simp [T.isAgg] at hu <;> simp [mtB, e] at hm
      · intro n e' e; cases u <;> simp [T.isAgg] at hu <;> simp [mtB, e] at hm
    rw [this] at hy
    exact VR.of_one hu hy
  | true =>
    have : ∃ cs, v = .agg cs := by
      unfold Value.okWide at hval
      split at hval
      · obtain ⟨cs, rfl, _⟩ := hval; exact ⟨cs, rfl⟩
      · obtain ⟨cs, rfl, _⟩ := hval; exact ⟨cs, rfl⟩
      · rename_i h1 h2
        exfalso
        cases u <;> try (cases hu; done)
        case unit =>
          unfold mtB at hm
          generalize hq : P.underlying t = q at hm
          cases q with
          | none => cases hm
          | some d => cases d <;> first
            | (cases hm; done)
            | exact h1 _ hq
        case pair =>
          unfold mtB at hm
          generalize hq : P.underlying t = q at hm
          cases q with
          | none => cases hm
          | some d => cases d <;> first
            | (cases hm; done)
            | exact h1 _ hq
        case arr =>
          unfold mtB at hm
          generalize hq : P.underlying t = q at hm
          cases q with
          | none => cases hm
          | some d => cases d <;> first
            | (cases hm; done)
            | exact h2 _ _ hq
    obtain ⟨cs, rfl⟩ := this
    exact VR.of_agg hu hy

def argsS : List T → List (Nat × AS)
  | [] => []
  | u :: us => (0, .v u) :: argsS us

def WfS : (us : List T) → denS (argsS us) → Prop
  | [], _ => True
  | u :: us, x => Wf u x.1 ∧ WfS us x.2

def mtAll (P : Program) : List T → List TypeId → Bool
  | [], [] => true
  | u :: us, t :: ts => and' (mtAll P us ts) (mtB P u (.inl t))
  | _, _ => false

/-- THE ARGUMENTS -/
theorem open_all : ∀ {us : List T} {ts : List TypeId} {vs : List Value} {ds : List (DataW H)} {p : List MemPlace} {r : Reach} {b0 : Nat}, mtAll P us ts = true → (∀ (j : Nat) t v, ts[j]? = some t → vs[j]? = some v → Value.okWide P w r b0 t v) →
    DataW.TrodAll enc P w base spare held ts vs ds p → ∃ x : denS (argsS us), ArgsRel (hp w) (hp w) (mkS (argsS us) 0 x) vs (fun _ => []) ∧ WfS us x
  | [], ts, vs, ds, p, r, b0, hm, hval, hA => by
    cases ts with
    | cons t ts => simp [mtAll] at hm
    | nil =>
      cases vs with
      | cons v vs => cases ds <;> simp [DataW.TrodAll] at hA
      | nil => exact ⟨(), ⟨rfl, fun i x h => (by simp [argsS, mkS, deads] at h), fun _ _ => rfl, fun i j b h => (by cases h), fun _ => .nil, fun i b h => by cases h⟩, trivial⟩
  | u :: us, ts, vs, ds, p, r, b0, hm, hval, hA => by
    cases ts with
    | nil => simp [mtAll] at hm
    | cons t ts =>
      obtain ⟨h1, h2⟩ := and'_true hm
      obtain ⟨v, vs', d, ds', p1, q1, rfl, rfl, rfl, hd, hA'⟩ := Go.ChangeShapes.trodAll_cons hA
      obtain ⟨y, hy, hyw⟩ := open_arg h2 (hval 0 t v rfl rfl) hd
      obtain ⟨x, hx, hxw⟩ := open_all h1 (fun j t' v' ht hv => hval (j + 1) t' v' (by simpa using ht) (by simpa using hv)) hA'
      refine ⟨(y, x), ⟨?_, ?_, fun _ _ => rfl, fun i j b h => (by cases h), fun _ => .nil, fun i b h => by cases h⟩, hyw, hxw⟩
      · have := hx.len
        simp only [argsS, mkS, deads, List.length_cons] at this ⊢
        simpa [argsS] using this
      · intro i z hz
        cases i with
        | zero =>
          simp only [argsS, mkS, deads, List.getElem?_cons_zero, Option.some.injEq] at hz
          subst hz
          exact ⟨⟨v, rfl, hy, rfl⟩, rfl⟩
        | succ i =>
          simp only [argsS, mkS, deads, List.getElem?_cons_succ] at hz
          simpa using hx.rel i z hz

/-- what was read before reads so behind -/
theorem trodAll_below (hl : laidOutB P = true) {W W' : World} (hb : Below W.heap.size W W') : ∀ {ts : List TypeId} {vs : List Value} {ds : List (DataW H)} {p : List MemPlace}, (ts.all fun t => P.readableRec t && decide (t < P.types.size)) = true →
    DataW.TrodAll enc P W 0 (fun _ => true) true ts vs ds p → DataW.TrodAll enc P W' 0 (fun b => decide (b < W.heap.size)) true ts vs ds p
  | [], vs, ds, p, _, hA => by
    cases vs <;> cases ds <;> first
      | (simp [DataW.TrodAll] at hA; done)
      | exact hA
  | t :: ts, vs, ds, p, hr, hA => by
    obtain ⟨v, vs', d, ds', p1, q1, rfl, rfl, rfl, hd, hA'⟩ := Go.ChangeShapes.trodAll_cons hA
    simp only [List.all_cons, Bool.and_eq_true, decide_eq_true_eq] at hr
    refine trodAll_cons_mk (Below.trod hl hr.1.1 hr.1.2 hd hb ?_) (trodAll_below hl hb hr.2 hA')
    obtain ⟨m, hm⟩ := hd
    exact DataW.trod_lt m _ _ _ hm

theorem WF.below {w w' : World} {B : Nat → Prop} (h : WF w B w') (hB : ∀ b, ¬ B b) : Below w.heap.size w w' := ⟨h.os, h.tape, h.output, h.size, fun k hk => h.same k hk (hB k)⟩

/-- A LAW: its plain function says true -/
theorem law_of {glob : Nat → Option Dat} {f : FuncId} {us : List T} {F : denS (argsS us) → Option Bool} {out : Bool → A × List A} (hc : Contract P glob f (resOf (argsS us) F out)) (hout : ∀ b, (out b).1 = .v .bool b)
    {vs : Array Value} {x : denS (argsS us)} (hx : ArgsRel (hp w) (hp w) (mkS (argsS us) 0 x) vs.toList (fun _ => [])) (hg : GlobOk glob (hp w)) (hF : F x = some true) (hun : unS (argsS us) 0 (mkS (argsS us) 0 x) = some x) :
    Calls P f vs w fun e w' => e = .returned (.bool true) ∧ Below w.heap.size w w' := by
  have hv : (resOf (argsS us) F out (mkS (argsS us) 0 x)) = ⟨Bool, F x, out⟩ := by unfold resOf; rw [hun]
  have key := hc.2 w (hp w) _ vs.toList _ hx (Sub.refl _) hg
  rw [hv] at key
  refine (key true hF).mono ?_
  rintro e w' ⟨v, S', o, ob', rfl, hwf, _, _, _, ⟨hrel, _⟩, _⟩
  dsimp only at hrel
  rw [hout] at hrel
  exact ⟨by rw [hrel.1.bool_inv], hwf.below (fun b ⟨i, hi⟩ => by cases hi)⟩

theorem cast_self {t : T} {x : t.den} : cast t t x = some x := by simp [cast]

theorem unS_args : ∀ {us : List T} {x : denS (argsS us)}, unS (argsS us) 0 (mkS (argsS us) 0 x) = some x
  | [], x => rfl
  | u :: us, x => by
    have := unS_args (us := us) (x := x.2)
    simp only [argsS, mkS, deads, unS, unDeads, AS.mk, AS.un, cast_self, this]
    rfl
end
end Go.Lift

/- Iterators: functions that call yield. Their plain function gives the list of what they yield. -/
set_option linter.all false
namespace Go.Lift

/-- yield is called with y: what goes on if it says yes, and if it says no: then nothing may be yielded -/
def comb {α : Type} (y : α) (kT kF : Option (List α)) : Option (List α) := kT.bind fun l => kF.bind fun m => match m with
  | [] => some (y :: l)
  | _ => none

def yArgs {α : Type} (E : Env) : List Operand → (List Dat → Cmd α) → Cmd α
  | [], k => k []
  | x :: r, k => rdK E x fun a => datK a fun d => yArgs E r fun l => k (d :: l)

def isYld : A → Bool
  | .yld => true
  | _ => false

def isYield (st : List A) (o : Oper) : Option (List Operand) := match o.op with
  | .call c => (match c.callee with
    | .value (.tmp t) => (match st.getD t .dead with
      | .bor r => (match and' (Nat.beq r 0) (isYld (st.getD 0 .dead)) with
        | true => some c.args.toList
        | false => none)
      | .yld => (match Nat.beq t 0 with
        | true => some c.args.toList
        | false => none)
      | _ => none)
    | _ => none)
  | _ => none

def guardY {β : Type} (all : Array Oper) (o : Oper) (st : List A) (kOp kSkip : List A → Option β) : Option β := match o.guard with
  | none => kOp st
  | some (j, want) => match (all[j]?).bind (·.dst) with
    | none => none
    | some d => match st.getD d .dead with
      | .v .bool b => (match want with
        | true => cond b (kOp (st.set d (.v .bool true))) (kSkip (st.set d (.v .bool false)))
        | false => cond b (kSkip (st.set d (.v .bool true))) (kOp (st.set d (.v .bool false))))
      | .tup [] => kSkip st
      | _ => none

def opY (E : Env) (ts : List T) (cb : denL ts → Option (List (denL ts)) → Option (List (denL ts)) → Option (List (denL ts))) (all : Array Oper) (o : Oper) (st : List A) (K : List A → Option (List (denL ts))) : Option (List (denL ts)) := match isYield st o with
  | none => (guardCmd E all o).cps E st fp0 fun _ st' _ => K st'
  | some xs => guardY all o st (fun st => (yArgs E xs fun l => (.ret l : Cmd (List Dat))).cps E st fp0 fun l st1 _ => (unL ts l).bind fun y =>
      cb y ((lay o.dst (.v .bool true)).cps E st1 fp0 fun _ st2 _ => K st2) ((lay o.dst (.v .bool false)).cps E st1 fp0 fun _ st2 _ => K st2))
      (fun st => (skipCmd o).cps E st fp0 fun _ st' _ => K st')

def seqY (E : Env) (ts : List T) (cb : denL ts → Option (List (denL ts)) → Option (List (denL ts)) → Option (List (denL ts))) (all : Array Oper) : List Oper → List A → (List A → Option (List (denL ts))) → Option (List (denL ts))
  | [], st, K => K st
  | o :: r, st, K => opY E ts cb all o st fun st' => seqY E ts cb all r st' K

def evY (E : Env) (ts : List T) (cb : denL ts → Option (List (denL ts)) → Option (List (denL ts)) → Option (List (denL ts))) (N : Nat) (H : Tab (List (denL ts))) (L : List (List Nat × List Nat)) (p : List Nat) : Code → Hd (List (denL ts))
  | .skip, st, K => K .normal (rs L p st)
  | .region _ ops draw, st, K => match draw with
    | false => seqY E ts cb ops ops.toList st fun st => K .normal (rs L p st)
    | true => drawC E ops ops.toList [] st fun st => K .normal (rs L p st)
  | .seq a b, st, K => via (look H (0 :: p)) (evY E ts cb N H L (0 :: p) a) st fun e st => match e with
    | .normal => via (look H (1 :: p)) (evY E ts cb N H L (1 :: p) b) st K
    | e => K e st
  | .cond x a b, st, K => (rdK E x fun v => (.ret v : Cmd A)).cps E st fp0 fun v _ _ => match v with
    | .v .bool t => cond t (via (look H (0 :: p)) (evY E ts cb N H L (0 :: p) a) st (joinK L p K)) (via (look H (1 :: p)) (evY E ts cb N H L (1 :: p) b) st (joinK L p K))
    | _ => none
  | .block id a, st, K => via (look H (0 :: p)) (evY E ts cb N H L (0 :: p) a) st fun e st => match e with
    | .normal => K .normal (rs L p st)
    | .exit j => (match Nat.beq j id with
      | true => K .normal (rs L p st)
      | false => K (.exit j) st)
    | .ret => K .ret st
  | .loop a, st, K => loopC (lookL L p) (via (look H (0 :: p)) (evY E ts cb N H L (0 :: p) a)) N (restr (lookL L p) 0 st) K
  | .exit id, st, K => K (.exit id) (rs L p st)
  | .ret, st, K => K .ret (rs L p st)
  | _, _, _ => none

/-! ## what it means -/

abbrev GY (ts : List T) := Bool → List (denL ts) → List A → Act → World → Prop

def YOk {ts : List T} (G : GY ts) (P : Program) (k : Code) (f : Hd (List (denL ts))) : Prop :=
  ∀ (st : List A) (K : Ex → List A → Option (List (denL ts))) (ys : List (denL ts)) (b : Bool) (a : Act) (w : World) (Q : Exit → Act → World → Prop), f st K = some ys → G b ys st a w →
    (∀ e st' ys' b' a' w', K e st' = some ys' → G b' ys' st' a' w' → Q e.exit' a' w') → k.wp P Q a w

def TabOkY {ts : List T} (G : GY ts) (P : Program) (body : Code) (H : Tab (List (denL ts))) : Prop := ∀ q h, look H q = some h → YOk G P (nodeAt body q) h

def JJ {ts : List T} (J : List (denL ts) → (Nat → Prop) → Hp → World → Prop) (Jx : (Nat → Prop) → Hp → World → Prop) (b : Bool) (ys : List (denL ts)) (O : Nat → Prop) (Sh : Hp) (w : World) : Prop :=
  (b = false → J ys O Sh w) ∧ (b = true → ys = [] ∧ Jx O Sh w)

/-- what an iterator's pieces may lean on -/
abbrev RestrOk {ts : List T} (G : GY ts) : Prop := ∀ (b : Bool) (ys : List (denL ts)) (st : List A) (a : Act) (w : World), G b ys st a w → ∀ live, G b ys (Lift.restr live 0 st) a w
abbrev EvOk {ts : List T} (G : GY ts) (P : Program) (E : Env) (N : Nat) (L : List (List Nat × List Nat)) (body : Code) : Prop :=
  ∀ (H : Tab (List (denL ts))), TabOkY G P body H → ∀ p, YOk G P (nodeAt body p) (evY E ts comb N H L p (nodeAt body p))

/-- the blocks of the loop are O; it reads Sh; the rest is the iterator's -/
def SimG (P : Program) (E : Env) {ts : List T} (J : List (denL ts) → (Nat → Prop) → Hp → World → Prop) (Jx : (Nat → Prop) → Hp → World → Prop) (yv : Value) : GY ts := fun b ys st a w =>
  ∃ O Sh S ob, SimD ⟨w, S, fun b => ¬ O b, [(0, yv)]⟩ st a w S ob ∧ (∀ b, O b → b < w.heap.size) ∧ GlobOk E.glob S ∧ Sub Sh S ∧ (∀ b, S b ≠ none → Sh b ≠ none ∨ ¬ O b) ∧
    JJ J Jx b ys O Sh w

section
variable {P : Program} {E : Env} {c : Ctx} {st st' : List A} {fp fp' : FP} {a : Act} {w w' : World} {S : Hp} {ob : Nat → List Nat} {o : Oper}

/-- the same state, seen from another world and context -/
theorem SimD.shift {c' : Ctx} {a' : Act} (h : SimD c st a w S ob) (hw : ∀ b, (S b ≠ none ∨ (∃ i, b ∈ ob i) ∨ markOf b ∈ a.defers) → hp w' b = hp w b)
    (hc : WF c'.w0 c'.B0 w') (hS : Sub c'.S0 S) (hf : ∀ i b, b ∈ ob i → c'.B0 b ∨ c'.w0.heap.size ≤ b) (hn : ∀ b, S b ≠ none → c'.S0 b ≠ none ∨ c'.B0 b ∨ c'.w0.heap.size ≤ b)
    (hm : ∀ D, (c.B0 D ∨ c.w0.heap.size ≤ D) → hp w D ≠ none → c'.B0 D ∨ c'.w0.heap.size ≤ D) (hta : a'.tmps = a.tmps) (hda : a'.defers = a.defers) (hlent : ∀ p ∈ c'.lent, tv a p.1 = p.2) : SimD c' st a' w' S ob := by
  have htv : tv a' = tv a := by funext i; simp only [tv, hta]
  refine ⟨?_, by rw [hta]; exact h.size, ?_, h.refs, h.out, h.inj, h.nd, h.hid, ?_, hS, hf, hn, ?_, hc⟩
  · rw [hda]
    obtain ⟨Ds, e, hnd, hD⟩ := h.defers
    refine ⟨Ds, e, hnd, fun D hDm => ?_⟩
    obtain ⟨h1, h2, h3, h4⟩ := hD D hDm
    refine ⟨?_, h2, h3, hm D h4 (by rw [h1]; simp)⟩
    rw [hw D (.inr (.inr (by rw [e]; exact List.mem_map.2 ⟨D, hDm, rfl⟩)))]; exact h1
  · intro i x hx
    rw [htv]
    exact (h.rel i x hx).mono (Sub.refl _) (fun b hb => hw b (.inr (.inl ⟨i, hb⟩))) (fun _ _ => rfl) (fun r hr b hb => hw b (.inr (.inl ⟨r, h.main hx (A.cell_refs hr) hb⟩)))
  · intro b o hbo
    rw [hw b (.inl (by rw [hbo]; simp))]
    exact h.sub b o hbo
  · intro p hp'
    rw [htv]; exact hlent p hp'

theorem yArgs_inv {α : Type} {r : α × List A × FP} {glob : Nat → Option Dat} (hgl : E.glob = glob) : ∀ (xs : List Operand) (k : List Dat → Cmd α) (st : List A) (fp : FP) (S : Hp) (ob : Nat → List Nat), exec E (yArgs E xs k) st fp = some r → SimD c st a w S ob → GlobOk glob S →
    ∃ l st' fp' S' ob', exec E (k l) st' fp' = some r ∧ SimD c st' a w S' ob' ∧ Sub S S' ∧ TupRel S' l (xs.map a.eval)
  | [], k, st, fp, S, ob, h, hs, hg => ⟨[], st, fp, S, ob, h, hs, Sub.refl _, .nil⟩
  | x :: xs, k, st, fp, S, ob, h, hs, hg => by
    simp only [yArgs] at h
    obtain ⟨A, fp1, h1, hA, _⟩ := rdK_inv h hs (by rw [hgl]; exact hg)
    obtain ⟨d, st1, fp2, S1, ob1, h2, hs1, hS1, hv, _⟩ := datK_inv h1 hs hA
    obtain ⟨l, st2, fp3, S2, ob2, h3, hs2, hS2, ht⟩ := yArgs_inv hgl xs _ _ _ _ _ h2 hs1 (hg.mono hS1)
    exact ⟨d :: l, st2, fp3, S2, ob2, h3, hs2, hS1.trans hS2, .cons (hv.mono hS2) ht⟩

section
variable {ts : List T} {J : List (denL ts) → (Nat → Prop) → Hp → World → Prop} {Jx : (Nat → Prop) → Hp → World → Prop} {l : Nat}

/-- from here on -/
theorem SimG.next {yv : Value} {b : Bool} {ys : List (denL ts)} {O : Nat → Prop} {Sh : Hp} (hJ : ∀ ys, Stable (J ys)) (hJx : Stable Jx) (hO : ∀ b, O b → b < w.heap.size) (hg : GlobOk E.glob S) (hsh : Sub Sh S) (hsep : ∀ b, S b ≠ none → Sh b ≠ none ∨ ¬ O b)
    (hj : JJ J Jx b ys O Sh w) (h : Sim ⟨w, S, fun b => ¬ O b, [(0, yv)]⟩ st a w') : SimG P E J Jx yv b ys st a w' := by
  obtain ⟨S2, ob2, h⟩ := h
  have hwf : WF w (fun b => ¬ O b) w' := h.frame
  have hsub : Sub Sh (hp w') := (hsh.trans h.mono).trans h.sub
  have hge : ∀ b, w.heap.size ≤ b → ¬ O b := fun b hb ho => absurd (hO b ho) (by omega)
  refine ⟨O, Sh, S2, ob2, h.shift (fun _ _ => rfl) (WF.refl _ _) (Sub.refl _) (fun i b hb => .inl ((h.fresh i b hb).elim id (hge b))) (fun b hb => .inl hb) (fun D hD _ => .inl (hD.elim id (hge D))) rfl rfl h.lent, fun b hb => Nat.lt_of_lt_of_le (hO b hb) hwf.size, hg.mono h.mono, hsh.trans h.mono, fun b hb => ?_, ?_⟩
  · rcases h.newS b hb with h1 | h1 | h1
    · exact hsep b h1
    · exact .inr h1
    · exact .inr (hge b h1)
  · exact ⟨fun e => hJ ys _ _ _ _ (hj.1 e) hwf hsub, fun e => ⟨(hj.2 e).1, hJx _ _ _ _ (hj.2 e).2 hwf hsub⟩⟩

theorem SimG.base {yv : Value} {O : Nat → Prop} (hE : EnvOk P E) (hl : E.lent = [0]) (hg : GlobOk E.glob S) : Base P E ⟨w, S, fun b => ¬ O b, [(0, yv)]⟩ := ⟨hE, hg, by rw [hl]; rfl⟩

/-- what yield's round does -/
def YieldOk (P : Program) (J : List (denL ts) → (Nat → Prop) → Hp → World → Prop) (Jx : (Nat → Prop) → Hp → World → Prop) (l : Nat) : Prop :=
  ∀ y ys (O : Nat → Prop) (Sh S1 : Hp) (W1 : World) (vals : Array Value), J (y :: ys) O Sh W1 → Sub Sh S1 → Sub S1 (hp W1) → (∀ b, S1 b ≠ none → Sh b ≠ none ∨ ¬ O b) → TupRel S1 (mkL ts y) vals.toList →
    YieldAt Fence.wide 0 P l vals W1 fun e W' => ∃ O' : Nat → Prop, (∀ b, O b → O' b) ∧ (∀ b, O' b → O b ∨ (W1.heap.size ≤ b ∧ b < W'.heap.size)) ∧ WF W1 O W' ∧ Sub S1 (hp W') ∧
      ((e = .returned (.bool true) ∧ J ys O' S1 W') ∨ (e = .returned (.bool false) ∧ Jx O' S1 W'))

theorem isYield_inv {xs : List Operand} {yv : Value} (h : isYield st o = some xs) (hs : SimD c st a w S ob) (hl : (0, yv) ∈ c.lent) : ∃ k fv, o.op = .call k ∧ k.callee = .value fv ∧ a.eval fv = yv ∧ k.args.toList = xs := by
  unfold isYield at h
  split at h
  case h_2 => cases h
  rename_i k hk
  split at h
  case h_2 => cases h
  rename_i t hc
  have h0 := hs.lent (0, yv) hl
  split at h
  · rename_i r hy
    split at h
    · rename_i hck
      obtain ⟨h1, h2⟩ := and'_true hck
      have := beq_nat h1
      subst this
      simp only [Option.some.injEq] at h
      have hA := hs.rel t _ (getD_at hy (by simp))
      exact ⟨k, _, hk, hc, by show tv a t = yv; rw [hA.1]; exact h0, h⟩
    · cases h
  · split at h
    · rename_i ht
      have := beq_nat ht
      subst this
      simp only [Option.some.injEq] at h
      exact ⟨k, _, hk, hc, h0, h⟩
    · cases h
  · cases h

theorem opY_sound {ys : List (denL ts)} {all : Array Oper} {K : List A → Option (List (denL ts))} {b : Bool} {N : Act → World → Prop} {Q : Exit → Act → World → Prop} (hE : EnvOk P E) (hlent : E.lent = [0]) (hJ : ∀ ys, Stable (J ys)) (hJx : Stable Jx) (hy : YieldOk P J Jx l)
    (h : opY E ts comb all o st K = some ys) (hs : SimG P E J Jx (.func (.yield l) #[] #[]) b ys st a w) (hn : ∀ b' ys' st' a' w', K st' = some ys' → SimG P E J Jx (.func (.yield l) #[] #[]) b' ys' st' a' w' → N a' w') :
    if Region.wanted o (yielded all a.tmps) then o.wpIn (FR none) 0 P a w N Q else N (a.put o.dst undef) w := by
  obtain ⟨O, Sh, S, ob, hs, hO, hg, hsh, hsep, hj⟩ := hs
  have hb : Base P E ⟨w, S, fun b => ¬ O b, [(0, .func (.yield l) #[] #[])]⟩ := SimG.base hE hlent hg
  unfold opY at h
  split at h
  · obtain ⟨_, st1, fp1, h1, h2⟩ := exec_of_cps h
    have hgd := guard_good h1 hb ⟨S, ob, hs⟩
    split
    · rename_i hw
      rw [if_pos hw] at hgd
      exact Oper.wpIn_mono (fun a' w' hs' => hn b ys st1 a' w' h2 (SimG.next hJ hJx hO hg hsh hsep hj hs')) (hgd none Q)
    · rename_i hw
      rw [if_neg hw] at hgd
      exact hn b ys st1 _ _ h2 (SimG.next hJ hJx hO hg hsh hsep hj hgd)
  · rename_i xs hyl
    obtain ⟨k, fv, ho, hc, hv, hxs⟩ := isYield_inv (yv := .func (.yield l) #[] #[]) hyl hs (by simp)
    -- the operation itself
    have hop : ∀ st0, st0 = st → ((yArgs E xs fun l => (.ret l : Cmd (List Dat))).cps E st0 fp0 fun l st1 _ => (unL ts l).bind fun y =>
      comb y ((lay o.dst (.v .bool true)).cps E st1 fp0 fun _ st2 _ => K st2) ((lay o.dst (.v .bool false)).cps E st1 fp0 fun _ st2 _ => K st2)) = some ys → o.wpIn (FR none) 0 P a w N Q := by
      intro st0 e0 hh
      subst e0
      obtain ⟨ld, st1, fp1, h1, h2⟩ := exec_of_cps hh
      obtain ⟨l', st2, fp2, S1, ob1, h3, hs1, hS1, ht⟩ := yArgs_inv (glob := E.glob) rfl _ _ _ _ _ _ h1 hs hg
      have h4 := exec_ret h3
      simp only [Prod.mk.injEq] at h4
      obtain ⟨rfl, rfl, _⟩ := h4
      cases hu : unL ts ld with
      | none => rw [hu] at h2; cases h2
      | some y =>
      rw [hu] at h2
      simp only [Option.bind_some, comb] at h2
      cases hkT : (lay o.dst (.v .bool true)).cps E st1 fp0 fun _ st2 _ => K st2 with
      | none => rw [hkT] at h2; cases h2
      | some lT =>
      rw [hkT] at h2
      simp only [Option.bind_some] at h2
      cases hkF : (lay o.dst (.v .bool false)).cps E st1 fp0 fun _ st2 _ => K st2 with
      | none => rw [hkF] at h2; cases h2
      | some lF =>
      rw [hkF] at h2
      simp only [Option.bind_some] at h2
      cases lF with
      | cons z zs => cases h2
      | nil =>
      simp only [Option.some.injEq] at h2
      subst h2
      cases b with
      | true => cases (hj.2 rfl).1
      | false =>
      have hj := hj.1 rfl
      rw [unL_mk hu] at ht
      have hsep1 : ∀ b, S1 b ≠ none → Sh b ≠ none ∨ ¬ O b := fun b hb => by
        rcases hs1.newS b hb with h1 | h1 | h1
        · exact hsep b h1
        · exact .inr h1
        · exact .inr (fun ho => absurd (hO b ho) (Nat.not_lt.2 h1))
      have hya := hy y lT O Sh S1 w (k.args.map a.eval) hj (hsh.trans hS1) hs1.sub hsep1 (by rw [Array.toList_map, hxs]; exact ht)
      obtain ⟨fn, tmps, assign, body, hrun, hround⟩ := hya
      refine ⟨fun _ _ => trivial, ?_⟩
      have hex : (execOp a.eval o).run P w = .ok (.round l fn tmps assign body) w := by
        simp [execOp, ho, resolve, hc, hv, Deferred.ofValue, invoke, hrun]
      show o.uponIn (FR none) 0 P a N Q ((o.semAt none a.eval).run P w)
      rw [Oper.semAt_none, hex, Oper.uponIn_round]
      refine ⟨fun hd => by simp [FR, Fence.wide] at hd, ?_⟩
      refine (show RoundIn (FR none) 0 P l fn tmps assign body w _ from hround).mono ?_
      rintro e W' ⟨O', hO1, hO2, hwf, hsub, hcase⟩
      -- the state, behind the round
      have hO2' : ∀ b, O' b → b < W'.heap.size := fun b hb => (hO2 b hb).elim (fun h => Nat.lt_of_lt_of_le (hO b h) hwf.size) (fun h => h.2)
      have hnO : ∀ b, ¬ O b → b < w.heap.size → ¬ O' b := fun b hb hlt h => (hO2 b h).elim hb (fun h => absurd hlt (Nat.not_lt.2 h.1))
      have hs2 : SimD ⟨W', S1, fun b => ¬ O' b, [(0, .func (.yield l) #[] #[])]⟩ st1 a W' S1 ob1 := by
        have hob : ∀ i b, b ∈ ob1 i → ¬ O b ∧ b < w.heap.size := fun i b hb => by
          obtain ⟨_, _, o, ho⟩ := hs1.ob_some hb
          have hlt := hp_lt ho
          exact ⟨(hs1.fresh i b hb).elim id (fun h => absurd hlt (Nat.not_lt.2 h)), hlt⟩
        have same : ∀ b, ¬ O b → b < w.heap.size → hp W' b = hp w b := fun b hb hlt => hwf.same b hlt hb
        refine hs1.shift (fun b hb => ?_) (WF.refl _ _) (Sub.refl _) (fun i b hb => .inl (hnO b (hob i b hb).1 (hob i b hb).2)) (fun b hb => .inl hb) (fun D hD hD2 => .inl ?_) rfl rfl hs1.lent
        · rcases hb with hb | ⟨i, hb⟩ | hb
          · cases hx : S1 b with
            | none => exact absurd hx hb
            | some o => rw [hsub b o hx, hs1.sub b o hx]
          · exact same b (hob i b hb).1 (hob i b hb).2
          · obtain ⟨Ds, e, hnd, hDs⟩ := hs1.defers
            rw [e] at hb
            obtain ⟨D2, hm2, e2⟩ := List.mem_map.1 hb
            have e3 : D2 = b := by simpa [markOf] using e2
            subst e3
            obtain ⟨k1, k2, k3, k4⟩ := hDs D2 hm2
            have hlt := hp_lt k1
            exact same D2 (k4.elim id (fun h => absurd hlt (Nat.not_lt.2 h))) hlt
        · cases hx : hp w D with
          | none => exact absurd hx hD2
          | some o =>
            have hlt := hp_lt hx
            exact hnO D (hD.elim id (fun h => absurd hlt (Nat.not_lt.2 h))) hlt
      have hg1 := hg.mono hS1
      have hb2 : Base P E ⟨W', S1, fun b => ¬ O' b, [(0, .func (.yield l) #[] #[])]⟩ := SimG.base hE hlent hg1
      rcases hcase with ⟨rfl, hj'⟩ | ⟨rfl, hj'⟩
      · dsimp only
        obtain ⟨_, st3, fp3, h5, h6⟩ := exec_of_cps hkT
        have := lay_sim h5 hb2 hs2 (o' := []) (v := .bool true) ⟨VR.bool, rfl⟩ (fun b hb => by cases hb)
        exact hn false lT st3 _ _ h6 (SimG.next hJ hJx hO2' hg1 (Sub.refl _) (fun b hb => .inl hb) ⟨fun _ => hj', fun e => by cases e⟩ this)
      · dsimp only
        obtain ⟨_, st3, fp3, h5, h6⟩ := exec_of_cps hkF
        have := lay_sim h5 hb2 hs2 (o' := []) (v := .bool false) ⟨VR.bool, rfl⟩ (fun b hb => by cases hb)
        exact hn true [] st3 _ _ h6 (SimG.next hJ hJx hO2' hg1 (Sub.refl _) (fun b hb => .inl hb) ⟨(fun e => by cases e), fun _ => ⟨rfl, hj'⟩⟩ this)
    have hskip : ∀ st0, st0 = st → ((skipCmd o).cps E st0 fp0 fun _ st' _ => K st') = some ys → N (a.put o.dst undef) w := by
      intro st0 e0 hh
      subst e0
      obtain ⟨_, st1, fp1, h1, h2⟩ := exec_of_cps hh
      exact hn b ys st1 _ _ h2 (SimG.next hJ hJx hO hg hsh hsep hj (skip_sim h1 hb hs))
    unfold guardY at h
    split at h
    · rename_i hgn
      rw [if_pos (by simp [Region.wanted, hgn])]
      exact hop st rfl h
    · rename_i j want hgn
      split at h
      · cases h
      · rename_i d hd
        have hlt : ∀ {y : A}, st.getD d .dead = y → y ≠ .dead → d < a.tmps.size := by
          intro y hy hne
          rw [hs.size]
          exact getD_lt hy hne
        split at h
        · rename_i bb hy'
          have hA := hs.rel d _ (getD_at hy' (by simp))
          have hvb : tv a d = .bool bb := hA.1.bool_inv
          have hyl' := yielded_eq (a := a) hd (hlt hy' (by simp))
          rw [hvb] at hyl'
          have hwant : Region.wanted o (yielded all a.tmps) = (bb == want) := by
            simp only [Region.wanted, hgn, hyl']
            cases bb <;> cases want <;> rfl
          rw [hwant]
          cases want <;> cases bb <;> simp only [cond] at h <;> rw [set_getD hy' (by simp)] at h
          · exact hop st rfl h
          · exact hskip st rfl h
          · exact hskip st rfl h
          · exact hop st rfl h
        · rename_i hy'
          have hA := hs.rel d _ (getD_at hy' (by simp))
          obtain ⟨_, vs, hvb, _⟩ := hA
          have hyl' := yielded_eq (a := a) hd (hlt hy' (by simp))
          rw [hvb] at hyl'
          have hwant : Region.wanted o (yielded all a.tmps) = false := by
            simp only [Region.wanted, hgn, hyl']; rfl
          rw [hwant]
          exact hskip st rfl h
        · cases h

theorem seqY_sound {all : Array Oper} {Q : Exit → Act → World → Prop} (hE : EnvOk P E) (hlent : E.lent = [0]) (hJ : ∀ ys, Stable (J ys)) (hJx : Stable Jx) (hy : YieldOk P J Jx l) : ∀ (os : List Oper) (st : List A) (K : List A → Option (List (denL ts))) (ys : List (denL ts)) (b : Bool) (a : Act) (w : World),
    seqY E ts comb all os st K = some ys → SimG P E J Jx (.func (.yield l) #[] #[]) b ys st a w → (∀ b' ys' st' a' w', K st' = some ys' → SimG P E J Jx (.func (.yield l) #[] #[]) b' ys' st' a' w' → Q .normal a' w') → wpListIn (FR none) 0 P all Q os a w
  | [], st, K, ys, b, a, w, h, hs, hn => hn b ys st a w h hs
  | o :: os, st, K, ys, b, a, w, h, hs, hn => by
    simp only [seqY] at h
    have := opY_sound (N := wpListIn (FR none) 0 P all Q os) (Q := Q) hE hlent hJ hJx hy h hs (fun b' ys' st' a' w' hk hs' => seqY_sound hE hlent hJ hJx hy os st' K ys' b' a' w' hk hs' hn)
    unfold wpListIn
    split
    · rename_i hw
      rw [if_pos hw] at this; exact this
    · rename_i hw
      rw [if_neg hw] at this
      exact ⟨fun _ _ => trivial, this⟩

theorem SimG.restr {yv : Value} {b : Bool} {ys : List (denL ts)} (h : SimG P E J Jx yv b ys st a w) (live : List Nat) : SimG P E J Jx yv b ys (restr live 0 st) a w := by
  obtain ⟨O, Sh, S, ob, hs, rest⟩ := h
  obtain ⟨ob', hs'⟩ := hs.restr live
  exact ⟨O, Sh, S, ob', hs', rest⟩

theorem SimG.rs {yv : Value} {b : Bool} {ys : List (denL ts)} (h : SimG P E J Jx yv b ys st a w) (L : List (List Nat × List Nat)) (p : List Nat) : SimG P E J Jx yv b ys (Lift.rs L p st) a w := by
  unfold Lift.rs
  split
  · exact h.restr _
  · exact h

theorem loopY_sound {G : GY ts} (hG : RestrOk G) {k : Code} {f : Hd (List (denL ts))} (hk : YOk G P k f) (live : List Nat) (Q : Exit → Act → World → Prop) : ∀ (n : Nat) (st : List A) (K : Ex → List A → Option (List (denL ts))) (ys : List (denL ts)) (b : Bool) (a : Act) (w : World), loopC live f n st K = some ys →
    G b ys st a w → (∀ e st' ys' b' a' w', K e st' = some ys' → G b' ys' st' a' w' → Q e.exit' a' w') → k.wp P (Exit.then (Inl P k Q) Q) a w
  | 0, st, K, ys, b, a, w, h, hs, hq => by simp [loopC] at h
  | n + 1, st, K, ys, b, a, w, h, hs, hq => by
    simp only [loopC] at h
    refine hk st _ ys b a w _ h hs fun e st' ys' b' a' w' hK hs' => ?_
    cases e with
    | normal => exact loop_inl (loopY_sound hG hk live Q n _ K ys' b' a' w' hK (hG _ _ _ _ _ hs' live) hq)
    | exit id => exact hq _ _ _ _ _ _ hK hs'
    | ret => exact hq _ _ _ _ _ _ hK hs'

theorem TabOkY.nil {G : GY ts} {body : Code} : TabOkY G P body [] := fun q h e => by cases e

theorem TabOkY.cons {G : GY ts} {body : Code} {q : List Nat} {k : Hd (List (denL ts))} {H : Tab (List (denL ts))} (h : YOk G P (nodeAt body q) k) (ht : TabOkY G P body H) : TabOkY G P body ((q, k) :: H) := by
  intro q' h' e
  simp only [look] at e
  split at e
  · rename_i hq
    cases e
    rw [← eqL_eq hq]; exact h
  · exact ht q' h' e

theorem viaY_ok {G : GY ts} {body k : Code} {H : Tab (List (denL ts))} {q : List Nat} {f : Hd (List (denL ts))} (hH : TabOkY G P body H) (hq : nodeAt body q = k) (hf : YOk G P k f) : YOk G P k (via (look H q) f) := by
  cases hl : look H q with
  | none => exact hf
  | some h => rw [← hq]; exact hH q h hl

theorem evY_sound (hE : EnvOk P E) (hlent : E.lent = [0]) (hJ : ∀ ys, Stable (J ys)) (hJx : Stable Jx) (hy : YieldOk P J Jx l) (N : Nat) (H : Tab (List (denL ts))) (L : List (List Nat × List Nat)) (body : Code) (hH : TabOkY (SimG P E J Jx (.func (.yield l) #[] #[])) P body H) (p : List Nat) :
    ∀ (k : Code), nodeAt body p = k → YOk (SimG P E J Jx (.func (.yield l) #[] #[])) P k (evY E ts comb N H L p k) := by
  intro k
  induction k generalizing p with
  | skip => exact fun _ st K ys b a w Q h hs hq => wp_skip (hq .normal _ _ _ _ _ h (hs.rs _ _))
  | region id ops draw =>
    intro _ st K ys b a w Q h hs hq
    cases draw with
    | false =>
      simp only [evY] at h
      refine (wpIn_wide (n := 0)).1 (wpIn_region_list (F := Fence.wide) ?_)
      exact seqY_sound hE hlent hJ hJx hy _ _ _ _ _ _ _ h hs (fun b' ys' st' a' w' hk hs' => hq .normal _ _ _ _ _ hk (hs'.rs _ _))
    | true =>
      simp only [evY] at h
      obtain ⟨O, Sh, S, ob, hs, hO, hg, hsh, hsep, hj⟩ := hs
      have hb : Base P E ⟨w, S, fun b => ¬ O b, [(0, .func (.yield l) #[] #[])]⟩ := SimG.base hE hlent hg
      obtain ⟨st', hK, hw⟩ := draw_sound (id := id) hb h
      refine (wpIn_wide (n := 0)).1 (hw none Q a w ⟨S, ob, hs⟩ fun a' w' hs' => ?_)
      exact hq .normal _ _ _ _ _ hK ((SimG.next hJ hJx hO hg hsh hsep hj hs').rs _ _)
  | seq x z ihx ihz =>
    intro hp st K ys b a w Q h hs hq
    have hx := viaY_ok hH (q := 0 :: p) (by simp only [nodeAt, hp, child]) (ihx (0 :: p) (by simp only [nodeAt, hp, child]))
    have hz := viaY_ok hH (q := 1 :: p) (by simp only [nodeAt, hp, child]) (ihz (1 :: p) (by simp only [nodeAt, hp, child]))
    simp only [evY] at h
    refine wp_seq (hx st _ ys b a w _ h hs fun e st' ys' b' a' w' hK hs' => ?_)
    cases e with
    | normal => exact hz st' K ys' b' a' w' Q hK hs' hq
    | exit id => exact hq _ _ _ _ _ _ hK hs'
    | ret => exact hq _ _ _ _ _ _ hK hs'
  | cond x t e iht ihe =>
    intro hp st K ys b a w Q h hs hq
    have ht := viaY_ok hH (q := 0 :: p) (by simp only [nodeAt, hp, child]) (iht (0 :: p) (by simp only [nodeAt, hp, child]))
    have he := viaY_ok hH (q := 1 :: p) (by simp only [nodeAt, hp, child]) (ihe (1 :: p) (by simp only [nodeAt, hp, child]))
    simp only [evY] at h
    obtain ⟨v, st1, fp1, h1, h2⟩ := exec_of_cps h
    have hq' : ∀ e st' ys' b' a' w', joinK L p K e st' = some ys' → SimG P E J Jx (.func (.yield l) #[] #[]) b' ys' st' a' w' → Q e.exit' a' w' := by
      intro e st' ys' b' a' w' hK hs'
      cases e with
      | normal => exact hq .normal _ _ _ _ _ hK (hs'.rs _ _)
      | exit id => exact hq (.exit id) _ _ _ _ _ hK hs'
      | ret => exact hq .ret _ _ _ _ _ hK hs'
    split at h2
    · rename_i bb
      have hev : a.eval x = .bool bb := by
        obtain ⟨O, Sh, S, ob, hs, hO, hg, hsh, hsep, hj⟩ := hs
        obtain ⟨A, fp', h3, hA, _⟩ := rdK_inv h1 hs hg
        have := exec_ret h3
        simp only [Prod.mk.injEq] at this
        rw [← this.1] at hA
        exact hA.1.bool_inv
      cases bb with
      | true =>
        simp only [cond] at h2
        exact wp_cond_true hev (ht st _ ys b a w Q h2 hs hq')
      | false =>
        simp only [cond] at h2
        exact wp_cond_false hev (he st _ ys b a w Q h2 hs hq')
    · cases h2
  | block id x ihx =>
    intro hp st K ys b a w Q h hs hq
    have hx := viaY_ok hH (q := 0 :: p) (by simp only [nodeAt, hp, child]) (ihx (0 :: p) (by simp only [nodeAt, hp, child]))
    simp only [evY] at h
    refine wp_block (hx st _ ys b a w _ h hs fun e st' ys' b' a' w' hK hs' => ?_)
    cases e with
    | normal => exact hq .normal _ _ _ _ _ hK (hs'.rs _ _)
    | exit j =>
      dsimp only at hK
      split at hK
      · rename_i hj
        have hj := beq_nat hj
        subst hj
        simp only [Ex.exit', Exit.inBlock, if_true]
        exact hq .normal _ _ _ _ _ hK (hs'.rs _ _)
      · rename_i hj
        have hj : j ≠ id := fun e => by subst e; simp [Nat.beq_refl] at hj
        simp only [Ex.exit', Exit.inBlock, if_neg hj]
        exact hq (.exit j) _ _ _ _ _ hK hs'
    | ret => exact hq .ret _ _ _ _ _ hK hs'
  | loop x ihx =>
    intro hp st K ys b a w Q h hs hq
    have hx := viaY_ok hH (q := 0 :: p) (by simp only [nodeAt, hp, child]) (ihx (0 :: p) (by simp only [nodeAt, hp, child]))
    simp only [evY] at h
    exact loop_wp (loopY_sound (fun _ _ _ _ _ h live => h.restr live) hx _ Q _ _ K ys b a w h (hs.restr _) hq)
  | exit id => exact fun _ st K ys b a w Q h hs hq => wp_exit (hq (.exit id) _ _ _ _ _ h (hs.rs _ _))
  | ret => exact fun _ st K ys b a w Q h hs hq => wp_ret (hq .ret _ _ _ _ _ h (hs.rs _ _))
  | _ => intro _ st K ys b a w Q h; simp [evY] at h

/-- a piece of an iterator, as a plain function of what the temporaries hold -/
theorem pieceY_ok {G : GY ts} (hG : RestrOk G) {k : Code} {f : Hd (List (denL ts))} {s : List (Nat × AS)} {m : Nat} {g : denS s → (Ex → List A → Option (List (denL ts))) → Option (List (denL ts))} (live : List Nat) (hf : YOk G P k f) (h : ∀ x K, f (mkS s m x) K = g x K) :
    YOk G P k (fun st K => (unS s m (Lift.restr live 0 st)).bind fun x => g x K) := by
  intro st K ys b a w Q hy hs hq
  dsimp only at hy
  cases hu : unS s m (Lift.restr live 0 st) with
  | none => simp only [hu] at hy; cases hy
  | some x =>
    simp only [hu, Option.bind_some] at hy
    rw [← h, ← unS_mk hu] at hy
    exact hf _ K ys b a w Q hy (hG _ _ _ _ _ hs live) hq

theorem loopY_ok {G : GY ts} (hG : RestrOk G) {ι σ : Type} {k : Code} {f : Hd (List (denL ts))} {s : List (Nat × AS)} {m : Nat} (g : ι → σ → (σ → Option (List (denL ts))) → (Ex → List A → Option (List (denL ts))) → Option (List (denL ts))) (live : List Nat) (N : Nat) (pi : denS s → ι) (pv : denS s → σ) (mk : ι → σ → denS s) (hmk : ∀ x, mk (pi x) (pv x) = x) (hf : YOk G P k f)
    (h : ∀ i v rec K, f (mkS s m (mk i v)) (brk live rec K) = g i v (fun v' => rec (mkS s m (mk i v'))) K) :
    YOk G P (.loop k) (fun st K => (unS s m (Lift.restr live 0 st)).bind fun x => iter (fun v r => g (pi x) v r K) N (pv x)) := by
  intro st K ys b a w Q hy hs hq
  dsimp only at hy
  cases hu : unS s m (Lift.restr live 0 st) with
  | none => simp only [hu] at hy; cases hy
  | some x =>
    simp only [hu, Option.bind_some] at hy
    rw [← loopC_iter (mk := fun i v => mkS s m (mk i v)) (live := live) (f := f) h, hmk] at hy
    refine loop_wp (loopY_sound hG hf live Q N _ K ys b a w hy ?_ hq)
    rw [← unS_mk hu]
    exact hG _ _ _ _ _ hs live

end

def evYX (E : Env) (ts : List T) (cb : denL ts → Option (List (denL ts)) → Option (List (denL ts)) → Option (List (denL ts))) (N : Nat) (H : Tab (List (denL ts))) (L : List (List Nat × List Nat)) (fn : Func) (args : List A) : Option (List (denL ts)) :=
  match fn.body with
  | none => none
  | some body => match and' (fn.results.isEmpty) (Nat.blt args.length fn.ntmps) with
    | true => evY E ts cb N H L [] body (.yld :: args.append (undefs (fn.ntmps - (args.length + 1)))) fun e st => match e with
      | .exit _ => none
      | _ => some []
    | false => none

/-- what an iterator over data of type t gives -/
def itv {ts : List T} (t : T) (F : t.den → Option (List (denL ts))) (d : Dat) : Option (List (denL ts)) := match cast d.1 t d.2 with
  | some x => F x
  | none => none

def itRes {ts : List T} (t : T) (F : t.den → Option (List (denL ts))) (d : Dat) : ItRes := ⟨ts, itv t F d⟩

theorem fnArgs_at : ∀ (t : T) (x : t.den) (l : List A) (cs : List Value), fnArgs t x = some l → Rd S t x cs → l.length = cs.length ∧ ∀ (i : Nat) (y : A), l[i]? = some y → ∃ t' z v, y = .v t' z ∧ cs[i]? = some v ∧ VR S t' z v
  | .unit, x, l, cs, h, hr => by
    simp [fnArgs] at h; subst h
    have : cs = [] := hr
    subst this
    exact ⟨rfl, fun i y hy => by simp at hy⟩
  | .pair (.ptr t) b, x, l, cs, h, hr => by
    simp only [fnArgs] at h
    split at h
    · rename_i l' hl'
      cases h
      obtain ⟨c1, c2, e, h1, h2⟩ := hr
      obtain ⟨bk, off, c3, e1, _⟩ := id h1
      subst e1
      subst e
      obtain ⟨k1, k2⟩ := fnArgs_at b x.2 l' c2 hl' h2
      refine ⟨by simp [k1], fun i y hy => ?_⟩
      cases i with
      | zero => simp at hy; subst hy; exact ⟨_, _, _, rfl, rfl, VR.of_one rfl h1⟩
      | succ i => simpa using k2 i y (by simpa using hy)
    · cases h
  | .int _, x, l, cs, h, hr => by simp [fnArgs] at h
  | .bool, x, l, cs, h, hr => by simp [fnArgs] at h
  | .str, x, l, cs, h, hr => by simp [fnArgs] at h
  | .opq, x, l, cs, h, hr => by simp [fnArgs] at h
  | .arr _ _, x, l, cs, h, hr => by simp [fnArgs] at h
  | .sl _, x, l, cs, h, hr => by simp [fnArgs] at h
  | .ptr _, x, l, cs, h, hr => by simp [fnArgs] at h
  | .own _, x, l, cs, h, hr => by simp [fnArgs] at h
  | .any, x, l, cs, h, hr => by simp [fnArgs] at h
  | .byt _, x, l, cs, h, hr => by simp [fnArgs] at h
  | .self _, x, l, cs, h, hr => by simp [fnArgs] at h
  | .fn _ _, x, l, cs, h, hr => by simp [fnArgs] at h
  | .pair (.int _) _, x, l, cs, h, hr => by simp [fnArgs] at h
  | .pair .bool _, x, l, cs, h, hr => by simp [fnArgs] at h
  | .pair .str _, x, l, cs, h, hr => by simp [fnArgs] at h
  | .pair .opq _, x, l, cs, h, hr => by simp [fnArgs] at h
  | .pair .unit _, x, l, cs, h, hr => by simp [fnArgs] at h
  | .pair (.pair _ _) _, x, l, cs, h, hr => by simp [fnArgs] at h
  | .pair (.arr _ _) _, x, l, cs, h, hr => by simp [fnArgs] at h
  | .pair (.sl _) _, x, l, cs, h, hr => by simp [fnArgs] at h
  | .pair (.own _) _, x, l, cs, h, hr => by simp [fnArgs] at h
  | .pair .any _, x, l, cs, h, hr => by simp [fnArgs] at h
  | .pair (.byt _) _, x, l, cs, h, hr => by simp [fnArgs] at h
  | .pair (.self _) _, x, l, cs, h, hr => by simp [fnArgs] at h
  | .pair (.fn _ _) _, x, l, cs, h, hr => by simp [fnArgs] at h

/-- THE CONTRACT OF AN ITERATOR -/
theorem ItOk.of {ts : List T} {f : FuncId} {fn : Func} {body : Code} {N : Nat} {H : Tab (List (denL ts))} {L : List (List Nat × List Nat)} {t : T} {F : t.den → Option (List (denL ts))} (hE : EnvOk P E) (hlent : E.lent = [0]) (hf : P.funcs[f]? = some fn) (hbody : fn.body = some body) (hname : fn.name ≠ "runtime.NumGoroutine")
    (hH : ∀ (G : GY ts), RestrOk G → EvOk G P E N L body → TabOkY G P body H)
    (hF : ∀ x y, F x = some y → ∃ l, fnArgs t x = some l ∧ evYX E ts comb N H L fn l = some y) : ItOk P E.glob f (itRes t F) := by
  refine ⟨⟨fn, hf, by rw [hbody]; rfl, hname⟩, ?_⟩
  intro W S d caps hrd hS hg xs hxs l J Jx hJ hJx hy hj
  dsimp only [itRes, itv] at hxs hy hj J
  cases hc : cast d.1 t d.2 with
  | none => rw [hc] at hxs; cases hxs
  | some x =>
  rw [hc] at hxs
  dsimp only at hxs
  obtain ⟨args, hargs, hev⟩ := hF x xs hxs
  obtain ⟨hlen, hat⟩ := fnArgs_at t x args caps.toList hargs (cast_Rd hc hrd)
  unfold evYX at hev
  rw [hbody] at hev
  dsimp only at hev
  split at hev
  case h_2 => cases hev
  rename_i hck
  obtain ⟨hres, hnt⟩ := and'_true hck
  have hnt : args.length < fn.ntmps := by simpa using hnt
  have hresE : fn.results = #[] := by simpa using hres
  have happ : args.append (undefs (fn.ntmps - (args.length + 1))) = args ++ undefs (fn.ntmps - (args.length + 1)) := rfl
  rw [happ] at hev
  let yv : Value := .func (.yield l) #[] #[]
  let O : Nat → Prop := fun b => b < W.heap.size
  let c : Ctx := ⟨W, S, fun b => ¬ O b, [(0, yv)]⟩
  have hlen' : args.length = caps.size := by simpa using hlen
  let a0 : Act := { tmps := (#[yv] ++ caps) ++ Array.replicate (fn.ntmps - (#[yv] ++ caps).size) undef, defers := [] }
  have htv : ∀ i, tv a0 i = (yv :: caps.toList).getD i undef := by
    intro i
    simp only [tv, a0, Array.getD_eq_getD_getElem?, List.getD_eq_getElem?_getD]
    by_cases hi : i < (#[yv] ++ caps).size
    · rw [Array.getElem?_append_left hi]
      congr 1
      rw [← Array.getElem?_toList]; simp
    · rw [Array.getElem?_append_right (by omega), List.getElem?_eq_none (by simp at hi ⊢; omega), Array.getElem?_replicate]
      split <;> rfl
  have hs0 : SimD c (.yld :: (args ++ undefs (fn.ntmps - (args.length + 1)))) a0 W S (fun _ => []) := by
    refine ⟨⟨[], rfl, .nil, fun D hD => by cases hD⟩, ?_, ?_, ?_, fun _ _ => rfl, fun i j b h => (by cases h), fun _ => .nil, fun i b h => (by cases h), hS, Sub.refl _, fun i b h => (by cases h), fun b h => .inl h, ?_, WF.refl _ _⟩
    · simp [a0, undefs_length]; omega
    · intro i y hy
      rw [htv]
      cases i with
      | zero => simp at hy; subst hy; exact ⟨rfl, rfl⟩
      | succ i =>
        simp only [List.getElem?_cons_succ] at hy
        by_cases hi : i < args.length
        · rw [List.getElem?_append_left hi] at hy
          obtain ⟨t', z, v, rfl, hv, hvr⟩ := hat i y hy
          refine ⟨?_, rfl⟩
          simp [List.getD, hv]; exact hvr
        · rw [List.getElem?_append_right (by omega), undefs_at] at hy
          split at hy
          · simp only [Option.some.injEq] at hy
            subst hy
            refine ⟨rfl, #[], ?_, .nil⟩
            have : (yv :: caps.toList)[i + 1]? = none := by rw [List.getElem?_eq_none]; simp; omega
            simp only [List.getD_eq_getElem?_getD, this]; rfl
          · cases hy
    · intro i y r hy hr
      cases i with
      | zero => simp at hy; subst hy; cases hr
      | succ i =>
        simp only [List.getElem?_cons_succ] at hy
        by_cases hi : i < args.length
        · rw [List.getElem?_append_left hi] at hy
          obtain ⟨t', z, v, rfl, _⟩ := hat i y hy
          cases hr
        · rw [List.getElem?_append_right (by omega), undefs_at] at hy
          split at hy
          · simp only [Option.some.injEq] at hy
            subst hy; cases hr
          · cases hy
    · intro p hp'
      have : p = (0, yv) := by simpa [c] using hp'
      subst this
      rw [htv]; rfl
  have hev1 := fun (H : Tab (List (denL ts))) hH p => evY_sound (P := P) (E := E) (J := J) (Jx := Jx) (l := l) hE hlent hJ hJx hy N H L body hH p (nodeAt body p) rfl
  have hev0 := evY_sound (P := P) (E := E) (J := J) (Jx := Jx) (l := l) hE hlent hJ hJx hy N H L body (hH _ (fun _ _ _ _ _ h live => h.restr live) hev1) [] body rfl
  refine callsIn_wide.1 (callsIn_of_wp_marks (n := 0) hf hbody trivial (wpIn_wide.2 (hev0 _ _ _ false a0 W _ hev ⟨O, S, S, _, hs0, fun b hb => hb, hg, Sub.refl _, fun b hb => .inl hb, ⟨fun _ => hj, fun e => by cases e⟩⟩ ?_)))
  rintro e st1 ys' b' a1 w1 hK ⟨O1, Sh1, S1, ob1, hs1, hO1, hg1, hsh1, hsep1, hj1⟩
  have hne : (e = .normal ∨ e = .ret) ∧ ys' = [] := by
    cases e with
    | exit id => cases hK
    | normal => exact ⟨.inl rfl, by simpa using hK.symm⟩
    | ret => exact ⟨.inr rfl, by simpa using hK.symm⟩
  obtain ⟨hee, rfl⟩ := hne
  have key : LeavesInM Fence.wide 0 P fn a1.tmps (fun e w' => (∃ v, e = .returned v) ∧ ∃ O Sh, J [] O Sh w' ∨ Jx O Sh w') a1.defers .returning w1 := by
    refine leaves_marks a1.defers a1 w1 rfl rfl hs1 ?_
    intro a' w' hta hs2
    refine ⟨.tuple #[], ?_, ⟨_, rfl⟩, O1, Sh1, ?_⟩
    · rw [results_eq, hresE]; simp
    · have hwf : WF w1 (fun b => ¬ O1 b) w' := hs2.frame
      have hsub : Sub Sh1 (hp w') := hsh1.trans hs2.sub
      cases b' with
      | false => exact .inl (hJ [] _ _ _ _ (hj1.1 rfl) hwf hsub)
      | true => exact .inr (hJx _ _ _ _ (hj1.2 rfl).2 hwf hsub)
  rcases hee with rfl | rfl <;> exact key
end
end Go.Lift

/- Tables: what types are, what callees do, out of lists; what results are. -/
set_option linter.all false
namespace Go.Lift

def lk.{u} {α : Type u} : List (Nat × α) → Nat → Option α
  | [], _ => none
  | e :: r, i => match Nat.beq e.1 i with
    | true => some e.2
    | false => lk r i

def noRes : Res := ⟨Unit, none, fun _ => (.dead, [])⟩

def fnOf (l : List (Nat × (List A → Res))) (f : FuncId) (args : List A) : Res := match lk l f with
  | some g => g args
  | none => noRes

def noIt : ItRes := ⟨[], none⟩

def itOf (l : List (Nat × (Dat → ItRes))) (f : FuncId) (d : Dat) : ItRes := match lk l f with
  | some g => g d
  | none => noIt

/-- what is known of a type -/
theorem TyOk.of {P : Program} {i : TypeId} {e : TyI} (h1 : P.underlying i = some e.desc) (h2 : (P.info? i).map (fun f => (f.size, f.bytes, f.zero)) = some (e.size, e.bytes, some (zv e.t e.zero)))
    (h3 : and' (and' (zOk e.t e.zero) (Nat.beq e.t.size e.size)) (aggDesc e.desc == e.t.isAgg) = true) (h6 : (match e.cmp with
      | true => and' (!(P.stoodInHeld i)) (!(P.eqGuardType P.depth i))
      | false => true) = true) : TyOk P i e := by
  obtain ⟨h3, h4⟩ := and'_true h3
  obtain ⟨h3, h5⟩ := and'_true h3
  have hz : ∃ inf, P.info? i = some inf ∧ inf.zero = some (zv e.t e.zero) := by
    cases hi : P.info? i with
    | none => rw [hi] at h2; cases h2
    | some f =>
      rw [hi] at h2
      simp only [Option.map_some, Option.some.injEq, Prod.mk.injEq] at h2
      exact ⟨f, rfl, h2.2.2⟩
  refine ⟨h1, ?_, beqN h5, by simpa using h4, (fun hc => by
    rw [hc] at h6
    obtain ⟨h7, h8⟩ := and'_true h6
    exact ⟨by simpa using h7, by simpa using h8⟩), hz, h3⟩
  cases hi : P.info? i with
  | none => rw [hi] at h2; cases h2
  | some f =>
    rw [hi] at h2
    simp only [Option.map_some, Option.some.injEq, Prod.mk.injEq] at h2
    exact ⟨f, rfl, h2.1, h2.2.1, _, h2.2.2, zv_vr h3⟩

inductive TysOk (P : Program) : List (Nat × TyI) → Prop
  | nil : TysOk P []
  | cons {i : Nat} {e : TyI} {l : List (Nat × TyI)} (h : TyOk P i e) (hs : TysOk P l) : TysOk P ((i, e) :: l)

theorem TysOk.lk {P : Program} {l : List (Nat × TyI)} (h : TysOk P l) : ∀ i e, Lift.lk l i = some e → TyOk P i e := by
  induction h with
  | nil => intro i e h; cases h
  | cons h _ ih =>
    intro i e he
    simp only [Lift.lk] at he
    split at he
    · rename_i hb
      cases he
      rw [← beqN hb]; exact h
    · exact ih i e he

inductive FnsOk (P : Program) (glob : Nat → Option Dat) : List (Nat × (List A → Res)) → Prop
  | nil : FnsOk P glob []
  | cons {f : FuncId} {g : List A → Res} {l : List (Nat × (List A → Res))} (h : Contract P glob f g) (hs : FnsOk P glob l) : FnsOk P glob ((f, g) :: l)

theorem FnsOk.fn {P : Program} {glob : Nat → Option Dat} {l : List (Nat × (List A → Res))} (h : FnsOk P glob l) : ∀ f, (∀ args, (fnOf l f args).val = none) ∨ Contract P glob f (fnOf l f) := by
  induction h with
  | nil => intro f; exact .inl fun args => rfl
  | @cons f g l h _ ih =>
    intro f'
    cases hb : Nat.beq f f' with
    | true =>
      have := beqN hb
      subst this
      refine .inr ?_
      have : fnOf ((f, g) :: l) f = g := by funext args; simp only [fnOf, lk, hb]
      rw [this]; exact h
    | false =>
      have : fnOf ((f, g) :: l) f' = fnOf l f' := by funext args; simp only [fnOf, lk, hb]
      rw [this]; exact ih f'

inductive ItsOk (P : Program) (glob : Nat → Option Dat) : List (Nat × (Dat → ItRes)) → Prop
  | nil : ItsOk P glob []
  | cons {f : FuncId} {g : Dat → ItRes} {l : List (Nat × (Dat → ItRes))} (h : ItOk P glob f g) (hs : ItsOk P glob l) : ItsOk P glob ((f, g) :: l)

theorem ItsOk.it {P : Program} {glob : Nat → Option Dat} {l : List (Nat × (Dat → ItRes))} (h : ItsOk P glob l) : ∀ f, (∀ d, (itOf l f d).val = none) ∨ ItOk P glob f (itOf l f) := by
  induction h with
  | nil => intro f; exact .inl fun args => rfl
  | @cons f g l h _ ih =>
    intro f'
    cases hb : Nat.beq f f' with
    | true =>
      have := beqN hb
      subst this
      refine .inr ?_
      have : itOf ((f, g) :: l) f = g := by funext args; simp only [itOf, lk, hb]
      rw [this]; exact h
    | false =>
      have : itOf ((f, g) :: l) f' = itOf l f' := by funext args; simp only [itOf, lk, hb]
      rw [this]; exact ih f'

/-- the surroundings of a function: the types, the callees, its own temporaries -/
def mkEnv (tys : List (Nat × TyI)) (glob : Nat → Option Dat) (fns : List (Nat × (List A → Res))) (keep : List (Nat × T)) (live lent : List Nat) (ownRes : Bool) (boxT : List (Nat × T)) (its : List (Nat × (Dat → ItRes))) (resO : List T := []) : Env :=
  ⟨lk tys, glob, fnOf fns, lk keep, live, lent, ownRes, lk boxT, itOf its, resO⟩

theorem mkEnv_ok {P : Program} {tys : List (Nat × TyI)} {glob : Nat → Option Dat} {fns : List (Nat × (List A → Res))} {keep : List (Nat × T)} {live lent : List Nat} {ownRes : Bool} {boxT : List (Nat × T)} {its : List (Nat × (Dat → ItRes))} {resO : List T}
    (hm : P.follows .mixedOrders = true) (ht : TysOk P tys) (hf : FnsOk P glob fns) (hi : ItsOk P glob its) :
    EnvOk P (mkEnv tys glob fns keep live lent ownRes boxT its resO) := ⟨ht.lk, hf.fn, hi.it, hm⟩

/-! ## results -/

/-- a result that is a datum, no box having been handed -/
def kRes (s : AS) (m : Nat) (r : A) (outs : List A) : Option s.den := match s.un r with
  | some x => (match unS [] m outs with
    | some _ => some x
    | none => none)
  | none => none

def oRes (s : AS) (m : Nat) (x : s.den) : A × List A := (s.mk x, mkS [] m ())

theorem kRes_ok {s : AS} {m : Nat} : ∀ (r : A) (outs : List A) (y : s.den), kRes s m r outs = some y → (r, outs) = oRes s m y := by
  intro r outs y h
  unfold kRes at h
  split at h
  · rename_i x hx
    split at h
    · rename_i z hz
      cases h
      rw [AS.un_mk hx, unS_mk hz]; rfl
    · cases h
  · cases h

/-- a result, and what the handed boxes hold then -/
def kResB (s : AS) (os : List (Nat × AS)) (m : Nat) (r : A) (outs : List A) : Option (s.den × denS os) := match s.un r with
  | some x => (match unS os m outs with
    | some z => some (x, z)
    | none => none)
  | none => none

def oResB (s : AS) (os : List (Nat × AS)) (m : Nat) (x : s.den × denS os) : A × List A := (s.mk x.1, mkS os m x.2)

theorem kResB_ok {s : AS} {os : List (Nat × AS)} {m : Nat} : ∀ (r : A) (outs : List A) (y : s.den × denS os), kResB s os m r outs = some y → (r, outs) = oResB s os m y := by
  intro r outs y h
  unfold kResB at h
  split at h
  · rename_i x hx
    split at h
    · rename_i z hz
      cases h
      rw [AS.un_mk hx, unS_mk hz]; rfl
    · cases h
  · cases h

def noGlob : Nat → Option Dat := fun _ => none
theorem noGlob_ok (S : Hp) : GlobOk noGlob S := fun g d h => by cases h
end Go.Lift

/- From a law's plain function to the law's call. -/
set_option linter.all false
namespace Go.Lift
open Go.RowKit

theorem law_calls {H : Type} {enc : TypeId × Value → H} {P : Program} {W : World} {base b0 : Nat} {r : Reach} {spare : Nat → Bool} {held : Bool} {glob : Nat → Option Dat} {f : FuncId} {us : List T} {ts : List TypeId} {m : Nat}
    {F : Nat → denS (argsS us) → Option Bool} {args : Array Value} {ds : List (DataW H)} {p : List MemPlace}
    (hm : mtAll P us ts = true) (hc : ∀ N, Contract P glob f (resOf (argsS us) (F N) (oRes (.v .bool) m))) (hF : ∀ x, WfS us x → ∃ N, F N x = some true) (hg : GlobOk glob (hp W))
    (hval : ∀ (j : Nat) t v, ts[j]? = some t → args[j]? = some v → Value.okWide P W r b0 t v) (hA : DataW.TrodAll enc P W base spare held ts args.toList ds p) :
    Calls P f args W fun e w' => e = .returned (.bool true) ∧ Below W.heap.size W w' := by
  obtain ⟨x, hx, hw⟩ := open_all (us := us) hm (fun j t v ht hv => hval j t v ht (by simpa using hv)) hA
  obtain ⟨N, hN⟩ := hF x hw
  exact law_of (hc N) (fun _ => rfl) hx hg hN unS_args
end Go.Lift

