/- Assignments, ranges over strings, calls; and all operations together. -/
import Derived.Test.YtpnjnnhedadjgaaDoorLfM
set_option linter.all false
namespace Go.Lift
section
variable {P : Program} {E : Env} {c : Ctx} {st st' : List A} {fp fp' : FP} {a : Act} {w w' : World} {S : Hp} {ob : Nat → Option Nat} {o : Oper}

theorem set_good {t : Nat} {x : A} {v : Value} {o' : Option Nat} (hrun : (execOp a.eval o).run P w = .ok (.value v) w') (ho : o.dst = some t) (h : exec E (.set t x (.ret ())) st fp = some ((), st', fp')) (hb : Base P E c) (hs : SimD c st a w' S ob)
    (hx : ARel (hp w') S (tv a) x v o') (hob : ∀ b, o' = some b → (∀ i, ob i ≠ some b) ∧ S b = none ∧ (c.B0 b ∨ c.w0.heap.size ≤ b)) : Good P c o a w st' := by
  obtain ⟨fp1, h1, hs1⟩ := set_sim h hb hs hx hob
  obtain rfl := (exec_ret' h1).2
  refine good_value hrun ?_
  rw [ho]
  exact ⟨_, _, hs1⟩

/-- an owner's block, once the owner has been struck -/
theorem dropped_free (hs : SimD c st a w S ob) {s b : Nat} (h : ob s = some b) : (∀ i, (fun i => if i = s then none else ob i) i ≠ some b) ∧ S b = none ∧ (c.B0 b ∨ c.w0.heap.size ≤ b) := by
  refine ⟨fun i e => ?_, hs.hid _ _ h, hs.fresh _ _ h⟩
  dsimp only at e
  split at e
  · cases e
  · rename_i hne; exact hne (hs.inj i s b e h)

theorem asg_good {x : Operand} (ho : o.op = .assign x) (h : exec E (opCmd E o) st fp = some ((), st', fp')) (hb : Base P E c) (hs : SimD c st a w S ob) : Good P c o a w st' := by
  simp only [opCmd, ho] at h
  unfold asgCmd at h
  have hrun : (execOp a.eval o).run P w = .ok (.value (a.eval x)) w := by simp [execOp, ho]
  split at h
  · exact (exec_fail h).elim
  rename_i d hd
  have hnil : ∀ {st1 : List A} {fp1 : FP}, SimD c st1 a w S ob → a.eval x = .slice none 0 0 → exec E (match E.keep d with
      | some t => (.set d (.row t []) (.ret ()) : Cmd Unit)
      | none => .set d .nilsl (.ret ())) st1 fp1 = some ((), st', fp') → Good P c o a w st' := by
    intro st1 fp1 hs1 ex h1
    split at h1
    · exact set_good hrun hd h1 hb hs1 (o' := none) (.inl ⟨rfl, ex, rfl⟩) (fun b e => by cases e)
    · exact set_good hrun hd h1 hb hs1 (o' := none) ⟨ex, rfl⟩ (fun b e => by cases e)
  have own : ∀ {s : Nat} {y : A} {fp1 : FP}, x = .tmp s → st.getD s .dead = y → y.own = true → exec E (.set s .dead (.set d y (.ret ()))) st fp1 = some ((), st', fp') → Good P c o a w st' := by
    intro s y fp1 hx hy hyo h1
    obtain ⟨hok, fp2, h2⟩ := exec_set h1
    obtain ⟨hlt, _, _⟩ := okSet_parts hok
    have hrel := hs.rel s y (getD_at hy (fun e => by subst e; simp [A.own] at hyo))
    have ev : a.eval x = tv a s := by rw [hx]; rfl
    rw [ev] at hrun
    exact set_good hrun hd h2 hb (hs.drop hlt) hrel (fun b e => dropped_free hs e)
  split at h
  · rename_i s
    obtain ⟨fp1, h1⟩ := exec_get h
    clear h
    have ev : a.eval (.tmp s) = tv a s := rfl
    generalize hy : st.getD s .dead = y at h1
    cases y <;> dsimp only at h1
    case row t xs =>
      split at h1
      · split at h1
        · exact (exec_fail h1).elim
        · exact own rfl hy rfl h1
      · obtain ⟨fp2, h2⟩ := exec_retire h1
        obtain ⟨S', hS, hv, hs'⟩ := hs.retire (getD_at hy (by simp))
        rw [ev] at hrun
        exact set_good hrun hd h2 hb hs' (o' := none) ⟨hv, rfl⟩ (fun b e => by cases e)
    case box t z =>
      split at h1
      · exact (exec_fail h1).elim
      · exact own rfl hy rfl h1
    case iter => exact (exec_fail h1).elim
    case bor r =>
      obtain ⟨fp2, h2⟩ := exec_get h1
      clear h1
      split at h2
      · rename_i t xs hr
        obtain ⟨fp3, h3⟩ := exec_retire h2
        obtain ⟨S', hS, hv, hs'⟩ := hs.retire (getD_at hr (by simp))
        have hA := hs.rel s _ (getD_at hy (by simp))
        rw [ev, hA.1] at hrun
        exact set_good hrun hd h3 hb hs' (o' := none) ⟨hv, rfl⟩ (fun b e => by cases e)
      · exact (exec_fail h2).elim
    case nilsl =>
      have hA := hs.rel s _ (getD_at hy (by simp))
      exact hnil hs (by rw [ev]; exact hA.1) h1
    case dead => exact (exec_fail h1).elim
    case v t z =>
      have hA := hs.rel s _ (getD_at hy (by simp))
      rw [ev] at hrun
      exact set_good hrun hd h1 hb hs (o' := none) ⟨hA.1, rfl⟩ (fun b e => by cases e)
    case adr r t p =>
      have hA := hs.rel s _ (getD_at hy (by simp))
      have hn := hA.1
      rw [ev] at hrun
      rw [hn] at hA
      exact set_good hrun hd h1 hb hs (o' := none) hA (fun b e => by cases e)
    case tup l =>
      have hA := hs.rel s _ (getD_at hy (by simp))
      have hn := hA.1
      rw [ev] at hrun
      rw [hn] at hA
      exact set_good hrun hd h1 hb hs (o' := none) hA (fun b e => by cases e)
  · obtain ⟨A, fp1, h1, hA, hAo, hAd, hAr⟩ := rdK_inv h hs (hb.globS hs)
    clear h
    split at h1
    · exact hnil hs hA.1 h1
    · exact set_good hrun hd h1 hb hs hA (fun b e => by cases e)

theorem range_good {t : TypeId} {x : Operand} (ho : o.op = .range t x) (h : exec E (opCmd E o) st fp = some ((), st', fp')) (hb : Base P E c) (hs : SimD c st a w S ob) : Good P c o a w st' := by
  simp only [opCmd, ho] at h
  unfold rangeCmd at h
  obtain ⟨e, he, h0⟩ := tyK_inv h
  obtain ⟨A, fp1, h1, hA, hAo, hAd, hAr⟩ := rdK_inv h0 hs (hb.globS hs)
  clear h h0
  split at h1
  · rename_i x1 a0 s hstr
    have hu := strT hb.env he hstr
    have ex : a.eval x = .string ⟨⟨s⟩⟩ := hA.1.str_inv
    obtain ⟨g1, g2, g3, g4⟩ := hs.pushed (.stringIter ⟨⟨s⟩⟩ 0)
    refine good_value (v := .pointer (some ⟨w.heap.size, 0, none⟩)) (w' := pushed w (.stringIter ⟨⟨s⟩⟩ 0)) ?_ (lay_sim h1 hb g1 (o' := some w.heap.size) ⟨w.heap.size, none, rfl, rfl, hp_pushed _ _⟩ (fun b e => by cases e; exact ⟨g2, g3, g4⟩))
    simp [execOp, ho, Instr.range, run_underlying hu, ex]
    rfl
  · exact (exec_fail h1).elim

theorem run_setObj {b : Nat} {o o' : Obj} (h : hp w b = some o') (hc : ∀ cs E fr, o' ≠ .cells cs E fr) : (setObj b o).run P w = .ok () (setObj' w b o) := by
  simp only [hp] at h
  simp only [setObj, Sem.run, h]
  cases o' <;> first
    | exact absurd rfl (hc _ _ _)
    | rfl

theorem next_good {x : Operand} {isS : Bool} (ho : o.op = .next x isS) (h : exec E (opCmd E o) st fp = some ((), st', fp')) (hb : Base P E c) (hs : SimD c st a w S ob) : Good P c o a w st' := by
  simp only [opCmd, ho] at h
  unfold nextCmd at h
  split at h
  · exact (exec_fail h).elim
  obtain ⟨A, fp1, h1, hA, hAo, hAd, hAr⟩ := rdK_inv h hs (hb.globS hs)
  clear h
  split at h1
  · rename_i r
    obtain ⟨fp2, h2⟩ := exec_get h1
    clear h1
    split at h2
    · rename_i s pos hy
      obtain ⟨b, sp, hob, hv, hcs⟩ := hs.rel r _ (getD_at hy (by simp))
      have ex : a.eval x = .pointer (some ⟨b, 0, sp⟩) := by rw [hA.1, hv]
      have hget : (getObj b).run P w = .ok (.stringIter ⟨⟨s⟩⟩ pos) w := by
        simp only [hp] at hcs
        simp [getObj, Sem.run, hcs]
      rcases exec_test h2 with ⟨hc, h3⟩ | ⟨hc, h3⟩
      · have hc := of_decide_eq_true hc
        obtain ⟨hlt, fp3, h4⟩ := exec_cont h3
        have hs1 := hs.content (w' := setObj' w b (.stringIter ⟨⟨s⟩⟩ (pos + (runeAt s pos).2))) (x := .iter s (pos + (runeAt s pos).2)) hlt hob ⟨b, sp, rfl, hv, hp_setObj hcs⟩ rfl (fun b' hne => hp_setObj_ne hne) (hs.frame.setObj (hs.fresh _ _ hob) _)
        refine good_value (v := .tuple #[.bool true, goInt pos, .int .i32 (runeAt s pos).1]) ?_ (lay_sim h4 hb hs1 (o' := none) ⟨rfl, _, rfl, .cons VR.bool (.cons VR.int (.cons VR.int .nil))⟩ (fun b e => by cases e))
        simp [execOp, ho, Instr.next, ex, hget, size_str, hc, run_setObj hcs, runeAt]
      · have hc := of_decide_eq_false hc
        refine good_value (v := .tuple #[.bool false]) (w' := w) ?_ (lay_sim h3 hb hs (o' := none) ⟨rfl, _, rfl, .cons VR.bool .nil⟩ (fun b e => by cases e))
        simp [execOp, ho, Instr.next, ex, hget, size_str, hc]
    · exact (exec_fail h2).elim
  · exact (exec_fail h1).elim

/-! ## calls -/

/-- the arguments of a call: data, and boxes that owners in st hand down -/
inductive ArgsL (a : Act) (st : List A) (S : Hp) : Nat → List A → List Value → List (Nat × Nat) → Prop
  | nil {i : Nat} : ArgsL a st S i [] [] []
  | v {i : Nat} {t : T} {x : t.den} {v : Value} {l : List A} {vs : List Value} {b : List (Nat × Nat)} (hv : VR S t x v) (h : ArgsL a st S (i + 1) l vs b) : ArgsL a st S i (.v t x :: l) (v :: vs) b
  | nilsl {i : Nat} {l : List A} {vs : List Value} {b : List (Nat × Nat)} (h : ArgsL a st S (i + 1) l vs b) : ArgsL a st S i (.nilsl :: l) (.slice none 0 0 :: vs) b
  | box {i s : Nat} {t : T} {x : t.den} {l : List A} {vs : List Value} {b : List (Nat × Nat)} (hs : st[s]? = some (.box t x)) (h : ArgsL a st S (i + 1) l vs b) : ArgsL a st S i (.box t x :: l) (tv a s :: vs) ((s, i) :: b)

structure Ev (st st' : List A) (S S' : Hp) : Prop where
  sub : Sub S S'
  box : ∀ (s : Nat) (t : T) (x : t.den), st[s]? = some (.box t x) → st'[s]? = some (.box t x)

theorem Ev.refl (st : List A) (S : Hp) : Ev st st S S := ⟨Sub.refl _, fun _ _ _ h => h⟩
theorem Ev.trans {st1 st2 st3 : List A} {S1 S2 S3 : Hp} (h : Ev st1 st2 S1 S2) (h' : Ev st2 st3 S2 S3) : Ev st1 st3 S1 S3 := ⟨h.sub.trans h'.sub, fun s t x e => h'.box s t x (h.box s t x e)⟩

theorem ev_ret {st : List A} {S S' : Hp} (hS : Sub S S') {r : Nat} {t : T} {xs : List t.den} (hr : st.getD r .dead = .row t xs) : Ev st (retSt st r) S S' := by
  refine ⟨hS, fun s u x e => ?_⟩
  have est : retSt st r = (st.map (retA r t xs)).set r (.v (.sl t) xs) := by unfold retSt; rw [hr]
  have hne : s ≠ r := fun e' => by
    subst e'
    have := getD_at hr (by simp)
    rw [e] at this; cases this
  rw [est, List.getElem?_set_ne (Ne.symm hne), List.getElem?_map, e]
  rfl

theorem ArgsL.mono {a : Act} {st st' : List A} {S S' : Hp} (h : Ev st st' S S') {i : Nat} {l : List A} {vs : List Value} {b : List (Nat × Nat)} (ha : ArgsL a st S i l vs b) : ArgsL a st' S' i l vs b := by
  induction ha with
  | nil => exact .nil
  | v hv _ ih => exact .v (hv.mono h.sub) ih
  | nilsl _ ih => exact .nilsl ih
  | box hs _ ih => exact .box (h.box _ _ _ hs) ih

theorem argsK_inv {α : Type} {r : α × List A × FP} (hb : Base P E c) : ∀ (xs : List Operand) (i : Nat) (k : List A → List (Nat × Nat) → Cmd α) (st : List A) (fp : FP) (S : Hp) (ob : Nat → Option Nat),
    exec E (argsK E xs i k) st fp = some r → SimD c st a w S ob →
    ∃ l b st' fp' S' ob', exec E (k l b) st' fp' = some r ∧ SimD c st' a w S' ob' ∧ Ev st st' S S' ∧ ArgsL a st' S' i l (xs.map a.eval) b
  | [], i, k, st, fp, S, ob, h, hs => ⟨[], [], st, fp, S, ob, h, hs, Ev.refl _ _, .nil⟩
  | x :: xs, i, k, st, fp, S, ob, h, hs => by
    simp only [argsK] at h
    obtain ⟨A, fp1, h1, hA, hAo, hAd, hAr⟩ := rdK_inv h hs (hb.globS hs)
    clear h
    split at h1
    · rename_i s
      obtain ⟨fp2, h2⟩ := exec_get h1
      clear h1
      split at h2
      · rename_i t ys hy
        obtain ⟨fp3, h3⟩ := exec_retire h2
        obtain ⟨S1, hS, hv, hs1⟩ := hs.retire (getD_at hy (by simp))
        obtain ⟨l, b, st2, fp4, S2, ob2, h4, hs2, hev, hl⟩ := argsK_inv hb xs (i + 1) _ _ _ _ _ h3 hs1
        refine ⟨_, _, st2, fp4, S2, ob2, h4, hs2, (ev_ret hS hy).trans hev, .v ?_ hl⟩
        rw [hA.1]; exact hv.mono hev.sub
      · rename_i t y hy
        obtain ⟨l, b, st2, fp4, S2, ob2, h4, hs2, hev, hl⟩ := argsK_inv hb xs (i + 1) _ _ _ _ _ h2 hs
        refine ⟨_, _, st2, fp4, S2, ob2, h4, hs2, hev, ?_⟩
        rw [List.map_cons, hA.1]
        exact .box (hev.box _ _ _ (getD_at hy (by simp))) hl
      · exact (exec_fail h2).elim
    · rename_i t y
      obtain ⟨l, b, st2, fp4, S2, ob2, h4, hs2, hev, hl⟩ := argsK_inv hb xs (i + 1) _ _ _ _ _ h1 hs
      exact ⟨_, _, st2, fp4, S2, ob2, h4, hs2, hev, .v (hA.1.mono hev.sub) hl⟩
    · obtain ⟨l, b, st2, fp4, S2, ob2, h4, hs2, hev, hl⟩ := argsK_inv hb xs (i + 1) _ _ _ _ _ h1 hs
      refine ⟨_, _, st2, fp4, S2, ob2, h4, hs2, hev, ?_⟩
      rw [List.map_cons, hA.1]
      exact .nilsl hl
    · exact (exec_fail h1).elim

/-- the block of argument i -/
def obA (b : List (Nat × Nat)) (ob : Nat → Option Nat) (i : Nat) : Option Nat := (b.find? (fun p => Nat.beq p.2 i)).bind fun p => ob p.1

theorem ArgsL.places {a : Act} {st : List A} {S : Hp} {i : Nat} {l : List A} {vs : List Value} {b : List (Nat × Nat)} (h : ArgsL a st S i l vs b) :
    l.length = vs.length ∧ (∀ p ∈ b, i ≤ p.2 ∧ p.2 < i + l.length) ∧
    (∀ (j : Nat) (x : A), l[j]? = some x → ∃ v, vs[j]? = some v ∧ x.ref = none ∧ ((∃ s t y, x = .box t y ∧ v = tv a s ∧ st[s]? = some (.box t y) ∧ b.find? (fun p => Nat.beq p.2 (i + j)) = some (s, i + j)) ∨
      (isBoxA x = false ∧ b.find? (fun p => Nat.beq p.2 (i + j)) = none ∧ ∀ h tv', ARel h S tv' x v none))) ∧
    (∀ p ∈ b, ∃ t y, st[p.1]? = some (.box t y) ∧ l[p.2 - i]? = some (.box t y) ∧ vs[p.2 - i]? = some (tv a p.1)) := by
  induction h with
  | nil => refine ⟨rfl, by simp, ?_, by simp⟩; intro j x h; simp at h
  | @v i t x v l vs b hv _ ih =>
    obtain ⟨h1, h2, h3, h4⟩ := ih
    refine ⟨by simp [h1], fun p hp => ?_, ?_, fun p hp => ?_⟩
    · have := h2 p hp; simp; omega
    · intro j y hj
      cases j with
      | zero =>
        simp at hj; subst hj
        refine ⟨v, rfl, rfl, .inr ⟨rfl, ?_, fun h tv' => ⟨hv, rfl⟩⟩⟩
        rw [List.find?_eq_none]
        intro p hp; have := h2 p hp; simp; omega
      | succ j =>
        obtain ⟨u, hu, h5⟩ := h3 j y (by simpa using hj)
        have e : i + 1 + j = i + (j + 1) := by omega
        rw [e] at h5
        exact ⟨u, by simpa using hu, h5⟩
    · obtain ⟨t', y, h5, h6, h7⟩ := h4 p hp
      have := h2 p hp
      have e : p.2 - i = (p.2 - (i + 1)) + 1 := by omega
      exact ⟨t', y, h5, by rw [e]; simpa using h6, by rw [e]; simpa using h7⟩
  | @nilsl i l vs b _ ih =>
    obtain ⟨h1, h2, h3, h4⟩ := ih
    refine ⟨by simp [h1], fun p hp => ?_, ?_, fun p hp => ?_⟩
    · have := h2 p hp; simp; omega
    · intro j y hj
      cases j with
      | zero =>
        simp at hj; subst hj
        refine ⟨_, rfl, rfl, .inr ⟨rfl, ?_, fun h tv' => ⟨rfl, rfl⟩⟩⟩
        rw [List.find?_eq_none]
        intro p hp; have := h2 p hp; simp; omega
      | succ j =>
        obtain ⟨u, hu, h5⟩ := h3 j y (by simpa using hj)
        have e : i + 1 + j = i + (j + 1) := by omega
        rw [e] at h5
        exact ⟨u, by simpa using hu, h5⟩
    · obtain ⟨t', y, h5, h6, h7⟩ := h4 p hp
      have := h2 p hp
      have e : p.2 - i = (p.2 - (i + 1)) + 1 := by omega
      exact ⟨t', y, h5, by rw [e]; simpa using h6, by rw [e]; simpa using h7⟩
  | @box i s t x l vs b hs _ ih =>
    obtain ⟨h1, h2, h3, h4⟩ := ih
    refine ⟨by simp [h1], fun p hp => ?_, ?_, fun p hp => ?_⟩
    · rcases List.mem_cons.1 hp with rfl | hp
      · simp
      · have := h2 p hp; simp; omega
    · intro j y hj
      cases j with
      | zero =>
        simp at hj; subst hj
        exact ⟨_, rfl, rfl, .inl ⟨s, t, x, rfl, rfl, hs, by simp⟩⟩
      | succ j =>
        obtain ⟨u, hu, h5⟩ := h3 j y (by simpa using hj)
        have e : i + 1 + j = i + (j + 1) := by omega
        rw [e] at h5
        have hne : Nat.beq i (i + (j + 1)) = false := by
          cases hb' : Nat.beq i (i + (j + 1)) with
          | false => rfl
          | true => have := beq_nat hb'; omega
        refine ⟨u, by simpa using hu, ?_⟩
        rw [List.find?_cons]
        simp only [hne]
        exact h5
    · rcases List.mem_cons.1 hp with rfl | hp
      · exact ⟨t, x, hs, by simp, by simp⟩
      · obtain ⟨t', y, h5, h6, h7⟩ := h4 p hp
        have := h2 p hp
        have e : p.2 - i = (p.2 - (i + 1)) + 1 := by omega
        exact ⟨t', y, h5, by rw [e]; simpa using h6, by rw [e]; simpa using h7⟩

def applyBack (outs : List A) : List (Nat × Nat) → List A → List A
  | [], st => st
  | (r, i) :: l, st => applyBack outs l (st.set r (outs.getD i .dead))

theorem backK_inv {α : Type} {r : α × List A × FP} {outs : List A} : ∀ (b : List (Nat × Nat)) (k : Cmd α) (st : List A) (fp : FP), exec E (backK outs b k) st fp = some r →
    ∃ fp', exec E k (applyBack outs b st) fp' = some r ∧ ∀ p ∈ b, ∃ t y, outs.getD p.2 .dead = .box t y
  | [], k, st, fp, h => ⟨fp, h, by simp⟩
  | (s, i) :: b, k, st, fp, h => by
    simp only [backK] at h
    split at h
    · rename_i t y hy
      obtain ⟨fp1, h1⟩ := exec_get h
      split at h1
      · split at h1
        · obtain ⟨_, fp2, h2⟩ := exec_cont h1
          obtain ⟨fp3, h3, hall⟩ := backK_inv b k _ _ h2
          refine ⟨fp3, by rw [applyBack, hy]; exact h3, fun p hp => ?_⟩
          rcases List.mem_cons.1 hp with rfl | hp
          · exact ⟨t, y, hy⟩
          · exact hall p hp
        · exact (exec_fail h1).elim
      · exact (exec_fail h1).elim
    · exact (exec_fail h).elim

theorem nodupB_spec : ∀ {b : List (Nat × Nat)}, nodupB b = true → b.Pairwise (fun p q => p.1 ≠ q.1)
  | [], _ => .nil
  | p :: b, h => by
    obtain ⟨h1, h2⟩ := and'_true h
    refine .cons (fun q hq e => ?_) (nodupB_spec h2)
    simp only [Bool.not_eq_true', List.any_eq_false] at h1
    have := h1 q hq
    rw [e] at this
    simp [Nat.beq_refl] at this

theorem applyBack_length (outs : List A) : ∀ (b : List (Nat × Nat)) (st : List A), (applyBack outs b st).length = st.length
  | [], _ => rfl
  | (r, i) :: b, st => by rw [applyBack, applyBack_length outs b]; simp

theorem applyBack_other (outs : List A) : ∀ (b : List (Nat × Nat)) (st : List A) (j : Nat), (∀ p ∈ b, p.1 ≠ j) → (applyBack outs b st)[j]? = st[j]?
  | [], _, _, _ => rfl
  | (r, i) :: b, st, j, h => by
    rw [applyBack, applyBack_other outs b _ j (fun p hp => h p (by simp [hp])), List.getElem?_set_ne (h (r, i) (by simp))]

theorem applyBack_at (outs : List A) : ∀ (b : List (Nat × Nat)) (st : List A) (p : Nat × Nat), b.Pairwise (fun p q => p.1 ≠ q.1) → p ∈ b → p.1 < st.length → (applyBack outs b st)[p.1]? = some (outs.getD p.2 .dead)
  | [], _, _, _, h, _ => by cases h
  | (r, i) :: b, st, p, hnd, h, hlt => by
    rw [applyBack]
    cases hnd with
    | cons h1 h2 =>
      rcases List.mem_cons.1 h with rfl | hp
      · rw [applyBack_other outs b _ _ (fun q hq e => h1 q hq e.symm)]
        simp [hlt]
      · exact applyBack_at outs b _ p h2 hp (by simpa using hlt)
end
end Go.Lift
