/- Operations on memory: new variables, addresses, loads, stores. -/
import Derived.Test.YtpnjnnhedadjgaaDoorLfH
set_option linter.all false
namespace Go.Lift
section
variable {P : Program} {E : Env} {c : Ctx} {st st' : List A} {fp fp' : FP} {a : Act} {w w' : World} {S : Hp} {ob : Nat → Option Nat} {o : Oper}

theorem SimD.ob_some (hs : SimD c st a w S ob) {i b : Nat} (h : ob i = some b) : i < st.length ∧ (∃ x : A, st[i]? = some x ∧ x.own = true) ∧ ∃ o, hp w b = some o := by
  have hi : i < st.length := by
    rcases Nat.lt_or_ge i st.length with h' | h'
    · exact h'
    · rw [hs.out i h'] at h; simp at h
  have hx := hs.rel i _ (List.getElem?_eq_getElem hi)
  generalize hy : st[i] = y at hx
  have hat : st[i]? = some y := by rw [← hy]; exact List.getElem?_eq_getElem hi
  rw [h] at hx
  refine ⟨hi, ?_⟩
  cases y <;> simp [ARel] at hx
  case row => obtain ⟨cap, cs, E, f1, f2, _, e, _⟩ := hx; exact ⟨⟨_, hat, rfl⟩, _, e⟩
  case box => obtain ⟨_, cs, E, f1, f2, e, _⟩ := hx; exact ⟨⟨_, hat, rfl⟩, _, e⟩
  case iter => exact ⟨⟨_, hat, rfl⟩, _, hx.2⟩

theorem hp_lt {w : World} {b : Nat} {o : Obj} (h : hp w b = some o) : b < w.heap.size := lt_of_hp h

def pushed (w : World) (o : Obj) : World := { w with heap := w.heap.push o }

theorem hp_pushed (w : World) (o : Obj) : hp (pushed w o) w.heap.size = some o := by simp only [hp, pushed, Array.getElem?_push, if_true]
theorem hp_pushed_old {w : World} {o : Obj} {b : Nat} (h : b < w.heap.size) : hp (pushed w o) b = hp w b := by
  simp only [hp, pushed, Array.getElem?_push, if_neg (Nat.ne_of_lt h)]
theorem sub_pushed (w : World) (o : Obj) : Sub (hp w) (hp (pushed w o)) := fun b o' h => by rw [hp_pushed_old (hp_lt h)]; exact h

theorem WF.pushed {w0 w : World} {B : Nat → Prop} (h : WF w0 B w) (o : Obj) : WF w0 B (Lift.pushed w o) :=
  ⟨by have := h.size; simp [Lift.pushed]; omega, fun b hb hn => by
    have : b < w.heap.size := Nat.lt_of_lt_of_le hb h.size
    have e := hp_pushed_old (o := o) this
    simp only [hp] at e
    rw [e]; exact h.same b hb hn, h.tape, h.os, h.output⟩

theorem WF.setObj {w0 w : World} {B : Nat → Prop} (h : WF w0 B w) {b : Nat} (hb : B b ∨ w0.heap.size ≤ b) (o : Obj) : WF w0 B (setObj' w b o) :=
  ⟨by have := h.size; simpa [setObj'] using this, fun i hi hn => by
    have : i ≠ b := fun e => by subst e; exact hb.elim hn (fun h => by omega)
    have e := hp_setObj_ne (w := w) (o := o) this
    simp only [hp] at e
    rw [e]; exact h.same i hi hn, h.tape, h.os, h.output⟩

/-- a new block is laid -/
theorem SimD.pushed (hs : SimD c st a w S ob) (o : Obj) : SimD c st a (Lift.pushed w o) S ob ∧ (∀ i, ob i ≠ some w.heap.size) ∧ S w.heap.size = none ∧ (c.B0 w.heap.size ∨ c.w0.heap.size ≤ w.heap.size) := by
  refine ⟨hs.world (sub_pushed w o) (hs.frame.pushed o), fun i e => ?_, ?_, .inr hs.frame.size⟩
  · obtain ⟨_, _, o', ho⟩ := hs.ob_some e
    exact absurd (hp_lt ho) (Nat.lt_irrefl _)
  · cases hS : S w.heap.size with
    | none => rfl
    | some o' => exact absurd (hp_lt (hs.sub _ _ hS)) (Nat.lt_irrefl _)

theorem free_zero (cs : Array Value) : Free cs (0, 0) := fun i _ h => by omega

theorem run_newRow (E : TypeId) (cs : Array Value) : (newRow E cs).run P w = .ok ⟨w.heap.size, 0, none⟩ (pushed w (.cells cs E)) := rfl

theorem Base.tyOk (hb : Base P E c) {i : TypeId} {e : TyI} (he : E.ty i = some e) : TyOk P i e := hb.env.ty i e he

/-- a new box for a value -/
theorem new_box {i : TypeId} {t : T} {x : t.den} {v : Value} (hs : SimD c st a w S ob) (hv : VR S t x v) :
    ∃ w', (newVar i v).run P w = .ok ⟨w.heap.size, 0, none⟩ w' ∧ SimD c st a w' S ob ∧ (∀ j, ob j ≠ some w.heap.size) ∧ S w.heap.size = none ∧ (c.B0 w.heap.size ∨ c.w0.heap.size ≤ w.heap.size) ∧
      ARel (hp w') S (tv a) (.box t x) (.pointer (some ⟨w.heap.size, 0, none⟩)) (some w.heap.size) := by
  obtain ⟨h1, h2, h3, h4⟩ := hs.pushed (.cells v.cells i)
  exact ⟨_, rfl, h1, h2, h3, h4, _, v.cells, i, (0, 0), rfl, rfl, hp_pushed _ _, free_zero _, hv.cells⟩

theorem alloc_good {el : TypeId} (ho : o.op = .alloc el) (h : exec E (opCmd E o) st fp = some ((), st', fp')) (hb : Base P E c) (hs : SimD c st a w S ob) : Good P c o a w st' := by
  simp only [opCmd, ho] at h
  obtain ⟨e, he, h0⟩ := tyK_inv h
  obtain ⟨z, hz, hv⟩ := run_zeroValue (P := P) (w := w) (hb.tyOk he)
  obtain ⟨w', hrun, hs', h1, h2, h3, hA⟩ := new_box (P := P) (i := el) hs (hv.mono (noHp_sub S))
  refine good_value (v := .pointer (some ⟨w.heap.size, 0, none⟩)) (w' := w') ?_ (lay_sim h0 hb hs' hA (fun b e => by cases e; exact ⟨h1, h2, h3⟩))
  simp [execOp, ho, Instr.alloc, hz, hrun]

theorem box_good {el : TypeId} {x : Operand} (ho : o.op = .box el x) (h : exec E (opCmd E o) st fp = some ((), st', fp')) (hb : Base P E c) (hs : SimD c st a w S ob) : Good P c o a w st' := by
  simp only [opCmd, ho] at h
  obtain ⟨e, he, h0⟩ := tyK_inv h
  obtain ⟨A, fp1, h1, hA, hAo, hAd, hr⟩ := rdK_inv h0 hs (hb.globS hs)
  obtain ⟨z, st1, fp2, S1, ob1, h2, hs1, hS, hv, hl⟩ := asK_inv h1 hs hA
  obtain ⟨w', hrun, hs', h3, h4, h5, hA⟩ := new_box (P := P) (i := el) hs1 hv
  refine good_value (v := .pointer (some ⟨w.heap.size, 0, none⟩)) (w' := w') ?_ (lay_sim h2 hb hs' hA (fun b e => by cases e; exact ⟨h3, h4, h5⟩))
  simp [execOp, ho, Instr.box, hrun]

theorem nilCheck_good {x : Operand} (ho : o.op = .nilCheck x) (h : exec E (opCmd E o) st fp = some ((), st', fp')) (hb : Base P E c) (hs : SimD c st a w S ob) : Good P c o a w st' := by
  simp only [opCmd, ho, nilCheckCmd] at h
  obtain ⟨A, fp1, h1, hA, hAo, hAd, hr⟩ := rdK_inv h hs (hb.globS hs)
  clear h
  have hrun : ∀ ad, a.eval x = .pointer (some ad) → (execOp a.eval o).run P w = .ok (.value (a.eval x)) w := by
    intro ad e
    simp [execOp, ho, e]
  split at h1
  · rename_i r
    obtain ⟨fp2, h2⟩ := exec_get h1
    clear h1
    split at h2
    · rename_i t z hz
      obtain ⟨ad, hv⟩ := box_val hs hz
      exact good_value (hrun ad (by rw [hA.1, hv])) (lay_sim h2 hb hs hA (fun b e => by cases e))
    · exact (exec_fail h2).elim
  · obtain ⟨_, b, _, e⟩ := id hA
    exact good_value (hrun _ e) (lay_sim h1 hb hs hA (fun b e => by cases e))
  · obtain ⟨b, off, c1, e, _⟩ := VR.ptr_inv hA.1
    exact good_value (hrun _ e) (lay_sim h1 hb hs hA (fun b e => by cases e))
  · exact (exec_fail h1).elim

/-! ## an owner's content -/

/-- what the block of owner r holds: y, of type t; 'mk' makes the owner's new state -/
def Opens (st : List A) (a : Act) (w : World) (S : Hp) (ob : Nat → Option Nat) (r : Nat) (t : T) (y : t.den) (mk : t.den → A) : Prop :=
  (∀ y, (mk y).own = true) ∧ ∀ b, blockOf (tv a r) = some b → r < st.length ∧ ob r = some b ∧ ∀ p, inb' t y p = true → ∃ cs E fr c0 c1 c2, hp w b = some (.cells cs E fr) ∧ Free cs fr ∧ cs.toList = c0 ++ (c1 ++ c2) ∧
    c0.length = offOf t p ∧ Rd S (foc t y p).1 (foc t y p).2 c1 ∧
    ∀ (t' : T) (z : t'.den) (d : List Value) (y' : t.den) (w' : World) (cs' : Array Value), setAt t y p t' z = some y' → Rd S t' z d → hp w' b = some (.cells cs' E fr) → cs'.toList = c0 ++ (d ++ c2) →
      t' = (foc t y p).1 ∧ ARel (hp w') S (tv a) (mk y') (tv a r) (some b)

theorem Free.of_size {cs cs' : Array Value} {fr : Nat × Nat} (h : Free cs fr) (hs : cs'.size = cs.size) : Free cs' fr := fun i hi => h i (by omega)

theorem inb'_inb {t : T} {y : t.den} {p : List Step} (h : inb' t y p = true) : p ≠ [] ∧ inb t y p = true := by
  cases p with
  | nil => simp [inb'] at h
  | cons s p => exact ⟨by simp, h⟩

theorem offOf_ne (n m : Nat) (u : T) (p : List Step) : offOf (.arr n u) p = offOf (.arr m u) p := offOf_arr n m u p

theorem foc_arr (n m : Nat) (u : T) (xs : List u.den) {p : List Step} (hp : p ≠ []) (hi : inb (.arr n u) xs p = true) : foc (.arr n u) xs p = foc (.arr m u) xs p := by
  cases p with
  | nil => exact absurd rfl hp
  | cons s p => cases s with
    | fld i => simp [inb] at hi
    | idx i => rfl

theorem setAt_arr (n m : Nat) (u : T) (xs : List u.den) {p : List Step} (hp : p ≠ []) (t' : T) (z : t'.den) : setAt (.arr n u) xs p t' z = setAt (.arr m u) xs p t' z := by
  cases p with
  | nil => exact absurd rfl hp
  | cons s p => cases s <;> rfl

theorem opens_box (hs : SimD c st a w S ob) {r : Nat} {t : T} {y : t.den} (h : st.getD r .dead = .box t y) : Opens st a w S ob r t y (.box t) := by
  refine ⟨fun _ => rfl, fun b hb => ?_⟩
  have hat := getD_at h (by simp)
  obtain ⟨b', cs, E, fr, hob, hv, hcs, hfr, hrd⟩ := hs.rel r _ hat
  have : b' = b := by rw [hv] at hb; simpa [blockOf] using hb
  subst this
  refine ⟨?_, hob, fun p hp' => ?_⟩
  · rcases Nat.lt_or_ge r st.length with h' | h'
    · exact h'
    · simp [List.getElem?_eq_none h'] at hat
  obtain ⟨_, hin⟩ := inb'_inb hp'
  obtain ⟨c0, c1, c2, hc, hl, hr, hset⟩ := lens t y p _ hrd hin
  refine ⟨cs, E, fr, c0, c1, c2, hcs, hfr, hc, hl, hr, fun t' z d y' w' cs' hse hz hw' hcs' => ?_⟩
  obtain ⟨et, hr'⟩ := hset t' z d y' hse hz
  refine ⟨et, b', cs', E, fr, rfl, hv, hw', hfr.of_size ?_, by rw [hcs']; exact hr'⟩
  subst et
  have h1 := congrArg List.length hc
  have h2 := congrArg List.length hcs'
  have h3 := hr.length
  have h4 := hz.length
  simp at h1 h2; omega

theorem opens_row (hs : SimD c st a w S ob) {r : Nat} {u : T} {xs : List u.den} (h : st.getD r .dead = .row u xs) : Opens st a w S ob r (.arr 0 u) xs (.row u) := by
  refine ⟨fun _ => rfl, fun b hb => ?_⟩
  have hat := getD_at h (by simp)
  rcases hs.rel r _ hat with ⟨_, hv, _⟩ | ⟨b', cap, cs, E, fr, hob, hv, hcs, hfr, hsz, hle, hall⟩
  · rw [hv] at hb; simp [blockOf] at hb
  have : b' = b := by rw [hv] at hb; simpa [blockOf] using hb
  subst this
  refine ⟨?_, hob, fun p hp' => ?_⟩
  · rcases Nat.lt_or_ge r st.length with h' | h'
    · exact h'
    · simp [List.getElem?_eq_none h'] at hat
  obtain ⟨hne, hin⟩ := inb'_inb hp'
  have hin' : inb (.arr xs.length u) xs p = true := by rw [inb_arr xs.length 0]; exact hin
  obtain ⟨c0, c1, c2, hc, hl, hr, hset⟩ := lens (.arr xs.length u) xs p _ ⟨rfl, hall⟩ hin'
  have hcs2 : cs.toList = c0 ++ (c1 ++ (c2 ++ cs.toList.drop (xs.length * u.size))) := by
    conv => lhs; rw [← List.take_append_drop (xs.length * u.size) cs.toList, hc]
    simp
  rw [foc_arr _ 0 _ _ hne hin'] at hr hset
  refine ⟨cs, E, fr, c0, c1, _, hcs, hfr, hcs2, by rw [hl]; exact offOf_arr _ _ _ _, hr, fun t' z d y' w' cs' hse hz hw' hcs' => ?_⟩
  rw [setAt_arr 0 xs.length _ _ hne] at hse
  obtain ⟨et, hr'⟩ := hset t' z d y' hse hz
  subst et
  have h3 := hr.length
  have h4 := hz.length
  have hsz' : cs'.size = cs.size := by
    have h1 := congrArg List.length hcs2
    have h2 := congrArg List.length hcs'
    simp at h1 h2; omega
  obtain ⟨hn, hall'⟩ := hr'
  refine ⟨rfl, .inr ⟨b', cap, cs', E, fr, rfl, by rw [hn]; exact hv, hw', hfr.of_size hsz', by rw [hsz', hsz], by rw [hn]; exact hle, ?_⟩⟩
  have : cs'.toList.take (y'.length * u.size) = c0 ++ (d ++ c2) := by
    have h5 : (c0 ++ (d ++ c2)).length = y'.length * u.size := by
      rw [hn]
      have := congrArg List.length hc
      have h6 : (cs.toList.take (xs.length * u.size)).length = xs.length * u.size := by
        rw [List.length_take]; simp only [Array.length_toList]; rw [hsz]; exact Nat.min_eq_left (Nat.mul_le_mul_right _ hle)
      rw [h6] at this
      simp at this ⊢; omega
    rw [hcs', show c0 ++ (d ++ (c2 ++ cs.toList.drop (xs.length * u.size))) = (c0 ++ (d ++ c2)) ++ cs.toList.drop (xs.length * u.size) by simp, List.take_append_of_le_length (by omega), ← h5, List.take_length]
  rw [this]
  exact hall'

theorem contK_inv {α : Type} {res : α × List A × FP} {r : Nat} {k : (t : T) → t.den → (t.den → A) → Cmd α} (h : exec E (contK r k) st fp = some res) (hs : SimD c st a w S ob) :
    ∃ t y mk fp', exec E (k t y mk) st fp' = some res ∧ Opens st a w S ob r t y mk := by
  unfold contK at h
  obtain ⟨fp', h⟩ := exec_get h
  split at h
  · rename_i t y hy; exact ⟨t, y, _, fp', h, opens_box hs hy⟩
  · rename_i u xs hy; exact ⟨.arr 0 u, xs, _, fp', h, opens_row hs hy⟩
  · exact (exec_fail h).elim

theorem tyAt_foc : ∀ (t : T) (y : t.den) (p : List Step) (u : T), tyAt t p = some u → (foc t y p).1 = u
  | .pair a b, y, [], u, h => by simpa [tyAt, foc] using h
  | .pair a b, y, .fld 0 :: p, u, h => tyAt_foc a y.1 p u (by simpa [tyAt] using h)
  | .pair a b, y, .fld (i + 1) :: p, u, h => tyAt_foc b y.2 (.fld i :: p) u (by simpa [tyAt] using h)
  | .pair a b, y, .idx i :: p, u, h => by simp [tyAt] at h
  | .arr n t, y, [], u, h => by simpa [tyAt, foc] using h
  | .arr n t, y, .idx i :: p, u, h => tyAt_foc t _ p u (by simpa [tyAt] using h)
  | .arr n t, y, .fld i :: p, u, h => by simp [tyAt] at h
  | .int _, _, [], u, h => by simpa [tyAt, foc] using h
  | .bool, _, [], u, h => by simpa [tyAt, foc] using h
  | .str, _, [], u, h => by simpa [tyAt, foc] using h
  | .opq, _, [], u, h => by simpa [tyAt, foc] using h
  | .unit, _, [], u, h => by simpa [tyAt, foc] using h
  | .sl _, _, [], u, h => by simpa [tyAt, foc] using h
  | .ptr _, _, [], u, h => by simpa [tyAt, foc] using h
  | .int _, _, s :: p, u, h => by simp [tyAt] at h
  | .bool, _, s :: p, u, h => by simp [tyAt] at h
  | .str, _, s :: p, u, h => by simp [tyAt] at h
  | .opq, _, s :: p, u, h => by simp [tyAt] at h
  | .unit, _, s :: p, u, h => by simp [tyAt] at h
  | .sl _, _, s :: p, u, h => by simp [tyAt] at h
  | .ptr _, _, s :: p, u, h => by simp [tyAt] at h

theorem teq_eq {t t' : T} (h : teq t t' = true) : t = t' := by simpa [teq] using h

theorem load_good {ty : TypeId} {x : Operand} (ho : o.op = .load ty x) (h : exec E (opCmd E o) st fp = some ((), st', fp')) (hb : Base P E c) (hs : SimD c st a w S ob) : Good P c o a w st' := by
  simp only [opCmd, ho, loadCmd] at h
  obtain ⟨e, he, h0⟩ := tyK_inv h
  obtain ⟨A, fp1, h1, hA, hAo, hAd, hr⟩ := rdK_inv h0 hs (hb.globS hs)
  clear h h0
  have hrun : ∀ {b off : Nat} {c1 : List Value} {z : e.t.den}, a.eval x = .pointer (some ⟨b, off, none⟩) → Lies (hp w) b off c1 → Rd S e.t z c1 →
      ∃ v, (execOp a.eval o).run P w = .ok (.value v) w ∧ VR S e.t z v := by
    intro b off c1 z ex hl hrd
    obtain ⟨v, hv, hvr⟩ := run_loadVar (P := P) (w := w) (hb.tyOk he) hl hrd
    exact ⟨v, by simp [execOp, ho, Instr.loadAt, ex, Instr.sureAddr, hv], hvr⟩
  split at h1
  · rename_i t y
    split at h1
    · rename_i ht
      have := teq_eq ht
      subst this
      obtain ⟨b, off, c1, ex, hl, hrd⟩ := VR.ptr_inv hA.1
      obtain ⟨v, hv, hvr⟩ := hrun ex (hl.mono hs.sub) hrd
      exact good_value hv (lay_plain h1 hb hs hvr)
    · exact (exec_fail h1).elim
  · rename_i r
    obtain ⟨fp2, h2⟩ := exec_get h1
    clear h1
    split at h2
    · rename_i t y hy
      split at h2
      · rename_i ht
        have := teq_eq ht
        subst this
        obtain ⟨b, cs, E', fr, hob, hv, hcs, hfr, hrd⟩ := hs.rel r _ (getD_at hy (by simp))
        obtain ⟨v, hv, hvr⟩ := hrun (off := 0) (c1 := cs.toList) (by rw [hA.1, hv]) ⟨cs, E', fr, [], [], hcs, by simp, rfl⟩ hrd
        exact good_value hv (lay_plain h2 hb hs hvr)
      · exact (exec_fail h2).elim
    · exact (exec_fail h2).elim
  · rename_i r t p
    obtain ⟨t', y, mk, fp2, h2, hop⟩ := contK_inv h1 hs
    clear h1
    split at h2
    · rename_i y' hy'
      obtain ⟨et, ey⟩ := cast_some hy'
      subst et; subst ey
      split at h2
      · rename_i u hu
        split at h2
        · rename_i htu
          obtain ⟨hin, h3⟩ := exec_guard h2
          have hue := teq_eq htu
          obtain ⟨_, b, hbl, ex⟩ := hA
          obtain ⟨_, hob, hp'⟩ := hop.2 b hbl
          obtain ⟨cs, E', fr, c0, c1, c2, hcs, hfr, hc, hl, hrd, _⟩ := hp' p hin
          have hf := tyAt_foc t' y p u hu
          dsimp only at hrd h3 hf
          generalize hz : foc t' y p = z at *
          obtain ⟨zt, zx⟩ := z
          dsimp only at hrd h3 hf
          subst hf; subst hue
          obtain ⟨v, hv, hvr⟩ := hrun (c1 := c1) (by rw [ex, ← hl]) ⟨cs, E', fr, c0, c2, hcs, hc, rfl⟩ hrd
          exact good_value hv (lay_plain h3 hb hs hvr)
        · exact (exec_fail h2).elim
      · exact (exec_fail h2).elim
    · exact (exec_fail h2).elim
  · exact (exec_fail h1).elim

theorem store_good {ty : TypeId} {x y : Operand} (ho : o.op = .store ty x y) (h : exec E (opCmd E o) st fp = some ((), st', fp')) (hb : Base P E c) (hs : SimD c st a w S ob) : Good P c o a w st' := by
  simp only [opCmd, ho] at h
  split at h
  · rename_i hd
    unfold storeCmd at h
    obtain ⟨e, he, h0⟩ := tyK_inv h
    obtain ⟨B, fp1, h1, hB, hBo, hBd, hrB⟩ := rdK_inv h0 hs (hb.globS hs)
    obtain ⟨z, st1, fp2, S1, ob1, h2, hs1, hS, hv, hlen⟩ := asK_inv h1 hs hB
    obtain ⟨A, fp3, h3, hA, hAo, hAd, hr⟩ := rdK_inv h2 hs1 (hb.globS hs1)
    clear h h0 h1 h2
    have hrun : ∀ {b off : Nat} {cs : Array Value} {E' : TypeId} {fr : Nat × Nat} {c0 c1 c2 : List Value}, a.eval x = .pointer (some ⟨b, off, none⟩) → hp w b = some (.cells cs E' fr) → Free cs fr →
        cs.toList = c0 ++ (c1 ++ c2) → c0.length = off → c1.length = e.t.size →
        ∃ w' cs', (execOp a.eval o).run P w = .ok .skip w' ∧ cs'.toList = c0 ++ ((a.eval y).cells.toList ++ c2) ∧ w' = setObj' w b (.cells cs' E' fr) := by
      intro b off cs E' fr c0 c1 c2 ex h1 h2 h3 h4 h5
      obtain ⟨w', cs', hv', hc', hw'⟩ := run_storeVar (P := P) (hb.tyOk he) h1 h2 h3 h4 h5 hv
      exact ⟨w', cs', by simp [execOp, ho, Instr.storeAt, ex, Instr.sureAddr, hv'], hc', hw'⟩
    have hput : a.put o.dst undef = a := by rw [hd]; rfl
    split at h3
    · rename_i r
      obtain ⟨fp4, h4⟩ := exec_get h3
      clear h3
      split at h4
      · rename_i t y0 hy
        split at h4
        · rename_i z' hz'
          obtain ⟨et, ez⟩ := cast_some hz'
          subst et; subst ez
          obtain ⟨hlt, fp5, h5⟩ := exec_cont h4
          obtain rfl := (exec_ret' h5).2
          obtain ⟨b, cs, E', fr, hob, hv', hcs, hfr, hrd⟩ := hs1.rel r _ (getD_at hy (by simp))
          obtain ⟨w', cs', hr', hc', hw'⟩ := hrun (off := 0) (c0 := []) (c1 := cs.toList) (c2 := []) (by rw [hA.1, hv']) hcs hfr (by simp) rfl (by simpa using hrd.length)
          refine good_skip hr' ?_
          rw [hput]
          subst hw'
          refine ⟨S1, ob1, hs1.content hlt hob ⟨b, cs', E', fr, rfl, hv', hp_setObj hcs, hfr.of_size ?_, ?_⟩ rfl (fun b' hne => hp_setObj_ne hne) (hs1.frame.setObj (hs1.fresh _ _ hob) _)⟩
          · have h1 := congrArg List.length hc'
            have h2 := hrd.length
            have h3 := hv.cells.length
            simp at h1 h2 h3; omega
          · rw [hc']; simpa using hv.cells
        · exact (exec_fail h4).elim
      · exact (exec_fail h4).elim
    · rename_i r t p
      obtain ⟨t', y0, mk, fp4, h4, hop⟩ := contK_inv h3 hs1
      clear h3
      split at h4
      · rename_i y' hy'
        obtain ⟨et, ey⟩ := cast_some hy'
        subst et; subst ey
        obtain ⟨hin, h5⟩ := exec_guard h4
        clear h4
        dsimp only at h5
        split at h5
        · rename_i y1 hset
          split at h5
          · rename_i y2 hy2
            obtain ⟨et2, ey2⟩ := cast_some hy2
            subst ey2
            obtain ⟨hlt, fp6, h6⟩ := exec_cont h5
            obtain rfl := (exec_ret' h6).2
            obtain ⟨_, b, hbl, ex⟩ := hA
            obtain ⟨_, hob, hp'⟩ := hop.2 b hbl
            obtain ⟨cs, E', fr, c0, c1, c2, hcs, hfr, hc, hl, hrd, hupd⟩ := hp' p hin
            have hty : e.t = (foc t' y0 p).1 := by
              obtain ⟨w2, _⟩ : ∃ w2 : World, True := ⟨w, trivial⟩
              have hc1 : c1.length = (foc t' y0 p).1.size := hrd.length
              have := hupd e.t z (a.eval y).cells.toList y1 (setObj' w b (.cells (c0 ++ ((a.eval y).cells.toList ++ c2)).toArray E' fr)) (c0 ++ ((a.eval y).cells.toList ++ c2)).toArray hset hv.cells (hp_setObj hcs) (by simp)
              exact this.1
            obtain ⟨w', cs', hr', hc', hw'⟩ := hrun (by rw [ex, ← hl]) hcs hfr hc rfl (by rw [hrd.length, hty])
            refine good_skip hr' ?_
            rw [hput]
            subst hw'
            obtain ⟨_, hA'⟩ := hupd e.t z _ y1 _ cs' hset hv.cells (hp_setObj hcs) hc'
            exact ⟨S1, ob1, hs1.content hlt hob hA' (hop.1 _) (fun b' hne => hp_setObj_ne hne) (hs1.frame.setObj (hs1.fresh _ _ hob) _)⟩
          · exact (exec_fail h5).elim
        · exact (exec_fail h5).elim
      · exact (exec_fail h4).elim
    · exact (exec_fail h3).elim
  · exact (exec_fail h).elim
end
end Go.Lift
