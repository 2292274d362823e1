/- A typed reading of memory, an evaluator over the translated operations, and its laws (own work, in one text). -/
import Derived.Test.YtnfmbjljpolnnaaDoorLgFw4
import Derived.Laws.BytesString
import Derived.Laws.Append
/- Operations that read: conversions, lengths, indices, parts of values. And new memory. -/
set_option linter.all false
namespace Go.Lift
section
variable {P : Program} {E : Env} {c : Ctx} {st st' : List A} {fp fp' : FP} {a : Act} {w w' : World} {S : Hp} {ob : Nat → List Nat} {o : Oper}

theorem VR.sl_inv {S : Hp} {t : T} {xs : List t.den} {v : Value} (h : VR S (.sl t) xs v) : ∃ ad cap, v = .slice ad xs.length cap ∧ xs.length ≤ cap ∧
    (xs = [] ∨ ∃ b off c1, ad = some ⟨b, off, none⟩ ∧ Lies S b off c1 ∧ All (Rd S t) xs c1) := by
  simp only [VR, T.isAgg, Bool.false_eq_true, if_false] at h
  obtain ⟨ad, cap, e, hc, h⟩ := h
  simp only [List.cons.injEq, and_true] at e
  exact ⟨ad, cap, e, hc, h⟩

theorem VR.ptr_inv {S : Hp} {t : T} {x : t.den} {v : Value} (h : VR S (.ptr t) x v) : ∃ b off c1, v = .pointer (some ⟨b, off, none⟩) ∧ Lies S b off c1 ∧ Rd S t x c1 := by
  simp only [VR, T.isAgg, Bool.false_eq_true, if_false] at h
  obtain ⟨b, off, c1, e, hl, h⟩ := h
  simp only [List.cons.injEq, and_true] at e
  exact ⟨b, off, c1, e, hl, h⟩

theorem VR.ptr_mk {S : Hp} {t : T} {x : t.den} {b off : Nat} {c1 : List Value} (hl : Lies S b off c1) (hr : Rd S t x c1) : VR S (.ptr t) x (.pointer (some ⟨b, off, none⟩)) :=
  VR.of_one rfl ⟨b, off, c1, rfl, hl, hr⟩

theorem slT {E : Env} {i : TypeId} {e : TyI} (hb : EnvOk P E) (he : E.ty i = some e) (h : isSl e.desc = true) : ∃ el, e.desc = .slice el ∧ P.underlying i = some (.slice el) := by
  rw [(hb.ty i e he).und]
  cases hd : e.desc <;> rw [hd] at h <;> simp [isSl] at h ⊢

theorem arrT {E : Env} {i : TypeId} {e : TyI} {n : Nat} (hb : EnvOk P E) (he : E.ty i = some e) (h : arrLen e.desc = some n) : ∃ el, e.desc = .array n el ∧ P.underlying i = some (.array n el) := by
  rw [(hb.ty i e he).und]
  cases hd : e.desc <;> rw [hd] at h <;> simp [arrLen] at h
  subst h
  exact ⟨_, rfl, rfl⟩

theorem elemT_sl {E : Env} {e : TyI} {el : TypeId} {t : T} (hd : e.desc = .slice el) (h : elemOk E e t = true) : ∃ ee, E.ty el = some ee ∧ ee.t = t := by
  unfold elemOk at h
  rw [hd] at h
  dsimp only at h
  split at h
  · rename_i ee hee; exact ⟨ee, hee, by simpa [teq] using h⟩
  · simp at h

theorem elemT_arr {E : Env} {e : TyI} {n : Nat} {el : TypeId} {t : T} (hd : e.desc = .array n el) (h : elemOk E e t = true) : ∃ ee, E.ty el = some ee ∧ ee.t = t := by
  unfold elemOk at h
  rw [hd] at h
  dsimp only at h
  split at h
  · rename_i ee hee; exact ⟨ee, hee, by simpa [teq] using h⟩
  · simp at h

theorem inR_true {n : Int} {len : Nat} (h : inR n len = true) : 0 ≤ n ∧ n < len ∧ n.toNat < len := by
  unfold inR at h
  have := of_decide_eq_true h
  exact ⟨this.1, this.2, by omega⟩

/-! ## min, max, len -/

theorem minmax_good {mx : Bool} {x y : Operand} {argTypes : Array TypeId} (ho : o.op = .call { callee := .builtin (if mx then .max else .min), args := #[x, y], argTypes })
    (h : exec E (minmaxCmd E mx x y o.dst) st fp = some ((), st', fp')) (hb : Base P E c) (hs : SimD c st a w S ob) : Good P c o a w st' := by
  unfold minmaxCmd at h
  obtain ⟨A, fp1, h1, hA, hAo, hAd, hr⟩ := rdK_inv h hs (hb.globS hs)
  obtain ⟨B, fp2, h2, hB, hBo, hBd, hr2⟩ := rdK_inv h1 hs (hb.globS hs)
  clear h h1
  split at h2
  · rename_i k m k' n
    have ex : a.eval x = .int k m := hA.1.int_inv
    have ey : a.eval y = .int k' n := hB.1.int_inv
    split at h2
    · cases mx
      · exact good_value (v := .int k (if n < m then n else m)) (w' := w) (by simp [execOp, ho, resolve, invoke, builtin, ex, ey, Builtin.min_, Builtin.min2]) (lay_plain h2 hb hs VR.int)
      · exact good_value (v := .int k (if n > m then n else m)) (w' := w) (by simp [execOp, ho, resolve, invoke, builtin, ex, ey, Builtin.max_, Builtin.max2]) (lay_plain h2 hb hs VR.int)
    · exact (exec_fail h2).elim
  · exact (exec_fail h2).elim

theorem len_good {x : Operand} {t : TypeId} (ho : o.op = .call { callee := .builtin .len, args := #[x], argTypes := #[t] })
    (h : exec E (lenCmd E t x o.dst) st fp = some ((), st', fp')) (hb : Base P E c) (hs : SimD c st a w S ob) : Good P c o a w st' := by
  unfold lenCmd at h
  obtain ⟨e, he, h0⟩ := tyK_inv h
  obtain ⟨A, fp1, h1, hA, hAo, hAd, hr⟩ := rdK_inv h0 hs (hb.globS hs)
  clear h h0
  have hrun : ∀ v, (Builtin.len_ #[t] o.type #[a.eval x]).run P w = .ok v w → (execOp a.eval o).run P w = .ok (.value v) w := by
    intro v hv
    simp [execOp, ho, resolve, invoke, builtin, hv]
  split at h1
  · rename_i hstr
    have hu := strT hb.env he hstr
    split at h1
    · rename_i s
      have ex : a.eval x = .string ⟨⟨s⟩⟩ := hA.1.str_inv
      refine good_value (hrun (.int .i64 (s.length : Int)) ?_) (lay_plain h1 hb hs VR.int)
      simp [Builtin.len_, run_underlying hu, ex, goInt, size_str]
    · exact (exec_fail h1).elim
  · rename_i x1 x2 hsl x3
    obtain ⟨el, hd, hu⟩ := slT hb.env he hsl
    split at h1
    · have ex : a.eval x = .slice none 0 0 := hA.1
      refine good_value (hrun (.int .i64 0) ?_) (lay_plain h1 hb hs VR.int)
      simp [Builtin.len_, run_underlying hu, ex, goInt]
    · obtain ⟨d, fp2, h2, hv⟩ := lookK_inv h1 hs hA
      clear h1
      split at h2
      · rename_i u xs
        obtain ⟨ad, cap, ex, _⟩ := VR.sl_inv hv
        refine good_value (hrun (.int .i64 (xs.length : Int)) ?_) (lay_plain h2 hb hs VR.int)
        simp [Builtin.len_, run_underlying hu, ex, goInt]
      · exact (exec_fail h2).elim
  · split at h1
    · rename_i hm
      obtain ⟨ki, vi, hu⟩ : ∃ k v, P.underlying t = some (.map k v) := by
        unfold isMp at hm
        split at hm
        · rename_i k v hd
          exact ⟨k, v, by rw [(hb.env.ty _ _ he).und, hd]⟩
        · cases hm
      obtain ⟨p, q, m, put, fp2, h2, o1, hmp, _, _⟩ := mpK_inv h1 hs hA
      refine good_value (hrun (.int .i64 ((m.getD []).length : Int)) ?_) (lay_plain h2 hb hs VR.int)
      rcases hmp with ⟨e1, e2, _⟩ | ⟨xs, b, es, cl, e1, e2, e3, e4, e5, _⟩
      · simp [Builtin.len_, run_underlying hu, e2, goInt, e1]
      · have hl := e5.length
        simp only [Array.length_toList] at hl
        simp [Builtin.len_, run_underlying hu, e3, goInt, e1, run_getMap e4, hl]
    · exact (exec_fail h1).elim

/-! ## parts of values -/

theorem extract_good {x : Operand} {i : Nat} (ho : o.op = .extract x i) (h : exec E (opCmd E o) st fp = some ((), st', fp')) (hb : Base P E c) (hs : SimD c st a w S ob) : Good P c o a w st' := by
  simp only [opCmd, ho, extractCmd] at h
  obtain ⟨A, fp1, h1, hA, hAo, hAd, hr⟩ := rdK_inv h hs (hb.globS hs)
  clear h
  split at h1
  · rename_i l
    obtain ⟨_, vs, ex, ht⟩ := hA
    split at h1
    · rename_i z hz
      have key : ∀ (l : List Dat) (vs : List Value) (i : Nat) (z : Dat), TupRel S l vs → l[i]? = some z → ∃ v, vs[i]? = some v ∧ VR S z.1 z.2 v := by
        intro l vs i z ht
        induction ht generalizing i with
        | nil => intro hz; simp at hz
        | cons hv _ ih =>
          intro hz
          cases i with
          | zero => simp at hz; subst hz; exact ⟨_, rfl, hv⟩
          | succ i => simpa using ih i (by simpa using hz)
      obtain ⟨v, hv, hvr⟩ := key _ _ _ _ ht hz
      have hv' : vs[i]? = some v := by rw [← Array.getElem?_toList]; exact hv
      exact good_value (v := v) (w' := w) (by simp [execOp, ho, ex, Instr.extract, hv']) (lay_plain h1 hb hs hvr)
    · exact (exec_fail h1).elim
  · rename_i r
    obtain ⟨fp2, h2⟩ := exec_get h1
    clear h1
    split at h2
    · rename_i l hy
      obtain ⟨vs, ev, hot⟩ := hs.rel r _ (getD_at hy (by simp))
      split at h2
      · rename_i z hz
        obtain ⟨v, o1, o2, hv, hvo, hot2, hperm⟩ := hot.part hz
        have hrun : (execOp a.eval o).run P w = .ok (.value v) w := by
          have hv' : vs[i]? = some v := by rw [← Array.getElem?_toList]; exact hv
          simp [execOp, ho, hA.1, ev, Instr.extract, hv']
        split at h2
        · rename_i hn
          exact good_value hrun (lay_plain h2 hb hs (hvo.vr hn).2)
        · split at h2
          · rename_i hov
            obtain ⟨hlt, fp3, h3⟩ := exec_cont h2
            have hnd := hperm.nodup_iff.1 (hs.nd r)
            have hs2 := hs.recast (x := .otup (l.set i ⟨fgt z.1, fgtD z.1 z.2⟩)) (o' := o2) hlt ⟨vs, ev, hot2⟩ rfl (List.nodup_append.1 hnd).2.1 (fun k hk => hperm.mem_iff.2 (by simp [hk]))
            refine good_value hrun (lay_sim h3 hb hs2 (o' := o1) ⟨hov, hvo⟩ (fun b hb' => ?_) (List.nodup_append.1 hnd).1)
            have hbr : b ∈ ob r := hperm.mem_iff.2 (by simp [hb'])
            refine ⟨fun i hi => ?_, hs.hid r b hbr, hs.fresh r b hbr⟩
            split at hi
            · exact (List.nodup_append.1 hnd).2.2 b hb' b hi rfl
            · rename_i hne; exact hne (hs.inj i r b hi hbr)
          · exact (exec_fail h2).elim
      · exact (exec_fail h2).elim
    · exact (exec_fail h2).elim
  · exact (exec_fail h1).elim

/-- a part of a value: where it lies in the cells -/
theorem fieldOk_parts {e : TyI} {f : Nat} (h : fieldOk E e f = true) :
    ∃ fs g eg, e.desc = .struct fs ∧ fs[f]? = some g ∧ E.ty g.type = some eg ∧ offOf e.t [.fld f] = g.offset ∧ eg.size ≠ 0 ∧ tyAt e.t [.fld f] = some eg.t := by
  unfold fieldOk at h
  split at h
  · rename_i fs hfs
    split at h
    · rename_i g hg
      split at h
      · rename_i eg heg
        obtain ⟨h1, h2⟩ := and'_true h
        obtain ⟨h1, h3⟩ := and'_true h1
        split at h2
        · rename_i u hu
          have hd : e.desc = .struct fs := by cases hd : e.desc <;> rw [hd] at hfs <;> simp [fieldsOf] at hfs; subst hfs; rfl
          refine ⟨fs, g, eg, hd, hg, heg, by simpa using h1, ?_, ?_⟩
          · intro e0; rw [e0] at h3; simp at h3
          · rw [hu]; congr 1; simpa [teq] using h2
        · simp at h2
      · simp at h
    · simp at h
  · simp at h

theorem foc_fld_ty : ∀ (t : T) (x : t.den) (f : Nat) (u : T), tyAt t [.fld f] = some u → (foc t x [.fld f]).1 = u ∧ inb t x [.fld f] = true
  | .pair a b, x, f, u, h => by
    cases f with
    | zero =>
      cases a <;> simp [tyAt] at h <;> subst h <;> simp [foc, inb]
    | succ f =>
      have := foc_fld_ty b x.2 f u (by simpa [tyAt] using h)
      simpa [foc, inb] using this
  | .int _, _, _, _, h => by simp [tyAt] at h
  | .bool, _, _, _, h => by simp [tyAt] at h
  | .str, _, _, _, h => by simp [tyAt] at h
  | .opq, _, _, _, h => by simp [tyAt] at h
  | .unit, _, _, _, h => by simp [tyAt] at h
  | .arr _ _, _, _, _, h => by simp [tyAt] at h
  | .sl _, _, _, _, h => by simp [tyAt] at h
  | .ptr _, _, _, _, h => by simp [tyAt] at h
  | .own _, _, _, _, h => by simp [tyAt] at h
  | .any, _, _, _, h => by simp [tyAt] at h
  | .byt _, _, _, _, h => by simp [tyAt] at h
  | .self _, _, _, _, h => by simp [tyAt] at h
  | .fn _ _, _, _, _, h => by simp [tyAt] at h

theorem field_good {s : TypeId} {x : Operand} {f : Nat} (ho : o.op = .field s x f) (h : exec E (opCmd E o) st fp = some ((), st', fp')) (hb : Base P E c) (hs : SimD c st a w S ob) : Good P c o a w st' := by
  simp only [opCmd, ho, fieldCmd] at h
  obtain ⟨e, he, h0⟩ := tyK_inv h
  clear h
  split at h0
  · exact (exec_fail h0).elim
  · rename_i hf
    obtain ⟨A, fp1, h1, hA, hAo, hAd, hr⟩ := rdK_inv h0 hs (hb.globS hs)
    clear h0
    split at h1
    · rename_i t y
      split at h1
      · rename_i y' hy
        obtain ⟨fs, g, eg, hd, hg, heg, hoff, hsz, hty⟩ := fieldOk_parts hf
        have hv : VR S e.t y' (a.eval x) := cast_VR hy hA.1
        obtain ⟨hfoc, hin⟩ := foc_fld_ty e.t y' f eg.t hty
        obtain ⟨c0, c1, c2, hc, hl, hrd, _⟩ := lens e.t y' [.fld f] _ hv.cells hin
        have hag : e.t.isAgg = true := by rw [← (hb.env.ty _ _ he).agg, hd]; rfl
        obtain ⟨cs, ex⟩ : ∃ cs, a.eval x = .agg cs := by
          unfold VR at hv; rw [if_pos hag] at hv; obtain ⟨cs, ex, _⟩ := hv; exact ⟨cs, ex⟩
        rw [ex] at hc
        have hc : cs.toList = c0 ++ (c1 ++ c2) := hc
        generalize hz : foc e.t y' [.fld f] = z at *
        obtain ⟨zt, zx⟩ := z
        dsimp only at hfoc hrd
        subst hfoc
        obtain ⟨v, hrun, hvr⟩ := run_part (P := P) (w := w) (hb.env.ty _ _ heg) hc hrd
        refine good_value (v := v) (w' := w) ?_ (lay_plain h1 hb hs hvr)
        rw [hl, hoff] at hrun
        simp [execOp, ho, Instr.field, run_underlying ((hb.env.ty _ _ he).und.trans (by rw [hd])), hg, ex, asAgg, hrun]
      · exact (exec_fail h1).elim
    · exact (exec_fail h1).elim

theorem index_good {t : TypeId} {x ix : Operand} (ho : o.op = .index t x ix) (h : exec E (opCmd E o) st fp = some ((), st', fp')) (hb : Base P E c) (hs : SimD c st a w S ob) : Good P c o a w st' := by
  simp only [opCmd, ho, indexCmd] at h
  obtain ⟨e, he, h0⟩ := tyK_inv h
  obtain ⟨I, fp0, h1, hI, hIo, hId, hrI⟩ := rdK_inv h0 hs (hb.globS hs)
  obtain ⟨k, n, h2, hi⟩ := intK_inv h1 hI
  obtain ⟨A, fp1, h3, hA, hAo, hAd, hr⟩ := rdK_inv h2 hs (hb.globS hs)
  clear h h0 h1 h2
  split at h3
  · rename_i x1 x2 a0 s hstr
    have hu := strT hb.env he hstr
    have ex : a.eval x = .string ⟨⟨s⟩⟩ := hA.1.str_inv
    obtain ⟨hc, h4⟩ := exec_guard h3
    obtain ⟨h5, h6, h7⟩ := inR_true hc
    refine good_value (v := .int .u8 ((s.getD n.toNat 0).toNat : Int)) (w' := w) ?_ (lay_plain h4 hb hs VR.int)
    have hget : (⟨⟨s⟩⟩ : ByteArray)[n.toNat]? = some (s.getD n.toNat 0) := by
      have : n.toNat < (⟨⟨s⟩⟩ : ByteArray).size := by rw [size_str]; exact h7
      rw [getElem?_pos (⟨⟨s⟩⟩ : ByteArray) n.toNat this]
      simp [List.getD, h7, ByteArray.getElem_eq_getElem_data]
    simp [execOp, ho, Instr.index, hi, asIntOf, run_underlying hu, ex, h5, hget]
  · rename_i x1 x2 a0 m m' u xs hm
    split at h3
    · rename_i hck
      obtain ⟨hmm, hel⟩ := and'_true hck
      obtain ⟨el, hd, hu⟩ := arrT hb.env he hm
      obtain ⟨ee, hee, het⟩ := elemT_arr hd hel
      subst het
      have hmm : m = m' := by simpa using hmm
      subst hmm
      obtain ⟨hc, h4⟩ := exec_guard h3
      obtain ⟨h5, h6, h7⟩ := inR_true hc
      have hv : VR S (.arr m ee.t) xs (a.eval x) := hA.1
      have hag : (T.arr m ee.t).isAgg = true := rfl
      unfold VR at hv; rw [if_pos hag] at hv
      obtain ⟨cs, ex, hrd⟩ := hv
      obtain ⟨hn, hall⟩ := hrd
      obtain ⟨c0, c1, c2, hcs, hl, hr1, _, _⟩ := All.at (Rd.length ee.t) hall (by omega : n.toNat < xs.length) ee.t.dflt
      obtain ⟨v, hrun, hvr⟩ := run_part (P := P) (w := w) (hb.env.ty _ _ hee) hcs hr1
      refine good_value (v := v) (w' := w) ?_ (lay_plain h4 hb hs hvr)
      have hsz := (hb.env.ty _ _ hee).size
      rw [hl, hsz] at hrun
      simp [execOp, ho, Instr.index, hi, asIntOf, run_underlying hu, ex, h5, h6, run_sizeOf (hb.env.ty _ _ hee), hrun]
    · exact (exec_fail h3).elim
  · exact (exec_fail h3).elim
end
end Go.Lift

/- Operations on memory: new variables, addresses, loads, stores. -/
set_option linter.all false
namespace Go.Lift
section
variable {P : Program} {E : Env} {c : Ctx} {st st' : List A} {fp fp' : FP} {a : Act} {w w' : World} {S : Hp} {ob : Nat → List Nat} {o : Oper}

theorem SimD.ob_some (hs : SimD c st a w S ob) {i b : Nat} (h : b ∈ ob i) : i < st.length ∧ (∃ x : A, st[i]? = some x ∧ x.own = true) ∧ ∃ o, hp w b = some o := by
  have hi : i < st.length := by
    rcases Nat.lt_or_ge i st.length with h' | h'
    · exact h'
    · rw [hs.out i h'] at h; simp at h
  have hat := List.getElem?_eq_getElem hi
  have hx := hs.rel i _ hat
  obtain ⟨o, ho, _⟩ := hx.obj b h
  refine ⟨hi, ⟨_, hat, ?_⟩, o, ho⟩
  cases hy : st[i].own with
  | true => rfl
  | false => rw [hx.nil_of_not_own hy] at h; cases h

theorem hp_lt {w : World} {b : Nat} {o : Obj} (h : hp w b = some o) : b < w.heap.size := lt_of_hp h

def pushed (w : World) (o : Obj) : World := { w with heap := w.heap.push o }

theorem hp_pushed (w : World) (o : Obj) : hp (pushed w o) w.heap.size = some o := by simp only [hp, pushed, Array.getElem?_push, if_true]
theorem hp_pushed_old {w : World} {o : Obj} {b : Nat} (h : b < w.heap.size) : hp (pushed w o) b = hp w b := by
  simp only [hp, pushed, Array.getElem?_push, if_neg (Nat.ne_of_lt h)]
theorem sub_pushed (w : World) (o : Obj) : Sub (hp w) (hp (pushed w o)) := fun b o' h => by rw [hp_pushed_old (hp_lt h)]; exact h

theorem WF.pushed {w0 w : World} {B : Nat → Prop} (h : WF w0 B w) (o : Obj) : WF w0 B (Lift.pushed w o) :=
  ⟨by have := h.size; simp [Lift.pushed]; omega, fun b hb hn => by
    have : b < w.heap.size := Nat.lt_of_lt_of_le hb h.size
    have e := hp_pushed_old (o := o) this
    simp only [hp] at e
    rw [e]; exact h.same b hb hn, h.tape, h.os, h.output⟩

theorem WF.setObj {w0 w : World} {B : Nat → Prop} (h : WF w0 B w) {b : Nat} (hb : B b ∨ w0.heap.size ≤ b) (o : Obj) : WF w0 B (setObj' w b o) :=
  ⟨by have := h.size; simpa [setObj'] using this, fun i hi hn => by
    have : i ≠ b := fun e => by subst e; exact hb.elim hn (fun h => by omega)
    have e := hp_setObj_ne (w := w) (o := o) this
    simp only [hp] at e
    rw [e]; exact h.same i hi hn, h.tape, h.os, h.output⟩

/-- a new block is laid -/
theorem SimD.pushed (hs : SimD c st a w S ob) (o : Obj) : SimD c st a (Lift.pushed w o) S ob ∧ (∀ i, w.heap.size ∉ ob i) ∧ S w.heap.size = none ∧ (c.B0 w.heap.size ∨ c.w0.heap.size ≤ w.heap.size) := by
  refine ⟨hs.world (sub_pushed w o) (hs.frame.pushed o), fun i e => ?_, ?_, .inr hs.frame.size⟩
  · obtain ⟨_, _, o', ho⟩ := hs.ob_some e
    exact absurd (hp_lt ho) (Nat.lt_irrefl _)
  · cases hS : S w.heap.size with
    | none => rfl
    | some o' => exact absurd (hp_lt (hs.sub _ _ hS)) (Nat.lt_irrefl _)

theorem free_zero (cs : Array Value) : Free cs (0, 0) := fun i _ h => by omega

theorem run_newRow (E : TypeId) (cs : Array Value) : (newRow E cs).run P w = .ok ⟨w.heap.size, 0, none⟩ (pushed w (.cells cs E)) := rfl

theorem Base.tyOk (hb : Base P E c) {i : TypeId} {e : TyI} (he : E.ty i = some e) : TyOk P i e := hb.env.ty i e he

/-- a new box for a value -/
theorem new_boxO {i : TypeId} {t : T} {x : t.den} {v : Value} {bs : List Nat} (hs : SimD c st a w S ob) (hv : RdO (w.heap.size, i) (hp w) S t x v.cells.toList bs) (hbs : ∀ k ∈ bs, (∀ i, k ∉ ob i) ∧ S k = none ∧ (c.B0 k ∨ c.w0.heap.size ≤ k)) (hnd : bs.Nodup) :
    ∃ w', (newVar i v).run P w = .ok ⟨w.heap.size, 0, none⟩ w' ∧ SimD c st a w' S ob ∧ (∀ k ∈ w.heap.size :: bs, (∀ j, k ∉ ob j) ∧ S k = none ∧ (c.B0 k ∨ c.w0.heap.size ≤ k)) ∧ (w.heap.size :: bs).Nodup ∧
      ARel (hp w') S (tv a) (.box t x) (.pointer (some ⟨w.heap.size, 0, none⟩)) (w.heap.size :: bs) := by
  obtain ⟨h1, h2, h3, h4⟩ := hs.pushed (.cells v.cells i)
  have hlt : ∀ k ∈ bs, k < w.heap.size := fun k hk => by obtain ⟨o, ho, _⟩ := hv.obj _ _ _ _ k hk; exact lt_of_hp ho
  refine ⟨_, rfl, h1, fun k hk => ?_, ?_, _, v.cells, i, (0, 0), bs, rfl, rfl, hp_pushed _ _, free_zero _, hv.mono (Sub.refl _) _ _ _ _ (fun k hk => hp_pushed_old (hlt k hk))⟩
  · rcases List.mem_cons.1 hk with rfl | hk
    · exact ⟨h2, h3, h4⟩
    · exact hbs k hk
  · exact List.nodup_cons.2 ⟨fun hm => absurd (hlt _ hm) (Nat.lt_irrefl _), hnd⟩

theorem simT_size : ∀ {t e : T}, simT t e = true → t.size = e.size := by
  intro t
  induction t with
  | pair a b iha ihb =>
    intro e h
    cases e
    case pair c d =>
      obtain ⟨h1, h2⟩ := and'_true h
      simp only [T.size]; rw [iha h1, ihb h2]
    all_goals rw [teq_eq' (show teq _ _ = true from h)]
  | any =>
    intro e h
    obtain ⟨h1, h2⟩ := and'_true (show and' (Nat.beq e.size 1) (!e.isAgg) = true by cases e <;> exact h)
    rw [Nat.eq_of_beq_eq_true h1]; rfl
  | own u _ => intro e h; cases e <;> first | rfl | rw [teq_eq' (show teq _ _ = true from h)]
  | self u => intro e h; cases e <;> first | rfl | rw [teq_eq' (show teq _ _ = true from h)]
  | mp k v _ _ => intro e h; cases e <;> first | rfl | rw [teq_eq' (show teq _ _ = true from h)]
  | nb u _ => intro e h; cases e <;> first | rfl | rw [teq_eq' (show teq _ _ = true from h)]
  | _ => intro e h; cases e <;> rw [teq_eq' (show teq _ _ = true from h)]

theorem simT_agg : ∀ {t e : T}, simT t e = true → t.isAgg = e.isAgg := by
  intro t
  cases t with
  | pair a b =>
    intro e h
    cases e
    case pair c d => rfl
    all_goals rw [teq_eq' (show teq _ _ = true from h)]
  | any =>
    intro e h
    obtain ⟨h1, h2⟩ := and'_true (show and' (Nat.beq e.size 1) (!e.isAgg) = true by cases e <;> exact h)
    simp at h2; rw [h2]; rfl
  | own u => intro e h; cases e <;> first | rfl | rw [teq_eq' (show teq _ _ = true from h)]
  | self u => intro e h; cases e <;> first | rfl | rw [teq_eq' (show teq _ _ = true from h)]
  | mp k v => intro e h; cases e <;> first | rfl | rw [teq_eq' (show teq _ _ = true from h)]
  | nb u => intro e h; cases e <;> first | rfl | rw [teq_eq' (show teq _ _ = true from h)]
  | _ => intro e h; cases e <;> rw [teq_eq' (show teq _ _ = true from h)]

theorem simT_off : ∀ {t e : T} (f : Nat) {u : T}, simT t e = true → tyAt e [.fld f] = some u → offOf t [.fld f] = offOf e [.fld f]
  | .pair a b, .pair c d, f, u, h, hu => by
    obtain ⟨h1, h2⟩ := and'_true h
    cases f with
    | zero => simp [offOf, offOf_nil]
    | succ f =>
      have := simT_off (t := b) (e := d) f h2 (by simpa [tyAt] using hu)
      simp only [offOf, simT_size h1, this]
  | t, .int _, f, u, h, hu => by simp [tyAt] at hu
  | t, .bool, f, u, h, hu => by simp [tyAt] at hu
  | t, .str, f, u, h, hu => by simp [tyAt] at hu
  | t, .opq, f, u, h, hu => by simp [tyAt] at hu
  | t, .unit, f, u, h, hu => by simp [tyAt] at hu
  | t, .arr _ _, f, u, h, hu => by simp [tyAt] at hu
  | t, .sl _, f, u, h, hu => by simp [tyAt] at hu
  | t, .ptr _, f, u, h, hu => by simp [tyAt] at hu
  | t, .own _, f, u, h, hu => by simp [tyAt] at hu
  | t, .any, f, u, h, hu => by simp [tyAt] at hu
  | t, .fn _ _, f, u, h, hu => by simp [tyAt] at hu
  | t, .byt _, f, u, h, hu => by simp [tyAt] at hu
  | t, .self _, f, u, h, hu => by simp [tyAt] at hu
  | t, .mp _ _, f, u, h, hu => by simp [tyAt] at hu
  | t, .nb _, f, u, h, hu => by simp [tyAt] at hu
  | t, .ifc _ _, f, u, h, hu => by simp [tyAt] at hu
  | .int _, .pair c d, f, u, h, hu => by rw [teq_eq' (show teq _ _ = true from h)]
  | .bool, .pair c d, f, u, h, hu => by rw [teq_eq' (show teq _ _ = true from h)]
  | .str, .pair c d, f, u, h, hu => by rw [teq_eq' (show teq _ _ = true from h)]
  | .opq, .pair c d, f, u, h, hu => by rw [teq_eq' (show teq _ _ = true from h)]
  | .unit, .pair c d, f, u, h, hu => by rw [teq_eq' (show teq _ _ = true from h)]
  | .arr _ _, .pair c d, f, u, h, hu => by rw [teq_eq' (show teq _ _ = true from h)]
  | .sl _, .pair c d, f, u, h, hu => by rw [teq_eq' (show teq _ _ = true from h)]
  | .ptr _, .pair c d, f, u, h, hu => by rw [teq_eq' (show teq _ _ = true from h)]
  | .own _, .pair c d, f, u, h, hu => by rw [teq_eq' (show teq _ _ = true from h)]
  | .fn _ _, .pair c d, f, u, h, hu => by rw [teq_eq' (show teq _ _ = true from h)]
  | .byt _, .pair c d, f, u, h, hu => by rw [teq_eq' (show teq _ _ = true from h)]
  | .self _, .pair c d, f, u, h, hu => by rw [teq_eq' (show teq _ _ = true from h)]
  | .mp _ _, .pair c d, f, u, h, hu => by rw [teq_eq' (show teq _ _ = true from h)]
  | .nb _, .pair c d, f, u, h, hu => by rw [teq_eq' (show teq _ _ = true from h)]
  | .ifc _ _, .pair c d, f, u, h, hu => by rw [teq_eq' (show teq _ _ = true from h)]
  | .any, .pair c d, f, u, h, hu => by
    have := (and'_true (show and' (Nat.beq (T.pair c d).size 1) (!(T.pair c d).isAgg) = true from h)).2
    simp [T.isAgg] at this

/-- a zero value's cells hold for it where its slices are owned -/
theorem toOwn_rd {m : Nat × Nat} {h S : Hp} : ∀ (t e : T) (x : e.den) (y : t.den), toOwn t e x = some y → zOk e x = true → selfOk m.2 t = true → RdO m h S t y (zc e x) []
  | .pair a b, .pair c d, x, y, hy, hz, hso => by
    obtain ⟨so1, so2⟩ := and'_true hso
    obtain ⟨z1, z2⟩ := and'_true hz
    simp only [toOwn] at hy
    split at hy
    · rename_i y1 h1
      split at hy
      · rename_i y2 h2
        cases hy
        exact ⟨_, _, [], [], rfl, rfl, toOwn_rd a c x.1 y1 h1 z1 so1, toOwn_rd b d x.2 y2 h2 z2 so2⟩
      · cases hy
    · cases hy
  | .own u, .sl v, x, y, hy, hz, _ => by
    simp only [toOwn] at hy
    cases x with
    | nil => cases hy; exact ⟨_, rfl, .inl ⟨rfl, ⟨_, rfl, fun _ _ => rfl⟩, rfl⟩⟩
    | cons => cases hy
  | .self ty, .opq, x, y, hy, hz, hso => by
    simp only [toOwn] at hy
    split at hy
    · exact ⟨rfl, _, rfl, Nat.eq_of_beq_eq_true hso, .inl rfl⟩
    · cases hy
  | .mp k v, .opq, x, y, hy, hz, hso => by
    simp only [toOwn] at hy
    split at hy
    · cases hy; exact ⟨_, rfl, .inl ⟨rfl, rfl, rfl⟩⟩
    · cases hy
  | .nb u, .opq, x, y, hy, hz, hso => by
    simp only [toOwn] at hy
    split at hy
    · cases hy; exact .inl ⟨rfl, rfl, rfl⟩
    · cases hy
  | t, e, x, y, hy, hz, hso => by
    by_cases h1 : (∃ a b c d, t = .pair a b ∧ e = .pair c d) ∨ (∃ u v, t = .own u ∧ e = .sl v) ∨ (∃ ty, t = .self ty ∧ e = .opq) ∨ (∃ k v, t = .mp k v ∧ e = .opq) ∨ ∃ u, t = .nb u ∧ e = .opq
    · rcases h1 with ⟨a, b, c, d, rfl, rfl⟩ | ⟨u, v, rfl, rfl⟩ | ⟨ty, rfl, rfl⟩ | ⟨k, v, rfl, rfl⟩ | ⟨u, rfl, rfl⟩
      · obtain ⟨z1, z2⟩ := and'_true hz
        obtain ⟨so1, so2⟩ := and'_true hso
        simp only [toOwn] at hy
        split at hy
        · rename_i y1 h1
          split at hy
          · rename_i y2 h2
            cases hy
            exact ⟨_, _, [], [], rfl, rfl, toOwn_rd a c x.1 y1 h1 z1 so1, toOwn_rd b d x.2 y2 h2 z2 so2⟩
          · cases hy
        · cases hy
      · simp only [toOwn] at hy
        cases x with
        | nil => cases hy; exact ⟨_, rfl, .inl ⟨rfl, ⟨_, rfl, fun _ _ => rfl⟩, rfl⟩⟩
        | cons => cases hy
      · simp only [toOwn] at hy
        split at hy
        · exact ⟨rfl, _, rfl, Nat.eq_of_beq_eq_true hso, .inl rfl⟩
        · cases hy
      · simp only [toOwn] at hy
        split at hy
        · cases hy; exact ⟨_, rfl, .inl ⟨rfl, rfl, rfl⟩⟩
        · cases hy
      · simp only [toOwn] at hy
        split at hy
        · cases hy; exact .inl ⟨rfl, rfl, rfl⟩
        · cases hy
    · have hc : toOwn t e x = cast e t x := by
        cases t <;> cases e <;> first
          | rfl
          | (exfalso; apply h1; exact .inl ⟨_, _, _, _, rfl, rfl⟩)
          | (exfalso; apply h1; exact .inr (.inl ⟨_, _, rfl, rfl⟩))
          | (exfalso; apply h1; exact .inr (.inr (.inl ⟨_, rfl, rfl⟩)))
          | (exfalso; apply h1; exact .inr (.inr (.inr (.inl ⟨_, _, rfl, rfl⟩))))
          | (exfalso; apply h1; exact .inr (.inr (.inr (.inr ⟨_, rfl, rfl⟩))))
      rw [hc] at hy
      obtain ⟨ee, ey⟩ := cast_some hy
      subst ee; subst ey
      exact RdO.of_rd _ _ _ ((zc_rd _ _ hz).mono (noHp_sub S))

theorem alloc_good {el : TypeId} (ho : o.op = .alloc el) (h : exec E (opCmd E o) st fp = some ((), st', fp')) (hb : Base P E c) (hs : SimD c st a w S ob) : Good P c o a w st' := by
  simp only [opCmd, ho] at h
  obtain ⟨e, he, h0⟩ := tyK_inv h
  clear h
  split at h0
  · rename_i t _
    split at h0
    · rename_i hck
      obtain ⟨_, hso⟩ := and'_true hck
      split at h0
      · rename_i z hz
        obtain ⟨inf, hi, hze⟩ := (hb.tyOk he).zeq
        have hcells : (zv e.t e.zero).cells.toList = zc e.t e.zero := (zv_cells (hb.tyOk he).zok)
        have hr : RdO (w.heap.size, el) (hp w) S t z (zv e.t e.zero).cells.toList [] := by rw [hcells]; exact toOwn_rd t e.t e.zero z hz (hb.tyOk he).zok hso
        obtain ⟨w', hrun, hs', h1, hn, hA⟩ := new_boxO (P := P) (i := el) hs hr (fun k hk => by cases hk) .nil
        refine good_value (v := .pointer (some ⟨w.heap.size, 0, none⟩)) (w' := w') ?_ (lay_sim h0 hb hs' hA h1 hn)
        have hzr : (zeroValue el).run P w = .ok (zv e.t e.zero) w := by simp [zeroValue, run_typeInfo hi, hze]
        simp [execOp, ho, Instr.alloc, hzr, hrun]
      · exact (exec_fail h0).elim
    · exact (exec_fail h0).elim
  · obtain ⟨z, hz, hv⟩ := run_zeroValue (P := P) (w := w) (hb.tyOk he)
    obtain ⟨w', hrun, hs', h1, hn, hA⟩ := new_boxO (P := P) (i := el) hs (RdO.of_rd _ _ _ (hv.mono (noHp_sub S)).cells) (fun k hk => by cases hk) .nil
    refine good_value (v := .pointer (some ⟨w.heap.size, 0, none⟩)) (w' := w') ?_ (lay_sim h0 hb hs' hA h1 hn)
    simp [execOp, ho, Instr.alloc, hz, hrun]

/-- a row is taken out of where it is -/
theorem takeK_inv {α : Type} {r : α × List A × FP} {A : Lift.A} {u : T} {v : Value} {k : List u.den → Cmd α} (h : exec E (takeK A u k) st fp = some r) (hs : SimD c st a w S ob) (hA : ARel (hp w) S (tv a) A v []) :
    ∃ xs st' fp' ob' bs, exec E (k xs) st' fp' = some r ∧ SimD c st' a w S ob' ∧ RowRel (hp w) S u xs v bs ∧ (∀ k ∈ bs, (∀ i, k ∉ ob' i) ∧ S k = none ∧ (c.B0 k ∨ c.w0.heap.size ≤ k)) ∧ bs.Nodup ∧ st'.length = st.length := by
  unfold takeK at h
  split at h
  · exact ⟨[], st, fp, ob, [], h, hs, .inl ⟨rfl, ⟨_, hA.1, fun _ _ => rfl⟩, rfl⟩, (fun k hk => by cases hk), .nil, rfl⟩
  · rename_i s
    obtain ⟨fp1, h⟩ := exec_get h
    split at h
    · rename_i t xs hy
      split at h
      · rename_i ys hys
        obtain ⟨e, e'⟩ := cast_some hys
        cases e
        dsimp only at e'
        subst e'
        obtain ⟨hok, fp2, h⟩ := exec_set h
        obtain ⟨h1, h2, h3⟩ := okSet_parts hok
        have hrow := hs.row_at hy
        refine ⟨xs, _, fp2, _, ob s, h, hs.drop h1, by rw [hA.1]; exact hrow, fun k hk => ⟨fun i hi => ?_, hs.hid s k hk, hs.fresh s k hk⟩, hs.nd s, setSt_length _ _ _⟩
        split at hi
        · cases hi
        · rename_i hne; exact hne (hs.inj i s k hi hk)
      · exact (exec_fail h).elim
    · exact (exec_fail h).elim
  · exact (exec_fail h).elim

theorem RowRel.cells {h S : Hp} {t : T} {xs : List t.den} {v : Value} {o : List Nat} (hx : RowRel h S t xs v o) : v.cells = #[v] := cells_of_oneCell hx.one

theorem box_good {el : TypeId} {x : Operand} (ho : o.op = .box el x) (h : exec E (opCmd E o) st fp = some ((), st', fp')) (hb : Base P E c) (hs : SimD c st a w S ob) : Good P c o a w st' := by
  simp only [opCmd, ho] at h
  obtain ⟨e, he, h0⟩ := tyK_inv h
  obtain ⟨A, fp1, h1, hA, hAo, hAd, hr⟩ := rdK_inv h0 hs (hb.globS hs)
  clear h h0
  split at h1
  · rename_i u _
    split at h1
    · obtain ⟨xs, st1, fp2, ob1, bs, h2, hs1, hrow, hbs, hnd, hl⟩ := takeK_inv h1 hs hA
      obtain ⟨w', hrun, hs', h3, hn, hA'⟩ := new_boxO (P := P) (i := el) (t := .own u) (x := xs) (v := a.eval x) (bs := bs) hs1 ⟨_, by rw [hrow.cells], hrow⟩ hbs hnd
      refine good_value (v := .pointer (some ⟨w.heap.size, 0, none⟩)) (w' := w') ?_ (lay_sim h2 hb hs' hA' h3 hn)
      simp [execOp, ho, Instr.box, hrun]
    · exact (exec_fail h1).elim
  · rename_i f _
    split at h1
    · rename_i hf
      obtain ⟨va, hva⟩ : ∃ va, A = .v .opq va := by
        unfold isFn at hf
        split at hf
        · exact ⟨_, rfl⟩
        · cases hf
      subst hva
      have hev := VR.opq_inv hA.1
      have hfun : a.eval x = .func (.func f) #[] #[] := by
        rw [hev]
        unfold isFn at hf
        split at hf
        · rename_i g fi ca hq
          cases hq
          obtain ⟨e1, e2⟩ := and'_true hf
          obtain ⟨e3, e4⟩ := and'_true e2
          rw [Nat.eq_of_beq_eq_true e1, Array.isEmpty_iff.1 e3, Array.isEmpty_iff.1 e4]
        · cases hf
      obtain ⟨w', hrun, hs', h3, hn, hA'⟩ := new_boxO (P := P) (i := el) (t := .fn f .unit) (x := ()) (v := a.eval x) (bs := []) hs (by rw [hfun]; exact ⟨rfl, #[], rfl, rfl⟩) (fun k hk => by cases hk) .nil
      refine good_value (v := .pointer (some ⟨w.heap.size, 0, none⟩)) (w' := w') ?_ (lay_sim h1 hb hs' hA' h3 hn)
      simp [execOp, ho, Instr.box, hrun]
    · exact (exec_fail h1).elim
  · have old : exec E (asK e.t A fun z => lay o.dst (.box e.t z)) st fp1 = some ((), st', fp') → Good P c o a w st' := fun h1 => by
      obtain ⟨z, st1, fp2, S1, ob1, h2, hs1, hS, hv, hl⟩ := asK_inv h1 hs hA
      obtain ⟨w', hrun, hs', h3, hn, hA⟩ := new_boxO (P := P) (i := el) hs1 (RdO.of_rd _ _ _ hv.cells) (fun k hk => by cases hk) .nil
      refine good_value (v := .pointer (some ⟨w.heap.size, 0, none⟩)) (w' := w') ?_ (lay_sim h2 hb hs' hA h3 hn)
      simp [execOp, ho, Instr.box, hrun]
    split at h1
    · rename_i t _ _ _ hck
      obtain ⟨_, hck⟩ := and'_true hck
      obtain ⟨_, hns⟩ := and'_true hck
      obtain ⟨x', st1, fp2, o1, ob1, h2, hs1, hvo, hF, _, _, _⟩ := takeVK_inv h1 hs hA
      obtain ⟨w', hrun, hs', h3, hn, hA⟩ := new_boxO (P := P) (i := el) hs1 (RdO.move _ _ _ _ hns hvo.cells) hF.2 hF.1
      refine good_value (v := .pointer (some ⟨w.heap.size, 0, none⟩)) (w' := w') ?_ (lay_sim h2 hb hs' hA h3 hn)
      simp [execOp, ho, Instr.box, hrun]
    · exact old h1
  · obtain ⟨z, st1, fp2, S1, ob1, h2, hs1, hS, hv, hl⟩ := asK_inv h1 hs hA
    obtain ⟨w', hrun, hs', h3, hn, hA⟩ := new_boxO (P := P) (i := el) hs1 (RdO.of_rd _ _ _ hv.cells) (fun k hk => by cases hk) .nil
    refine good_value (v := .pointer (some ⟨w.heap.size, 0, none⟩)) (w' := w') ?_ (lay_sim h2 hb hs' hA h3 hn)
    simp [execOp, ho, Instr.box, hrun]

theorem nilCheck_good {x : Operand} (ho : o.op = .nilCheck x) (h : exec E (opCmd E o) st fp = some ((), st', fp')) (hb : Base P E c) (hs : SimD c st a w S ob) : Good P c o a w st' := by
  simp only [opCmd, ho, nilCheckCmd] at h
  obtain ⟨A, fp1, h1, hA, hAo, hAd, hr⟩ := rdK_inv h hs (hb.globS hs)
  clear h
  have hrun : ∀ ad, a.eval x = .pointer (some ad) → (execOp a.eval o).run P w = .ok (.value (a.eval x)) w := by
    intro ad e
    simp [execOp, ho, e]
  split at h1
  · rename_i r
    obtain ⟨fp2, h2⟩ := exec_get h1
    clear h1
    split at h2
    · rename_i t z hz
      obtain ⟨ad, hv⟩ := box_val hs hz
      exact good_value (hrun ad (by rw [hA.1, hv])) (lay_sim h2 hb hs hA (fun b e => by cases e))
    · split at h2
      · rename_i hz
        obtain ⟨hm, h3⟩ := exec_guard h2
        obtain ⟨_, fp3, h4⟩ := exec_cont h3
        obtain ⟨ad, hv, hs1⟩ := hs.nb_some hz hm
        exact good_value (hrun ad (by rw [hA.1, hv])) (lay_sim h4 hb hs1 (o' := []) hA (fun b e => by cases e))
      · exact (exec_fail h2).elim
    · exact (exec_fail h2).elim
  · obtain ⟨_, _, _, _, _, _, _, _, _, _, _, e⟩ := id hA
    exact good_value (hrun _ e) (lay_sim h1 hb hs hA (fun b e => by cases e))
  · obtain ⟨_, b, _, e⟩ := id hA
    exact good_value (hrun _ e) (lay_sim h1 hb hs hA (fun b e => by cases e))
  · obtain ⟨b, off, c1, e, _⟩ := VR.ptr_inv hA.1
    exact good_value (hrun _ e) (lay_sim h1 hb hs hA (fun b e => by cases e))
  · exact (exec_fail h1).elim

/-! ## an owner's content -/

/-- what the block of owner r holds: y, of type t; 'mk' makes the owner's new state -/
def Opens (st : List A) (a : Act) (w : World) (S : Hp) (ob : Nat → List Nat) (r : Nat) (t : T) (y : t.den) (mk : t.den → A) : Prop :=
  (∀ y, (mk y).own = true) ∧ ∀ b, blockOf (tv a r) = some b → r < st.length ∧ b ∈ ob r ∧ ∀ p, inb' t y p = true → ∃ cs E fr c0 c1 c2 b1, hp w b = some (.cells cs E fr) ∧ Free cs fr ∧ cs.toList = c0 ++ (c1 ++ c2) ∧
    c0.length = offOf t p ∧ RdO (b, E) (hp w) S (foc t y p).1 (foc t y p).2 c1 b1 ∧
    ∀ (t' : T) (z : t'.den) (d : List Value) (y' : t.den) (w' : World) (cs' : Array Value), setAt t y p t' z = some y' → Rd S t' z d → hp w' b = some (.cells cs' E fr) → (∀ k, k ≠ b → hp w' k = hp w k) → cs'.toList = c0 ++ (d ++ c2) →
      t' = (foc t y p).1 ∧ ARel (hp w') S (tv a) (mk y') (tv a r) (ob r)

theorem Free.of_size {cs cs' : Array Value} {fr : Nat × Nat} (h : Free cs fr) (hs : cs'.size = cs.size) : Free cs' fr := fun i hi => h i (by omega)

theorem inb'_inb {t : T} {y : t.den} {p : List Step} (h : inb' t y p = true) : p ≠ [] ∧ inb t y p = true := by
  cases p with
  | nil => simp [inb'] at h
  | cons s p => exact ⟨by simp, h⟩

theorem offOf_ne (n m : Nat) (u : T) (p : List Step) : offOf (.arr n u) p = offOf (.arr m u) p := offOf_arr n m u p

theorem foc_arr (n m : Nat) (u : T) (xs : List u.den) {p : List Step} (hp : p ≠ []) (hi : inb (.arr n u) xs p = true) : foc (.arr n u) xs p = foc (.arr m u) xs p := by
  cases p with
  | nil => exact absurd rfl hp
  | cons s p => cases s with
    | fld i => simp [inb] at hi
    | idx i => rfl

theorem setAt_arr (n m : Nat) (u : T) (xs : List u.den) {p : List Step} (hp : p ≠ []) (t' : T) (z : t'.den) : setAt (.arr n u) xs p t' z = setAt (.arr m u) xs p t' z := by
  cases p with
  | nil => exact absurd rfl hp
  | cons s p => cases s <;> rfl

theorem opens_box (hs : SimD c st a w S ob) {r : Nat} {t : T} {y : t.den} (h : st.getD r .dead = .box t y) : Opens st a w S ob r t y (.box t) := by
  refine ⟨fun _ => rfl, fun b hb => ?_⟩
  have hat := getD_at h (by simp)
  obtain ⟨b', cs, E, fr, bs, hob, hv, hcs, hfr, hrd⟩ := hs.rel r _ hat
  have : b' = b := by rw [hv] at hb; simpa [blockOf] using hb
  subst this
  refine ⟨getD_lt h (by simp), by rw [hob]; simp, fun p hp' => ?_⟩
  obtain ⟨_, hin⟩ := inb'_inb hp'
  obtain ⟨c0, c1, c2, b0, b1, b2, hc, hbb, hl, hr, _, hset⟩ := lensO t y p _ _ hrd hin
  refine ⟨cs, E, fr, c0, c1, c2, b1, hcs, hfr, hc, hl, hr, fun t' z d y' w' cs' hse hz hw' hsame hcs' => ?_⟩
  have hnd := hs.nd r
  rw [hob] at hnd
  have hne : ∀ k ∈ bs, k ≠ b' := fun k hk e => by subst e; exact (List.nodup_cons.1 hnd).1 hk
  obtain ⟨et, hr'⟩ := hset (hp w') S (Sub.refl _) (fun k hk => hsame k (hne k (by rw [hbb]; simp at hk ⊢; rcases hk with h | h <;> simp [h]))) t' z d [] y' hse (RdO.of_rd _ _ _ hz)
  have hb1 : b1 = [] := by
    subst et
    exact (hr.rd _ _ _ _ hz.noOwn).1
  refine ⟨et, b', cs', E, fr, bs, hob, hv, hw', hfr.of_size ?_, by rw [hcs', hbb, hb1]; exact hr'⟩
  subst et
  have h1 := congrArg List.length hc
  have h2 := congrArg List.length hcs'
  have h3 := hr.length
  have h4 := hz.length
  simp at h1 h2; omega

theorem opens_row (hs : SimD c st a w S ob) {r : Nat} {u : T} {xs : List u.den} (h : st.getD r .dead = .row u xs) : Opens st a w S ob r (.arr 0 u) xs (.row u) := by
  refine ⟨fun _ => rfl, fun b hb => ?_⟩
  have hat := getD_at h (by simp)
  rcases hs.rel r _ hat with ⟨_, hv, _⟩ | ⟨b', cap, cs, E, fr, hob, hv, hcs, hfr, hsz, hle, hall, hq⟩
  · obtain ⟨ad, hv, _⟩ := hv
    rw [hv] at hb; unfold blockOf at hb; split at hb <;> first | (rename_i h; cases h) | cases hb
  have : b' = b := by
    rw [hv] at hb
    cases cap with
    | zero => simp [blockOf] at hb
    | succ n => simpa [blockOf] using hb
  subst this
  refine ⟨?_, by rw [hob]; simp, fun p hp' => ?_⟩
  · rcases Nat.lt_or_ge r st.length with h' | h'
    · exact h'
    · simp [List.getElem?_eq_none h'] at hat
  obtain ⟨hne, hin⟩ := inb'_inb hp'
  have hin' : inb (.arr xs.length u) xs p = true := by rw [inb_arr xs.length 0]; exact hin
  obtain ⟨c0, c1, c2, hc, hl, hr, hset⟩ := lens (.arr xs.length u) xs p _ ⟨rfl, hall⟩ hin'
  have hcs2 : cs.toList = c0 ++ (c1 ++ (c2 ++ cs.toList.drop (xs.length * u.size))) := by
    conv => lhs; rw [← List.take_append_drop (xs.length * u.size) cs.toList, hc]
    simp
  rw [foc_arr _ 0 _ _ hne hin'] at hr hset
  refine ⟨cs, E, fr, c0, c1, _, [], hcs, hfr, hcs2, by rw [hl]; exact offOf_arr _ _ _ _, RdO.of_rd _ _ _ hr, fun t' z d y' w' cs' hse hz hw' _ hcs' => ?_⟩
  rw [setAt_arr 0 xs.length _ _ hne] at hse
  obtain ⟨et, hr'⟩ := hset t' z d y' hse hz
  subst et
  have h3 := hr.length
  have h4 := hz.length
  have hsz' : cs'.size = cs.size := by
    have h1 := congrArg List.length hcs2
    have h2 := congrArg List.length hcs'
    simp at h1 h2; omega
  obtain ⟨hn, hall'⟩ := hr'
  refine ⟨rfl, .inr ⟨b', cap, cs', E, fr, hob, by rw [hn]; exact hv, hw', hfr.of_size hsz', by rw [hsz', hsz], by rw [hn]; exact hle, ?_⟩⟩
  have : cs'.toList.take (y'.length * u.size) = c0 ++ (d ++ c2) := by
    have h5 : (c0 ++ (d ++ c2)).length = y'.length * u.size := by
      rw [hn]
      have := congrArg List.length hc
      have h6 : (cs.toList.take (xs.length * u.size)).length = xs.length * u.size := by
        rw [List.length_take]; simp only [Array.length_toList]; rw [hsz]; exact Nat.min_eq_left (Nat.mul_le_mul_right _ hle)
      rw [h6] at this
      simp at this ⊢; omega
    rw [hcs', show c0 ++ (d ++ (c2 ++ cs.toList.drop (xs.length * u.size))) = (c0 ++ (d ++ c2)) ++ cs.toList.drop (xs.length * u.size) by simp, List.take_append_of_le_length (by omega), ← h5, List.take_length]
  rw [this]
  exact ⟨hall', hq⟩

theorem SimD.pel_open (hs : SimD c st a w S ob) {r n : Nat} {p q : List Step} {u : T} {v : Value} (hA : ARel (hp w) S (tv a) (.pel r n p u q) v []) {t : T} {x : t.den} (hy : st.getD r .dead = .box t x) (hin : inb t x p = true) (hn : n = offOf t p) {xs : List u.den} (hf : foc t x p = ⟨.own u, xs⟩) (hq : inb' (.arr 0 u) xs q = true) :
    ∃ b' cs E' fr c0 c1 c2, v = .pointer (some ⟨b', offOf (.arr 0 u) q, none⟩) ∧ hp w b' = some (.cells cs E' fr) ∧ Free cs fr ∧ cs.toList = c0 ++ (c1 ++ c2) ∧ c0.length = offOf (.arr 0 u) q ∧ Rd S (foc (.arr 0 u) xs q).1 (foc (.arr 0 u) xs q).2 c1 ∧ b' ∈ ob r ∧ r < st.length ∧
      ∀ (t' : T) (z : t'.den) (d : List Value) (xs' : List u.den) (w' : World) (cs' : Array Value) (Z : Dat), setAt (.arr 0 u) xs q t' z = some xs' → Rd S t' z d → putAt t x p (.own u) xs' = some Z → hp w' b' = some (.cells cs' E' fr) → (∀ k, k ≠ b' → hp w' k = hp w k) → cs'.toList = c0 ++ (d ++ c2) →
        t' = (foc (.arr 0 u) xs q).1 ∧ ARel (hp w') S (tv a) (.box Z.1 Z.2) (tv a r) (ob r) := by
  obtain ⟨_, b, csb, Eb, frb, b', len, cap, hbl, hcb, hcell, hv⟩ := hA
  obtain ⟨b2', cs1, E1, fr1, b0, b1, b2, d0, d2, hob, hvr, hcs1, hfr1, hc1, hl1, hrow, hput⟩ := hs.cel_row (v := .slice (some ⟨b', 0, none⟩) len cap) ⟨rfl, b, csb, Eb, frb, hbl, hcb, hcell⟩ hy hin hn hf
  have eb : b2' = b := by rw [hvr] at hbl; simpa [blockOf] using hbl
  subst eb
  rcases hrow with ⟨hx0, e, _⟩ | ⟨b3, cap3, cs, E, fr, e1, e2, hcs, hfr, hsz, hle, hall, hbq⟩
  · exfalso
    subst hx0
    obtain ⟨hne, h⟩ := inb'_inb hq
    cases q with
    | nil => exact absurd rfl hne
    | cons s p =>
      cases s with
      | fld k => simp [inb] at h
      | idx i =>
        have h1 := (and'_true h).1
        simp at h1
  cases e2
  subst e1
  have hnd := hs.nd r
  rw [hob] at hnd
  have hne0 : b2' ≠ b' := fun e => by subst e; exact (List.nodup_cons.1 hnd).1 (by simp)
  have hnb : ∀ k ∈ b0 ++ b2, k ≠ b' := fun k hk e => by
    subst e
    have h1 := (List.nodup_cons.1 hnd).2
    rw [List.nodup_append] at h1
    rcases List.mem_append.1 hk with hk | hk
    · exact h1.2.2 k hk k (by simp) rfl
    · exact (List.nodup_cons.1 h1.2.1).1 hk
  obtain ⟨hne, hinq⟩ := inb'_inb hq
  have hin' : inb (.arr xs.length u) xs q = true := by rw [inb_arr xs.length 0]; exact hinq
  obtain ⟨c0, c1, c2, hc, hl, hr, hset⟩ := lens (.arr xs.length u) xs q _ ⟨rfl, hall⟩ hin'
  have hcs2 : cs.toList = c0 ++ (c1 ++ (c2 ++ cs.toList.drop (xs.length * u.size))) := by
    conv => lhs; rw [← List.take_append_drop (xs.length * u.size) cs.toList, hc]
    simp
  rw [foc_arr _ 0 _ _ hne hin'] at hr hset
  refine ⟨b', cs, E, fr, c0, c1, _, hv, hcs, hfr, hcs2, by rw [hl]; exact offOf_arr _ _ _ _, hr, by rw [hob]; simp, getD_lt hy (by simp), fun t' z d xs' w' cs' Z hse hz hZ hw' hsame hcs' => ?_⟩
  rw [setAt_arr 0 xs.length _ _ hne] at hse
  obtain ⟨et, hr'⟩ := hset t' z d xs' hse hz
  refine ⟨et, b2', cs1, E1, fr1, _, hob, hvr, by rw [hsame b2' hne0]; exact hcs1, hfr1, ?_⟩
  rw [hc1]
  refine hput (hp w') S (Sub.refl _) (fun k hk => hsame k (hnb k hk)) (.own u) xs' _ _ Z hZ ⟨_, rfl, .inr ⟨b', cap, cs', E, fr, rfl, ?_, hw', ?_, ?_, ?_, ?_, hbq⟩⟩
  · have := hr'.1; rw [this]
  · have h3 := hr.length
    have h4 := hz.length
    subst et
    have h1 := congrArg List.length hcs2
    have h2 := congrArg List.length hcs'
    simp at h1 h2
    exact hfr.of_size (by omega)
  · have h3 := hr.length
    have h4 := hz.length
    subst et
    have h1 := congrArg List.length hcs2
    have h2 := congrArg List.length hcs'
    simp at h1 h2; omega
  · have := hr'.1; omega
  · have hl2 := hr'.1
    have h3 := All.length (Rd.length u) _ _ hr'.2
    rw [hcs', hl2]
    have e : c0 ++ (d ++ (c2 ++ cs.toList.drop (xs.length * u.size))) = (c0 ++ (d ++ c2)) ++ cs.toList.drop (xs.length * u.size) := by simp
    rw [e, List.take_append_of_le_length (by rw [h3, hl2]; exact Nat.le_refl _), List.take_of_length_le (by rw [h3, hl2]; exact Nat.le_refl _)]
    exact hr'.2

theorem contK_inv {α : Type} {res : α × List A × FP} {r : Nat} {k : (t : T) → t.den → (t.den → A) → Cmd α} (h : exec E (contK r k) st fp = some res) (hs : SimD c st a w S ob) :
    ∃ t y mk fp', exec E (k t y mk) st fp' = some res ∧ Opens st a w S ob r t y mk := by
  unfold contK at h
  obtain ⟨fp', h⟩ := exec_get h
  split at h
  · rename_i t y hy; exact ⟨t, y, _, fp', h, opens_box hs hy⟩
  · rename_i u xs hy; exact ⟨.arr 0 u, xs, _, fp', h, opens_row hs hy⟩
  · exact (exec_fail h).elim

theorem tyAt_foc : ∀ (t : T) (y : t.den) (p : List Step) (u : T), tyAt t p = some u → (foc t y p).1 = u
  | .pair a b, y, [], u, h => by simpa [tyAt, foc] using h
  | .pair a b, y, .fld 0 :: p, u, h => tyAt_foc a y.1 p u (by simpa [tyAt] using h)
  | .pair a b, y, .fld (i + 1) :: p, u, h => tyAt_foc b y.2 (.fld i :: p) u (by simpa [tyAt] using h)
  | .pair a b, y, .idx i :: p, u, h => by simp [tyAt] at h
  | .arr n t, y, [], u, h => by simpa [tyAt, foc] using h
  | .arr n t, y, .idx i :: p, u, h => tyAt_foc t _ p u (by simpa [tyAt] using h)
  | .arr n t, y, .fld i :: p, u, h => by simp [tyAt] at h
  | .int _, _, [], u, h => by simpa [tyAt, foc] using h
  | .bool, _, [], u, h => by simpa [tyAt, foc] using h
  | .str, _, [], u, h => by simpa [tyAt, foc] using h
  | .opq, _, [], u, h => by simpa [tyAt, foc] using h
  | .unit, _, [], u, h => by simpa [tyAt, foc] using h
  | .sl _, _, [], u, h => by simpa [tyAt, foc] using h
  | .ptr _, _, [], u, h => by simpa [tyAt, foc] using h
  | .own _, _, [], u, h => by simpa [tyAt, foc] using h
  | .any, _, [], u, h => by simpa [tyAt, foc] using h
  | .fn _ _, _, [], u, h => by simpa [tyAt, foc] using h
  | .byt _, _, [], u, h => by simpa [tyAt, foc] using h
  | .self _, _, [], u, h => by simpa [tyAt, foc] using h
  | .mp _ _, _, [], u, h => by simpa [tyAt, foc] using h
  | .nb _, _, [], u, h => by simpa [tyAt, foc] using h
  | .ifc _ _, _, [], u, h => by simpa [tyAt, foc] using h
  | .mp _ _, _, s :: p, u, h => by simp [tyAt] at h
  | .nb _, _, s :: p, u, h => by simp [tyAt] at h
  | .ifc _ _, _, s :: p, u, h => by simp [tyAt] at h
  | .int _, _, s :: p, u, h => by simp [tyAt] at h
  | .bool, _, s :: p, u, h => by simp [tyAt] at h
  | .str, _, s :: p, u, h => by simp [tyAt] at h
  | .opq, _, s :: p, u, h => by simp [tyAt] at h
  | .unit, _, s :: p, u, h => by simp [tyAt] at h
  | .sl _, _, s :: p, u, h => by simp [tyAt] at h
  | .ptr _, _, s :: p, u, h => by simp [tyAt] at h
  | .own _, _, s :: p, u, h => by simp [tyAt] at h
  | .any, _, s :: p, u, h => by simp [tyAt] at h
  | .fn _ _, _, s :: p, u, h => by simp [tyAt] at h
  | .byt _, _, s :: p, u, h => by simp [tyAt] at h
  | .self _, _, s :: p, u, h => by simp [tyAt] at h

theorem teq_eq {t t' : T} (h : teq t t' = true) : t = t' := by simpa [teq] using h

theorem slIs_inv {w e : T} (h : slIs w e = true) : ∃ v, e = .sl v := by
  unfold slIs at h
  split at h
  · exact ⟨_, rfl⟩
  · cases h

theorem elemK_inv {α : Type} {r : α × List A × FP} {A : Lift.A} {u : T} {k : T → Cmd α} (h : exec E (elemK A u k) st fp = some r) :
    ∃ u' fp', exec E (k u') st fp' = some r ∧ (u' = u ∨ (u = .int .u8 ∧ ∃ q, u' = .byt q)) := by
  unfold elemK at h
  split at h
  · obtain ⟨fp1, h⟩ := exec_get h
    split at h
    · split at h
      · rename_i hq
        exact ⟨_, fp1, h, .inr ⟨by simpa [teq] using hq, _, rfl⟩⟩
      · exact ⟨_, fp1, h, .inl rfl⟩
    · exact ⟨_, fp1, h, .inl rfl⟩
  · exact ⟨_, fp, h, .inl rfl⟩

theorem run_loadVar' {i : TypeId} {e : TyI} (h : TyOk P i e) {S : Hp} {b off : Nat} {c1 : List Value} {t : T} {x : t.den} (ht : t = e.t) (hl : Lies (hp w) b off c1) (hr : Rd S t x c1) :
    ∃ v, (loadVar i ⟨b, off, none⟩).run P w = .ok v w ∧ VR S t x v := by
  subst ht
  exact run_loadVar h hl hr

theorem load_good1 {ty : TypeId} {x : Operand} (ho : o.op = .load ty x) (h : exec E (loadCmd E ty x o.dst) st fp = some ((), st', fp')) (hb : Base P E c) (hs : SimD c st a w S ob) : Good P c o a w st' := by
  simp only [loadCmd] at h
  obtain ⟨e, he, h0⟩ := tyK_inv h
  obtain ⟨A, fp1, h1, hA, hAo, hAd, hr⟩ := rdK_inv h0 hs (hb.globS hs)
  clear h h0
  have hrun : ∀ {b off : Nat} {c1 : List Value} {z : e.t.den}, a.eval x = .pointer (some ⟨b, off, none⟩) → Lies (hp w) b off c1 → Rd S e.t z c1 →
      ∃ v, (execOp a.eval o).run P w = .ok (.value v) w ∧ VR S e.t z v := by
    intro b off c1 z ex hl hrd
    obtain ⟨v, hv, hvr⟩ := run_loadVar (P := P) (w := w) (hb.tyOk he) hl hrd
    exact ⟨v, by simp [execOp, ho, Instr.loadAt, ex, Instr.sureAddr, hv], hvr⟩
  have hrun1 : ∀ {b off : Nat} {v : Value} {u : T}, e.t = .sl u → a.eval x = .pointer (some ⟨b, off, none⟩) → w.cell? ⟨b, off, none⟩ = some v → (execOp a.eval o).run P w = .ok (.value v) w := by
    intro b off v u het ex hc
    have hag : e.t.isAgg = false := by rw [het]; rfl
    simp [execOp, ho, Instr.loadAt, ex, Instr.sureAddr, loadVar, run_isAgg (hb.tyOk he), hag, run_load, hc]
  split at h1
  · rename_i t y
    split at h1
    · rename_i ht
      have := teq_eq ht
      subst this
      obtain ⟨b, off, c1, ex, hl, hrd⟩ := VR.ptr_inv hA.1
      obtain ⟨v, hv, hvr⟩ := hrun ex (hl.mono hs.sub) hrd
      exact good_value hv (lay_plain h1 hb hs hvr)
    · unfold loadFn at h1
      split at h1
      · rename_i _ _ _ _ f u y _
        split at h1
        · rename_i hte
          have het := teq_eq hte
          obtain ⟨b, off, c1, ex, hl, hrd⟩ := VR.ptr_inv hA.1
          obtain ⟨l, rfl, hu⟩ := hrd
          have hc := cell?_of_lies (hl.mono hs.sub) (j := 0) rfl
          have hv : (execOp a.eval o).run P w = .ok (.value (.func (.func f) #[] l)) w := by
            have hag : e.t.isAgg = false := by rw [het]; rfl
            simp only [Nat.add_zero] at hc
            simp [execOp, ho, Instr.loadAt, ex, Instr.sureAddr, loadVar, run_isAgg (hb.tyOk he), hag, run_load, hc]
          exact good_value hv (lay_plain h1 hb hs (VR.of_one rfl ⟨l, rfl, hu⟩))
        · exact (exec_fail h1).elim
      · exact (exec_fail h1).elim
  · rename_i r
    obtain ⟨fp2, h2⟩ := exec_get h1
    clear h1
    split at h2
    · rename_i t y hy
      split at h2
      · rename_i ht
        have := teq_eq ht
        subst this
        obtain ⟨b, cs, E', fr, bs, hob, hv, hcs, hfr, hrd⟩ := hs.rel r _ (getD_at hy (by simp))
        obtain ⟨_, hrd⟩ := hrd.rd _ _ _ _ (hb.tyOk he).noOwn
        obtain ⟨v, hv, hvr⟩ := hrun (off := 0) (c1 := cs.toList) (by rw [hA.1, hv]) ⟨cs, E', fr, [], [], hcs, by simp, rfl⟩ hrd
        exact good_value hv (lay_plain h2 hb hs hvr)
      · split at h2
        · rename_i _ _ u ys hteq
          split at h2
          · rename_i htu
            obtain ⟨_, het⟩ := slIs_inv htu
            obtain ⟨b, cs, E', fr, bs, hob, hv, hcs, hfr, hrd⟩ := hs.rel r _ (getD_at hy (by simp))
            obtain ⟨v', ecs, hrow⟩ := hrd
            have hcell : cs[0]? = some v' := by rw [← Array.getElem?_toList, ecs]; rfl
            refine good_value (hrun1 (b := b) (off := 0) (v := v') het (by rw [hA.1, hv]) ?_) (lay_sim h2 hb hs (o' := []) ⟨rfl, b, cs, E', fr, by rw [hv]; rfl, hcs, hcell⟩ (fun b e => by cases e))
            simp only [hp] at hcs
            simp [World.cell?, hcs, hcell]
          · exact (exec_fail h2).elim
        · split at h2
          · rename_i hft
            obtain ⟨_, fp3, h3⟩ := exec_cont h2
            obtain ⟨S2, ob2, hS2, hs2⟩ := hs.retireBox hy
            have hlt2 : r < st.length := getD_lt hy (by simp)
            obtain ⟨b, cs, E', fr, bs, hob, hv, hcs, hfr, hrd⟩ := hs2.rel r _ (by simp only [contSt]; rw [List.getElem?_set_self (by simpa using hlt2)])
            have het := teq_eq hft
            have hno : noOwn (frz t) = true := by rw [het]; exact (hb.tyOk he).noOwn
            obtain ⟨_, hrd⟩ := hrd.rd _ _ _ _ hno
            obtain ⟨v, hv2, hvr⟩ := run_loadVar' (P := P) (w := w) (S := S2) (off := 0) (c1 := cs.toList) (hb.tyOk he) het ⟨cs, E', fr, [], [], hcs, by simp, rfl⟩ hrd
            exact good_value (v := v) (w' := w) (by
              have ex : a.eval x = .pointer (some ⟨b, 0, none⟩) := by rw [hA.1, hv]
              simp [execOp, ho, Instr.loadAt, ex, Instr.sureAddr, hv2]) (lay_plain h3 hb hs2 hvr)
          · exact (exec_fail h2).elim
    · exact (exec_fail h2).elim
  · rename_i r t p
    obtain ⟨t', y, mk, fp2, h2, hop⟩ := contK_inv h1 hs
    clear h1
    split at h2
    · rename_i y' hy'
      obtain ⟨et, ey⟩ := cast_some hy'
      subst et; subst ey
      split at h2
      · rename_i u hu
        split at h2
        · rename_i htu
          obtain ⟨hin, h3⟩ := exec_guard h2
          have hue := teq_eq htu
          obtain ⟨_, b, hbl, ex⟩ := hA
          obtain ⟨_, hob, hp'⟩ := hop.2 b hbl
          obtain ⟨cs, E', fr, c0, c1, c2, b1, hcs, hfr, hc, hl, hrd, _⟩ := hp' p hin
          have hf := tyAt_foc t' y p u hu
          dsimp only at hrd h3 hf
          generalize hz : foc t' y p = z at *
          obtain ⟨zt, zx⟩ := z
          dsimp only at hrd h3 hf
          subst hf; subst hue
          obtain ⟨_, hrd⟩ := hrd.rd _ _ _ _ (hb.tyOk he).noOwn
          obtain ⟨v, hv, hvr⟩ := hrun (c1 := c1) (by rw [ex, ← hl]) ⟨cs, E', fr, c0, c2, hcs, hc, rfl⟩ hrd
          exact good_value hv (lay_plain h3 hb hs hvr)
        · split at h2
          · rename_i _ _ q hteq
            split at h2
            · rename_i htu
              obtain ⟨_, het⟩ := slIs_inv htu
              obtain ⟨hin, h3⟩ := exec_guard h2
              obtain ⟨_, b, hbl, ex⟩ := hA
              obtain ⟨_, hob, hp'⟩ := hop.2 b hbl
              obtain ⟨cs, E', fr, c0, c1, c2, b1, hcs, hfr, hc, hl, hrd, _⟩ := hp' p hin
              have hf := tyAt_foc t' y p _ hu
              generalize hz : foc t' y p = z at *
              obtain ⟨zt, zx⟩ := z
              dsimp only at hrd hf
              subst hf
              obtain ⟨v', ecs, hrow⟩ := hrd
              have hcell : cs[offOf t' p]? = some v' := by rw [← Array.getElem?_toList, hc, ecs, List.getElem?_append_right (by omega), hl, Nat.sub_self]; rfl
              refine good_value (hrun1 (v := v') het ex ?_) (lay_sim h3 hb hs (o' := []) ⟨rfl, b, cs, E', fr, hbl, hcs, hcell⟩ (fun b e => by cases e))
              simp only [hp] at hcs
              simp [World.cell?, hcs, hcell]
            · exact (exec_fail h2).elim
          · rename_i _ _ p1 q1 hteq
            split at h2
            · rename_i hto
              have het := teq_eq hto
              obtain ⟨hin, h3⟩ := exec_guard h2
              obtain ⟨_, b, hbl, ex⟩ := hA
              obtain ⟨_, hob, hp'⟩ := hop.2 b hbl
              obtain ⟨cs, E', fr, c0, c1, c2, b1, hcs, hfr, hc, hl, hrd, _⟩ := hp' p hin
              have hf := tyAt_foc t' y p _ hu
              generalize hz : foc t' y p = z at *
              obtain ⟨zt, zx⟩ := z
              dsimp only at hrd hf
              subst hf
              obtain ⟨v', ecs, hmp⟩ := hrd
              have hcell : cs[offOf t' p]? = some v' := by rw [← Array.getElem?_toList, hc, ecs, List.getElem?_append_right (by omega), hl, Nat.sub_self]; rfl
              refine good_value (v := v') (w' := w) ?_ (lay_sim h3 hb hs (o' := []) ⟨rfl, b, cs, E', fr, hbl, hcs, hcell⟩ (fun b e => by cases e))
              have hc2 : w.cell? ⟨b, offOf t' p, none⟩ = some v' := by
                simp only [hp] at hcs
                simp [World.cell?, hcs, hcell]
              have hag : e.t.isAgg = false := by rw [het]; rfl
              simp [execOp, ho, Instr.loadAt, ex, Instr.sureAddr, loadVar, run_isAgg (hb.tyOk he), hag, run_load, hc2]
            · exact (exec_fail h2).elim
          · exact (exec_fail h2).elim
      · exact (exec_fail h2).elim
    · exact (exec_fail h2).elim
  · rename_i r n p u q
    obtain ⟨t, y, u', xs, fp2, h2, hy, hin, hn, hf⟩ := celK_inv h1
    clear h1
    split at h2
    · rename_i xs' hx
      obtain ⟨eu, ex'⟩ := cast_some hx
      cases eu; subst ex'
      split at h2
      · rename_i v hv
        split at h2
        · rename_i hve
          have hve := teq_eq hve
          obtain ⟨hq, h3⟩ := exec_guard h2
          obtain ⟨b', cs, E', fr, c0, c1, c2, ex, hcs, hfr, hc, hl, hrd, _⟩ := hs.pel_open hA hy hin hn hf hq
          have hfo := tyAt_foc (.arr 0 u) xs q v hv
          dsimp only at hrd h3 hfo
          generalize hz : foc (.arr 0 u) xs q = z at *
          obtain ⟨zt, zx⟩ := z
          dsimp only at hrd h3 hfo
          subst hfo; subst hve
          obtain ⟨v, hv2, hvr⟩ := hrun (c1 := c1) (by rw [ex, ← hl]) ⟨cs, E', fr, c0, c2, hcs, hc, rfl⟩ hrd
          exact good_value hv2 (lay_plain h3 hb hs hvr)
        · exact (exec_fail h2).elim
      · exact (exec_fail h2).elim
    · exact (exec_fail h2).elim
  · exact (exec_fail h1).elim

theorem loadOv_good {ty : TypeId} {x : Operand} {u : T} (ho : o.op = .load ty x) (h : exec E (loadOv E u ty x o.dst) st fp = some ((), st', fp')) (hb : Base P E c) (hs : SimD c st a w S ob) : Good P c o a w st' := by
  unfold loadOv at h
  obtain ⟨e, he, h0⟩ := tyK_inv h
  obtain ⟨A, fp1, h1, hA, hAo, hAd, hr⟩ := rdK_inv h0 hs (hb.globS hs)
  clear h h0
  split at h1
  · rename_i r
    obtain ⟨fp2, h2⟩ := exec_get h1
    clear h1
    split at h2
    · rename_i t y hy
      split at h2
      · rename_i hck
        obtain ⟨_, hck⟩ := and'_true hck
        obtain ⟨hsim, hck⟩ := and'_true hck
        obtain ⟨hag, hns⟩ := and'_true hck
        obtain ⟨hlt, fp3, h3⟩ := exec_cont h2
        obtain ⟨b, cs, E', fr, bs, hob, hv, hcs, hfr, hrd⟩ := hs.rel r _ (getD_at hy (by simp))
        have hnd := hs.nd r
        rw [hob] at hnd
        have hs2 := hs.recast (x := .box (fgt t) (fgtD t y)) (o' := [b]) hlt ⟨b, cs, E', fr, [], rfl, hv, hcs, hfr, RdO.fgt _ _ _ _ hrd⟩ rfl (List.nodup_cons.2 ⟨by simp, .nil⟩) (fun k hk => by rw [hob, List.mem_singleton.1 hk]; simp)
        have hage : e.t.isAgg = true := by
          have h1 := (simT_agg hsim)
          rw [← h1]; exact hag
        have hrun : (execOp a.eval o).run P w = .ok (.value (.agg cs)) w := by
          have ex : a.eval x = .pointer (some ⟨b, 0, none⟩) := by rw [hA.1, hv]
          have hlen : cs.toList.length = e.size := by rw [hrd.length, simT_size hsim, (hb.tyOk he).size]
          have hl := run_loadCells_lies (P := P) (w := w) (b := b) (off := 0) (c1 := cs.toList) ⟨cs, E', fr, [], [], hcs, by simp, rfl⟩
          rw [hlen] at hl
          simp [execOp, ho, Instr.loadAt, ex, Instr.sureAddr, loadVar, run_isAgg (hb.tyOk he), hage, run_sizeOf (hb.tyOk he), hl]
        have hovT : ovT t = true := by cases t <;> simp [T.isAgg] at hag <;> rfl
        refine good_value hrun (lay_sim h3 hb hs2 (o' := bs) ⟨hovT, VRO.of_agg hag (RdO.move _ _ _ _ hns hrd)⟩ (fun k hk => ?_) (List.nodup_cons.1 hnd).2)
        have hkr : k ∈ ob r := by rw [hob]; simp [hk]
        refine ⟨fun i hi => ?_, hs.hid r k hkr, hs.fresh r k hkr⟩
        split at hi
        · rw [List.mem_singleton.1 hi] at hk; exact (List.nodup_cons.1 hnd).1 hk
        · rename_i hne; exact hne (hs.inj i r k hi hkr)
      · exact (exec_fail h2).elim
    · exact (exec_fail h2).elim
  · exact (exec_fail h1).elim

theorem load_good {ty : TypeId} {x : Operand} (ho : o.op = .load ty x) (h : exec E (opCmd E o) st fp = some ((), st', fp')) (hb : Base P E c) (hs : SimD c st a w S ob) : Good P c o a w st' := by
  simp only [opCmd, ho] at h
  split at h
  · exact loadOv_good ho h hb hs
  · exact load_good1 ho h hb hs

theorem slotK_inv {α : Type} {r : α × List A × FP} {A : Lift.A} {k : Option (Nat × List Step) → Cmd α} (h : exec E (slotK A k) st fp = some r) :
    ∃ o fp', exec E (k o) st fp' = some r ∧ ∀ s p, o = some (s, p) → (A = .bor s ∧ p = []) ∨ ∃ t, A = .adr s t p := by
  unfold slotK at h
  split at h
  · obtain ⟨fp1, h⟩ := exec_get h
    split at h
    · split at h
      · exact ⟨_, fp1, h, fun s p e => by cases e; exact .inl ⟨rfl, rfl⟩⟩
      · exact ⟨_, fp1, h, fun s p e => by cases e⟩
    · exact ⟨_, fp1, h, fun s p e => by cases e⟩
  · split at h
    · split at h
      · exact ⟨_, fp, h, fun s p e => by cases e; exact .inr ⟨_, rfl⟩⟩
      · exact ⟨_, fp, h, fun s p e => by cases e⟩
    · exact ⟨_, fp, h, fun s p e => by cases e⟩
  · exact ⟨_, fp, h, fun s p e => by cases e⟩

theorem nodup_mid' {b : Nat} {b0 b1 b2 bs : List Nat} (h : (b :: (b0 ++ (b1 ++ b2))).Nodup) (hn : bs.Nodup) (hd : ∀ k ∈ bs, k ∉ b :: (b0 ++ (b1 ++ b2))) : (b :: (b0 ++ (bs ++ b2))).Nodup := by
  have h1 := (nodup_mid h).1
  have hp : (b :: (b0 ++ (bs ++ b2))).Perm (bs ++ (b :: (b0 ++ ([] ++ b2)))) := by
    refine ((List.Perm.cons b (List.perm_append_comm_assoc b0 bs b2))).trans ?_
    simpa using (List.perm_middle (a := b) (l₁ := bs) (l₂ := b0 ++ b2)).symm
  rw [hp.nodup_iff, List.nodup_append]
  refine ⟨hn, h1, fun k hk k' hk' e => ?_⟩
  subst e
  apply hd k hk
  simp at hk' ⊢
  rcases hk' with h | h | h <;> simp [h]

theorem store_good {ty : TypeId} {x y : Operand} (ho : o.op = .store ty x y) (h : exec E (opCmd E o) st fp = some ((), st', fp')) (hb : Base P E c) (hs : SimD c st a w S ob) : Good P c o a w st' := by
  simp only [opCmd, ho] at h
  split at h
  · rename_i hd
    unfold storeCmd at h
    obtain ⟨e, he, h0⟩ := tyK_inv h
    obtain ⟨A0, fp0, h0', hA0, hA0o, hA0d, hrA0⟩ := rdK_inv h0 hs (hb.globS hs)
    obtain ⟨oo, fp0', h0'', hslot⟩ := slotK_inv h0'
    clear h h0 h0'
    have hput : a.put o.dst undef = a := by rw [hd]; rfl
    split at h0''
    · -- a slice that is owned
      rename_i r p
      split at h0''
      · rename_i u0 hu
        have het : e.t = .sl u0 := by
          cases h : e.t <;> rw [h] at hu <;> simp [slElem] at hu; rw [hu]
        obtain ⟨B, fp1, h1, hB, hBo, hBd, hrB⟩ := rdK_inv h0'' hs (hb.globS hs)
        obtain ⟨u, fp1', h1', huu⟩ := elemK_inv h1
        obtain ⟨xs, st1, fp2, ob1, bs, h2, hs1, hrow, hbs, hnd, hl⟩ := takeK_inv h1' hs hB
        obtain ⟨fp3, h3⟩ := exec_get h2
        clear h0'' h1 h1' h2
        split at h3
        · rename_i t z0 hy
          split at h3
          · rename_i hck
            obtain ⟨hin, _⟩ := and'_true hck
            split at h3
            · rename_i z hz
              obtain ⟨hoff, h4⟩ := exec_guard h3
              obtain ⟨hlt, fp5, h5⟩ := exec_cont h4
              obtain rfl := (exec_ret' h5).2
              obtain ⟨b, cs, E', fr, bb, hob, hv, hcs, hfr, hrd⟩ := hs1.rel r _ (getD_at hy (by simp))
              obtain ⟨c0, c1, c2, b0, b1, b2, hc, hbb, hlc, hr, hput2, _⟩ := lensO t z0 p _ _ hrd hin
              have ex : a.eval x = .pointer (some ⟨b, offOf t p, none⟩) := by
                rcases hslot r p rfl with ⟨rfl, rfl⟩ | ⟨t0, rfl⟩
                · rw [hA0.1, hv, offOf_nil]
                · obtain ⟨_, b', hbl, ex⟩ := hA0
                  rw [hv] at hbl
                  simp [blockOf] at hbl; subst hbl
                  rw [ex, Nat.eq_of_beq_eq_true hoff]
              have hc1 : c1.length = 1 := by
                rw [hr.length]
                have : ∀ (t : T) (x : t.den) (p : List Step) (t' : T) (y : t'.den) (z : Dat), inb t x p = true → putAt t x p t' y = some z → (foc t x p).1.size = t'.size := by
                  intro t
                  induction t with
                  | pair a b iha ihb =>
                    intro x p t' y z hin hz
                    cases p with
                    | nil =>
                      rw [putAt_nil] at hz
                      split at hz
                      · rename_i hq; exact Nat.eq_of_beq_eq_true hq
                      · cases hz
                    | cons s p =>
                      cases s with
                      | idx i => simp [inb] at hin
                      | fld i =>
                        cases i with
                        | zero =>
                          simp only [putAt] at hz
                          split at hz
                          · rename_i q hq; exact iha x.1 p t' y q (by simpa [inb] using hin) hq
                          · cases hz
                        | succ i =>
                          simp only [putAt] at hz
                          split at hz
                          · rename_i q hq; exact ihb x.2 (.fld i :: p) t' y q (by simpa [inb] using hin) hq
                          · cases hz
                  | arr n t _ =>
                    intro x p t' y z hin hz
                    cases p with
                    | nil =>
                      rw [putAt_nil] at hz
                      split at hz
                      · rename_i hq; exact Nat.eq_of_beq_eq_true hq
                      · cases hz
                    | cons s p => cases s <;> simp [putAt] at hz
                  | _ =>
                    intro x p t' y z hin hz
                    cases p with
                    | nil =>
                      rw [putAt_nil] at hz
                      split at hz
                      · rename_i hq; exact Nat.eq_of_beq_eq_true hq
                      · cases hz
                    | cons s p => cases s <;> simp [putAt] at hz
                rw [this t z0 p (.own u) xs z hin hz]; rfl
              obtain ⟨xv, hvr⟩ : ∃ xv : e.t.den, VR (fun k => if k ∈ bs then hp w k else S k) e.t xv (a.eval y) := by
                have hSS : Sub S (fun k => if k ∈ bs then hp w k else S k) := fun k o hk => by
                  dsimp only
                  split
                  · rename_i hm; rw [(hbs k hm).2.1] at hk; cases hk
                  · exact hk
                have := hrow.shared hSS (fun k hk => by simp [hk])
                have this : ∃ xv : (T.sl u0).den, VR (fun k => if k ∈ bs then hp w k else S k) (.sl u0) xv (a.eval y) := by
                  clear hu hput2 het
                  rcases huu with rfl | ⟨rfl, q, rfl⟩
                  · exact ⟨xs, this⟩
                  · exact ⟨(xs : List Int), this⟩
                clear hu hslot hput2
                generalize e.t = et at het
                subst het
                exact this
              obtain ⟨w', cs', hv', hc', hw'⟩ := run_storeVar (P := P) (hb.tyOk he) hcs hfr hc hlc (by rw [hc1, het]; rfl) hvr
              refine good_skip (w' := w') (by simp [execOp, ho, Instr.storeAt, ex, Instr.sureAddr, hv']) ?_
              rw [hput]
              have hnd1 := hs1.nd r
              rw [hob, hbb] at hnd1
              have hbne : ∀ k ∈ b0 ++ (b1 ++ b2), k ≠ b := fun k hk e => by subst e; exact (List.nodup_cons.1 hnd1).1 hk
              have hbsne : ∀ k ∈ bs, k ≠ b := fun k hk e => by subst e; exact (hbs k hk).1 r (by rw [hob]; simp)
              subst hw'
              have hnew : ARel (hp (setObj' w b (.cells cs' E' fr))) S (tv a) (.box z.1 z.2) (tv a r) (b :: (b0 ++ (bs ++ b2))) := by
                refine ⟨b, cs', E', fr, _, rfl, hv, hp_setObj hcs, hfr.of_size ?_, ?_⟩
                · have h1 := congrArg List.length hc
                  have h2 := congrArg List.length hc'
                  rw [hrow.cells] at h2
                  simp at h1 h2; omega
                · rw [hc', hrow.cells]
                  exact hput2 _ S (Sub.refl _) (fun k hk => hp_setObj_ne (hbne k (by simp at hk ⊢; rcases hk with h | h <;> simp [h]))) (.own u) xs [a.eval y] bs z hz ⟨_, rfl, hrow.mono (Sub.refl _) (fun k hk => hp_setObj_ne (hbsne k hk))⟩
              exact ⟨S, _, hs1.content' hlt (b := b) (by rw [hob]; simp) hnew rfl (nodup_mid' hnd1 hnd (fun k hk hm => (hbs k hk).1 r (by rw [hob, hbb]; exact hm))) (fun k hk => by
                have hk : k ∈ bs ∨ k ∈ b :: (b0 ++ (b1 ++ b2)) := by
                  simp at hk ⊢
                  rcases hk with h | h | h | h <;> simp [h]
                rcases hk with h | h
                · exact .inr (hbs k h)
                · exact .inl (by rw [hob, hbb]; exact h)) (fun b' hne => hp_setObj_ne hne) (hs1.frame.setObj (hs1.fresh r b (by rw [hob]; simp)) _)⟩
            · exact (exec_fail h3).elim
          · exact (exec_fail h3).elim
        · exact (exec_fail h3).elim
      · exact (exec_fail h0'').elim
    obtain ⟨B, fp0b, h0b, hB, hBo, hBd, hrB⟩ := rdK_inv h0'' hs (hb.globS hs)
    obtain ⟨mo, fp1, h1, hmo⟩ := ovK_inv h0b
    clear h0'' h0b
    split at h1
    · -- a value moves in, with what it owns
      rename_i s r
      obtain ⟨rfl, rfl, hne, t0, z0, y0, hys, hyr, hns⟩ := hmo s r rfl
      obtain ⟨fp2, h2⟩ := exec_get h1
      rw [hys] at h2
      dsimp only at h2
      split at h2
      · rename_i hsim
        obtain ⟨_, fp3, h3⟩ := exec_set h2
        obtain ⟨hlt, fp4, h4⟩ := exec_cont h3
        obtain rfl := (exec_ret' h4).2
        obtain ⟨hovt, hvo⟩ := hs.rel s _ (getD_at hys (by simp))
        have hvo' : VRO (hp w) S t0 z0 (a.eval y) (ob s) := by rw [hB.1]; exact hvo
        have hsl := getD_lt hys (by simp)
        have hs1 := hs.drop hsl
        have hF := hs.float (s := s) (o := ob s) (fun b hb => hb) (hs.nd s)
        obtain ⟨b, cs, E', fr, bs, hob, hv', hcs, hfr, hrd⟩ := hs.rel r _ (getD_at hyr (by simp))
        have hcl := hvo'.cells
        obtain ⟨w', cs', hv2, hc', hw'⟩ := run_storeVar0 (P := P) (c0 := []) (c1 := cs.toList) (c2 := []) (off := 0) (v := a.eval y) (hb.tyOk he) hcs hfr (by simp) rfl (by rw [hrd.length, simT_size hsim]) (by rw [hcl.length, simT_size hsim]) hcl.ones
        refine good_skip (w' := w') (by simp [execOp, ho, Instr.storeAt, hA0.1, hv', Instr.sureAddr, hv2]) ?_
        rw [hput]
        subst hw'
        have hnd := hs.nd r
        rw [hob] at hnd
        have hbr : b ∈ (fun i => if i = s then [] else ob i) r := by
          dsimp only; rw [if_neg (fun e => hne e.symm), hob]; simp
        have hbne : ∀ k ∈ ob s, k ≠ b := fun k hk e => by
          subst e; exact hne (hs.inj s r k hk (by rw [hob]; simp))
        have hsize : cs'.size = cs.size := by
          have h1 := congrArg List.length hc'
          have h2 := hrd.length
          have h3 := hcl.length
          simp at h1 h2 h3; omega
        have hnew : ARel (hp (setObj' w b (.cells cs' E' fr))) S (tv a) (.box t0 z0) (tv a r) (b :: ob s) := by
          refine ⟨b, cs', E', fr, ob s, rfl, hv', hp_setObj hcs, hfr.of_size hsize, ?_⟩
          rw [hc']
          have := RdO.move (m' := (b, E')) _ _ _ _ hns hcl
          simpa using this.mono (h' := hp (setObj' w b (.cells cs' E' fr))) (Sub.refl S) _ _ _ _ (fun k hk => hp_setObj_ne (hbne k hk))
        exact ⟨S, _, hs1.content' hlt (b := b) hbr hnew rfl (List.nodup_cons.2 ⟨fun hm => hbne b hm rfl, hs.nd s⟩) (fun k hk => by
          rcases List.mem_cons.1 hk with rfl | hk
          · exact .inl hbr
          · exact .inr (hF.2 k hk)) (fun b' hne' => hp_setObj_ne hne') (hs1.frame.setObj (hs1.fresh r b hbr) _)⟩
      · exact (exec_fail h2).elim
    have h0'' := h1
    obtain ⟨z, st1, fp2, S1, ob1, h2, hs1, hS, hv, hlen⟩ := asK_inv h1 hs hB
    obtain ⟨A, fp3, h3, hA, hAo, hAd, hr⟩ := rdK_inv h2 hs1 (hb.globS hs1)
    clear h0'' h1 h2
    have hrun : ∀ {b off : Nat} {cs : Array Value} {E' : TypeId} {fr : Nat × Nat} {c0 c1 c2 : List Value}, a.eval x = .pointer (some ⟨b, off, none⟩) → hp w b = some (.cells cs E' fr) → Free cs fr →
        cs.toList = c0 ++ (c1 ++ c2) → c0.length = off → c1.length = e.t.size →
        ∃ w' cs', (execOp a.eval o).run P w = .ok .skip w' ∧ cs'.toList = c0 ++ ((a.eval y).cells.toList ++ c2) ∧ w' = setObj' w b (.cells cs' E' fr) := by
      intro b off cs E' fr c0 c1 c2 ex h1 h2 h3 h4 h5
      obtain ⟨w', cs', hv', hc', hw'⟩ := run_storeVar (P := P) (hb.tyOk he) h1 h2 h3 h4 h5 hv
      exact ⟨w', cs', by simp [execOp, ho, Instr.storeAt, ex, Instr.sureAddr, hv'], hc', hw'⟩
    split at h3
    · rename_i r
      obtain ⟨fp4, h4⟩ := exec_get h3
      clear h3
      split at h4
      · rename_i t y0 hy
        split at h4
        · rename_i z' hz'
          obtain ⟨et, ez⟩ := cast_some hz'
          subst et; subst ez
          obtain ⟨hlt, fp5, h5⟩ := exec_cont h4
          obtain rfl := (exec_ret' h5).2
          obtain ⟨b, cs, E', fr, bs, hob, hv', hcs, hfr, hrd⟩ := hs1.rel r _ (getD_at hy (by simp))
          obtain ⟨ebs, hrd⟩ := hrd.rd _ _ _ _ (hb.tyOk he).noOwn
          obtain ⟨w', cs', hr', hc', hw'⟩ := hrun (off := 0) (c0 := []) (c1 := cs.toList) (c2 := []) (by rw [hA.1, hv']) hcs hfr (by simp) rfl (by simpa using hrd.length)
          refine good_skip hr' ?_
          rw [hput]
          subst hw'
          refine ⟨S1, ob1, hs1.content hlt (b := b) (by rw [hob]; simp) ⟨b, cs', E', fr, bs, hob, hv', hp_setObj hcs, hfr.of_size ?_, ?_⟩ rfl (fun b' hne => hp_setObj_ne hne) (hs1.frame.setObj (hs1.fresh r b (by rw [hob]; simp)) _)⟩
          · have h1 := congrArg List.length hc'
            have h2 := hrd.length
            have h3 := hv.cells.length
            simp at h1 h2 h3; omega
          · rw [hc', ebs]; exact RdO.of_rd _ _ _ (by simpa using hv.cells)
        · exact (exec_fail h4).elim
      · exact (exec_fail h4).elim
    · rename_i r n p u q
      obtain ⟨t, y0, u', xs, fp4, h4, hy, hin, hn, hf⟩ := celK_inv h3
      clear h3
      split at h4
      · rename_i xs' hx
        obtain ⟨eu, ex'⟩ := cast_some hx
        cases eu; subst ex'
        obtain ⟨hq, h5⟩ := exec_guard h4
        clear h4
        dsimp only at h5
        split at h5
        · rename_i xs2 hset
          split at h5
          · rename_i Z hZ
            obtain ⟨hlt, fp6, h6⟩ := exec_cont h5
            obtain rfl := (exec_ret' h6).2
            obtain ⟨b', cs, E', fr, c0, c1, c2, ex, hcs, hfr, hc, hl, hrd, hbm, _, hupd⟩ := hs1.pel_open hA hy hin hn hf hq
            have hty : e.t = (foc (.arr 0 u) xs q).1 := by
              have := hupd e.t z (a.eval y).cells.toList xs2 (setObj' w b' (.cells (c0 ++ ((a.eval y).cells.toList ++ c2)).toArray E' fr)) (c0 ++ ((a.eval y).cells.toList ++ c2)).toArray Z hset hv.cells hZ (hp_setObj hcs) (fun k hk => hp_setObj_ne hk) (by simp)
              exact this.1
            obtain ⟨w', cs', hr', hc', hw'⟩ := hrun (by rw [ex, ← hl]) hcs hfr hc rfl (by rw [hrd.length, hty])
            refine good_skip hr' ?_
            rw [hput]
            subst hw'
            obtain ⟨_, hA'⟩ := hupd e.t z _ xs2 _ cs' Z hset hv.cells hZ (hp_setObj hcs) (fun k hk => hp_setObj_ne hk) hc'
            exact ⟨S1, ob1, hs1.content hlt hbm hA' rfl (fun b' hne => hp_setObj_ne hne) (hs1.frame.setObj (hs1.fresh _ _ hbm) _)⟩
          · exact (exec_fail h5).elim
        · exact (exec_fail h5).elim
      · exact (exec_fail h4).elim
    · rename_i r t p
      obtain ⟨t', y0, mk, fp4, h4, hop⟩ := contK_inv h3 hs1
      clear h3
      split at h4
      · rename_i y' hy'
        obtain ⟨et, ey⟩ := cast_some hy'
        subst et; subst ey
        obtain ⟨hin, h5⟩ := exec_guard h4
        clear h4
        dsimp only at h5
        split at h5
        · rename_i y1 hset
          split at h5
          · rename_i y2 hy2
            obtain ⟨et2, ey2⟩ := cast_some hy2
            subst ey2
            obtain ⟨hlt, fp6, h6⟩ := exec_cont h5
            obtain rfl := (exec_ret' h6).2
            obtain ⟨_, b, hbl, ex⟩ := hA
            obtain ⟨_, hob, hp'⟩ := hop.2 b hbl
            obtain ⟨cs, E', fr, c0, c1, c2, b1, hcs, hfr, hc, hl, hrd, hupd⟩ := hp' p hin
            have hty : e.t = (foc t' y0 p).1 := by
              have := hupd e.t z (a.eval y).cells.toList y1 (setObj' w b (.cells (c0 ++ ((a.eval y).cells.toList ++ c2)).toArray E' fr)) (c0 ++ ((a.eval y).cells.toList ++ c2)).toArray hset hv.cells (hp_setObj hcs) (fun k hk => hp_setObj_ne hk) (by simp)
              exact this.1
            obtain ⟨w', cs', hr', hc', hw'⟩ := hrun (by rw [ex, ← hl]) hcs hfr hc rfl (by rw [hrd.length, hty])
            refine good_skip hr' ?_
            rw [hput]
            subst hw'
            obtain ⟨_, hA'⟩ := hupd e.t z _ y1 _ cs' hset hv.cells (hp_setObj hcs) (fun k hk => hp_setObj_ne hk) hc'
            exact ⟨S1, ob1, hs1.content hlt hob hA' (hop.1 _) (fun b' hne => hp_setObj_ne hne) (hs1.frame.setObj (hs1.fresh _ _ hob) _)⟩
          · exact (exec_fail h5).elim
        · exact (exec_fail h5).elim
      · exact (exec_fail h4).elim
    · exact (exec_fail h3).elim
  · exact (exec_fail h).elim
end
end Go.Lift

/- Addresses of fields and elements; slices; conversions. -/
set_option linter.all false
namespace Go.Lift
section
variable {P : Program} {E : Env} {c : Ctx} {st st' : List A} {fp fp' : FP} {a : Act} {w w' : World} {S : Hp} {ob : Nat → List Nat} {o : Oper}

theorem snoc_eq : ∀ (p : List Step) (s : Step), snoc p s = p ++ [s]
  | [], _ => rfl
  | a :: p, s => by rw [snoc, snoc_eq p s]; rfl

theorem offOf_app : ∀ (t : T) (p : List Step) (q : List Step) (u : T), tyAt t p = some u → offOf t (p ++ q) = offOf t p + offOf u q
  | .pair a b, .fld 0 :: p, q, u, h => by simpa [offOf] using offOf_app a p q u (by simpa [tyAt] using h)
  | .pair a b, .fld (i + 1) :: p, q, u, h => by
    have := offOf_app b (.fld i :: p) q u (by simpa [tyAt] using h)
    simp only [List.cons_append] at this
    simp only [offOf, List.cons_append, this]; omega
  | .pair a b, .idx i :: p, q, u, h => by simp [tyAt] at h
  | .arr n t, .idx i :: p, q, u, h => by
    have := offOf_app t p q u (by simpa [tyAt] using h)
    simp only [offOf, List.cons_append, this]; omega
  | .arr n t, .fld i :: p, q, u, h => by simp [tyAt] at h
  | .pair a b, [], q, u, h => by simp [tyAt] at h; subst h; simp [offOf]
  | .arr n t, [], q, u, h => by simp [tyAt] at h; subst h; simp [offOf]
  | .int _, [], q, u, h => by simp [tyAt] at h; subst h; simp [offOf]
  | .bool, [], q, u, h => by simp [tyAt] at h; subst h; simp [offOf]
  | .str, [], q, u, h => by simp [tyAt] at h; subst h; simp [offOf]
  | .opq, [], q, u, h => by simp [tyAt] at h; subst h; simp [offOf]
  | .unit, [], q, u, h => by simp [tyAt] at h; subst h; simp [offOf]
  | .sl _, [], q, u, h => by simp [tyAt] at h; subst h; simp [offOf]
  | .mp _ _, [], q, u, h => by simp [tyAt] at h; subst h; simp [offOf]
  | .mp _ _, s :: p, q, u, h => by simp [tyAt] at h
  | .nb _, [], q, u, h => by simp [tyAt] at h; subst h; simp [offOf]
  | .nb _, s :: p, q, u, h => by simp [tyAt] at h
  | .ifc _ _, [], q, u, h => by simp [tyAt] at h; subst h; simp [offOf]
  | .ifc _ _, s :: p, q, u, h => by simp [tyAt] at h
  | .ptr _, [], q, u, h => by simp [tyAt] at h; subst h; simp [offOf]
  | .own _, [], q, u, h => by simp [tyAt] at h; subst h; simp [offOf]
  | .any, [], q, u, h => by simp [tyAt] at h; subst h; simp [offOf]
  | .byt _, [], q, u, h => by simp [tyAt] at h; subst h; simp [offOf]
  | .self _, [], q, u, h => by simp [tyAt] at h; subst h; simp [offOf]
  | .fn _ _, [], q, u, h => by simp [tyAt] at h; subst h; simp [offOf]
  | .int _, s :: p, q, u, h => by simp [tyAt] at h
  | .bool, s :: p, q, u, h => by simp [tyAt] at h
  | .str, s :: p, q, u, h => by simp [tyAt] at h
  | .opq, s :: p, q, u, h => by simp [tyAt] at h
  | .unit, s :: p, q, u, h => by simp [tyAt] at h
  | .sl _, s :: p, q, u, h => by simp [tyAt] at h
  | .ptr _, s :: p, q, u, h => by simp [tyAt] at h
  | .own _, s :: p, q, u, h => by simp [tyAt] at h
  | .any, s :: p, q, u, h => by simp [tyAt] at h
  | .byt _, s :: p, q, u, h => by simp [tyAt] at h
  | .self _, s :: p, q, u, h => by simp [tyAt] at h
  | .fn _ _, s :: p, q, u, h => by simp [tyAt] at h

theorem lies_sub {S : Hp} {b off : Nat} {c1 d0 d1 d2 : List Value} (h : Lies S b off c1) (e : c1 = d0 ++ (d1 ++ d2)) : Lies S b (off + d0.length) d1 := by
  obtain ⟨all, E, fr, c0, c2, h1, h2, h3⟩ := h
  exact ⟨all, E, fr, c0 ++ d0, d2 ++ c2, h1, by rw [h2, e]; simp, by simp [h3]⟩

theorem run_fieldPlace {g : Field} {eg : TyI} (hg : TyOk P g.type eg) (hsz : eg.size ≠ 0) (b off : Nat) : (fieldPlace ⟨b, off, none⟩ g).run P w = .ok ⟨b, off + g.offset, none⟩ w := by
  simp [fieldPlace, run_sizeOf hg, hsz, addr_add]

theorem fieldAddr_good {s : TypeId} {x : Operand} {f : Nat} (ho : o.op = .fieldAddr s x f) (h : exec E (opCmd E o) st fp = some ((), st', fp')) (hb : Base P E c) (hs : SimD c st a w S ob) : Good P c o a w st' := by
  simp only [opCmd, ho, fieldAddrCmd] at h
  obtain ⟨e, he, h0⟩ := tyK_inv h
  clear h
  split at h0
  · exact (exec_fail h0).elim
  · rename_i hf
    obtain ⟨A, fp1, h1, hA, hAo, hAd, hr⟩ := rdK_inv h0 hs (hb.globS hs)
    clear h0
    obtain ⟨fs, g, eg, hd, hg, heg, hoff, hsz, hty⟩ := fieldOk_parts hf
    have hrun : ∀ {b off : Nat}, a.eval x = .pointer (some ⟨b, off, none⟩) → (execOp a.eval o).run P w = .ok (.value (.pointer (some ⟨b, off + g.offset, none⟩))) w := by
      intro b off ex
      simp [execOp, ho, Instr.fieldAt, run_underlying ((hb.tyOk he).und.trans (by rw [hd])), hg, ex, Instr.sureAddr, run_fieldPlace (hb.tyOk heg) hsz]
    split at h1
    · rename_i t y
      split at h1
      · rename_i y' hy
        obtain ⟨b, off, c1, ex, hl, hrd⟩ := VR.ptr_inv hA.1
        have hrd' : Rd S e.t y' c1 := cast_Rd hy hrd
        obtain ⟨hfoc, hin⟩ := foc_fld_ty e.t y' f eg.t hty
        obtain ⟨d0, d1, d2, hc, hl0, hr0, _⟩ := lens e.t y' [.fld f] _ hrd' hin
        refine good_value (hrun ex) (lay_plain h1 hb hs ?_)
        rw [← hoff, ← hl0]
        exact VR.ptr_mk (lies_sub hl hc) hr0
      · exact (exec_fail h1).elim
    · rename_i r
      obtain ⟨fp2, h2⟩ := exec_get h1
      clear h1
      split at h2
      · rename_i t y hy
        split at h2
        · rename_i ht
          obtain ⟨b, cs, E', fr, bs, hob, hv, hcs, hfr, hrd⟩ := hs.rel r _ (getD_at hy (by simp))
          refine good_value (hrun (b := b) (off := 0) (by rw [hA.1, hv])) (lay_sim h2 hb hs (o' := []) ⟨rfl, b, by rw [hv]; rfl, ?_⟩ (fun b e => by cases e))
          rw [simT_off _ ht hty, hoff, Nat.zero_add]
        · exact (exec_fail h2).elim
      · exact (exec_fail h2).elim
    · rename_i r t p
      split at h1
      · rename_i u hu
        split at h1
        · rename_i htu
          obtain ⟨_, b, hbl, ex⟩ := hA
          refine good_value (hrun ex) (lay_sim h1 hb hs (o' := []) ⟨rfl, b, hbl, ?_⟩ (fun b e => by cases e))
          rw [snoc_eq, offOf_app t p _ _ hu, simT_off _ htu hty, hoff]
        · exact (exec_fail h1).elim
      · exact (exec_fail h1).elim
    · rename_i r n p u q
      split at h1
      · rename_i v hv
        split at h1
        · rename_i htv
          have htv := teq_eq htv
          obtain ⟨_, b, cs, E', fr, b', len, cap, h2, h3, h4, ex⟩ := hA
          refine good_value (hrun ex) (lay_sim h1 hb hs (o' := []) ⟨rfl, b, cs, E', fr, b', len, cap, h2, h3, h4, ?_⟩ (fun b e => by cases e))
          rw [snoc_eq, offOf_app (.arr 0 u) q _ _ hv, htv, hoff]
        · exact (exec_fail h1).elim
      · exact (exec_fail h1).elim
    · exact (exec_fail h1).elim

theorem beq_nat {m n : Nat} (h : Nat.beq m n = true) : m = n := by simpa using h

theorem indexAddr_good {t : TypeId} {x ix : Operand} (ho : o.op = .indexAddr t x ix) (h : exec E (opCmd E o) st fp = some ((), st', fp')) (hb : Base P E c) (hs : SimD c st a w S ob) : Good P c o a w st' := by
  simp only [opCmd, ho, indexAddrCmd] at h
  obtain ⟨e, he, h0⟩ := tyK_inv h
  obtain ⟨I, fp0, h1, hI, hIo, hId, hrI⟩ := rdK_inv h0 hs (hb.globS hs)
  obtain ⟨k, n, h2, hi⟩ := intK_inv h1 hI
  obtain ⟨A, fp1, h3, hA, hAo, hAd, hr⟩ := rdK_inv h2 hs (hb.globS hs)
  clear h h0 h1 h2
  have runS : ∀ {el : TypeId} {ee : TyI} {b off len cap : Nat}, P.underlying t = some (.slice el) → E.ty el = some ee → a.eval x = .slice (some ⟨b, off, none⟩) len cap → inR n len = true →
      (execOp a.eval o).run P w = .ok (.value (.pointer (some ⟨b, off + n.toNat * ee.size, none⟩))) w := by
    intro el ee b off len cap hu hee ex hc
    obtain ⟨h5, h6, h7⟩ := inR_true hc
    simp [execOp, ho, Instr.indexAt, hi, asIntOf, run_underlying hu, ex, h5, h6, run_sizeOf (hb.tyOk hee), addr_add]
  have runA : ∀ {el : TypeId} {ee : TyI} {b off m : Nat}, P.underlying t = some (.array m el) → E.ty el = some ee → a.eval x = .pointer (some ⟨b, off, none⟩) → inR n m = true →
      (execOp a.eval o).run P w = .ok (.value (.pointer (some ⟨b, off + n.toNat * ee.size, none⟩))) w := by
    intro el ee b off m hu hee ex hc
    obtain ⟨h5, h6, h7⟩ := inR_true hc
    simp [execOp, ho, Instr.indexAt, hi, asIntOf, run_underlying hu, ex, Instr.sureAddr, h5, h6, run_sizeOf (hb.tyOk hee), addr_add]
  split at h3
  · -- a slice of data
    rename_i x1 x2 a0 u xs hsl
    split at h3
    · rename_i hel
      obtain ⟨el, hd, hu⟩ := slT hb.env he hsl
      obtain ⟨ee, hee, het⟩ := elemT_sl hd hel
      subst het
      obtain ⟨hc, h4⟩ := exec_guard h3
      obtain ⟨h5, h6, h7⟩ := inR_true hc
      obtain ⟨ad, cap, ex, hcap, hm⟩ := VR.sl_inv hA.1
      rcases hm with hm | ⟨b, off, c1, had, hl, hall⟩
      · rw [hm] at h7; simp at h7
      · subst had
        obtain ⟨d0, d1, d2, hd1, hl0, hr1, _, _⟩ := All.at (Rd.length ee.t) hall h7 ee.t.dflt
        refine good_value (runS hu hee ex hc) (lay_plain h4 hb hs ?_)
        rw [← (hb.tyOk hee).size, ← hl0]
        exact VR.ptr_mk (lies_sub hl hd1) hr1
    · exact (exec_fail h3).elim
  · -- an owned row
    rename_i x1 x2 a0 r hsl
    obtain ⟨fp2, h4⟩ := exec_get h3
    clear h3
    split at h4
    · rename_i u xs hy
      split at h4
      · rename_i hel
        obtain ⟨el, hd, hu⟩ := slT hb.env he hsl
        obtain ⟨ee, hee, het⟩ := elemT_sl hd hel
        subst het
        obtain ⟨hc, h5⟩ := exec_guard h4
        obtain ⟨h6, h7, h8⟩ := inR_true hc
        rcases hs.row_at hy with ⟨hx, _, _⟩ | ⟨b, cap, cs, E', fr, hob, hv, hcs, hfr, hsz, hle, hall⟩
        · rw [hx] at h8; simp at h8
        · refine good_value (runS (off := 0) hu hee (by rw [hA.1, hv]) hc) (lay_sim h5 hb hs (o' := []) ⟨rfl, b, by rw [hv]; cases cap with
            | zero => exact absurd (Nat.lt_of_lt_of_le h8 hle) (by omega)
            | succ m => rfl, ?_⟩ (fun b e => by cases e))
          rw [← (hb.tyOk hee).size]; simp [offOf]
      · exact (exec_fail h4).elim
    · exact (exec_fail h4).elim
  · -- an array of data
    rename_i x1 x2 a0 m m' u xs hm
    split at h3
    · rename_i hck
      obtain ⟨hmm, hel⟩ := and'_true hck
      obtain ⟨el, hd, hu⟩ := arrT hb.env he hm
      obtain ⟨ee, hee, het⟩ := elemT_arr hd hel
      subst het
      have hmm := beq_nat hmm
      subst hmm
      obtain ⟨hc, h4⟩ := exec_guard h3
      obtain ⟨h5, h6, h7⟩ := inR_true hc
      obtain ⟨b, off, c1, ex, hl, hrd⟩ := VR.ptr_inv hA.1
      obtain ⟨hn, hall⟩ := hrd
      obtain ⟨d0, d1, d2, hd1, hl0, hr1, _, _⟩ := All.at (Rd.length ee.t) hall (by omega : n.toNat < xs.length) ee.t.dflt
      refine good_value (runA hu hee ex hc) (lay_plain h4 hb hs ?_)
      rw [← (hb.tyOk hee).size, ← hl0]
      exact VR.ptr_mk (lies_sub hl hd1) hr1
    · exact (exec_fail h3).elim
  · -- an owned array
    rename_i x1 x2 a0 m r hm x3
    obtain ⟨fp2, h4⟩ := exec_get h3
    clear h3
    split at h4
    · rename_i m' u xs hy
      split at h4
      · rename_i hck
        obtain ⟨hmm, hel⟩ := and'_true hck
        obtain ⟨el, hd, hu⟩ := arrT hb.env he hm
        obtain ⟨ee, hee, het⟩ := elemT_arr hd hel
        subst het
        have hmm := beq_nat hmm
        subst hmm
        obtain ⟨hc, h5⟩ := exec_guard h4
        obtain ⟨b, cs, E', fr, bs, hob, hv, hcs, hfr, hrd⟩ := hs.rel r _ (getD_at hy (by simp))
        refine good_value (runA (off := 0) hu hee (by rw [hA.1, hv]) hc) (lay_sim h5 hb hs (o' := []) ⟨rfl, b, by rw [hv]; rfl, ?_⟩ (fun b e => by cases e))
        rw [← (hb.tyOk hee).size]; simp [offOf]
      · exact (exec_fail h4).elim
    · exact (exec_fail h4).elim
  · -- an array inside
    rename_i x1 x2 a0 m r u p hm
    split at h3
    · rename_i m' v hty
      split at h3
      · rename_i hck
        obtain ⟨hmm, hel⟩ := and'_true hck
        obtain ⟨el, hd, hu⟩ := arrT hb.env he hm
        obtain ⟨ee, hee, het⟩ := elemT_arr hd hel
        subst het
        have hmm := beq_nat hmm
        subst hmm
        obtain ⟨hc, h5⟩ := exec_guard h3
        obtain ⟨_, b, hbl, ex⟩ := hA
        refine good_value (runA hu hee ex hc) (lay_sim h5 hb hs (o' := []) ⟨rfl, b, hbl, ?_⟩ (fun b e => by cases e))
        rw [snoc_eq, offOf_app _ p _ _ hty, ← (hb.tyOk hee).size]; simp [offOf]
      · exact (exec_fail h3).elim
    · exact (exec_fail h3).elim
  · -- a row inside a box
    rename_i r n0 p hsl
    obtain ⟨t1, y1, u, xs, fp2, h4, hy, hin, hn, hf⟩ := celK_inv h3
    clear h3
    split at h4
    · rename_i hel
      obtain ⟨el, hd, hu⟩ := slT hb.env he hsl
      obtain ⟨ee, hee, het⟩ := elemT_sl hd hel
      subst het
      obtain ⟨hc, h5⟩ := exec_guard h4
      obtain ⟨b, cs, E', fr, b0, b1, b2, c0, c2, hob, hv, hcs, hfr, hcc, hl, hrow, _⟩ := hs.cel_row hA hy hin hn hf
      obtain ⟨_, _, h7⟩ := inR_true hc
      rcases hrow with ⟨e, _, _⟩ | ⟨b', cap, cs2, E2, fr2, e1, e2, _⟩
      · rw [e] at h7; simp at h7
      · have hcell : cs[n0]? = some (a.eval x) := by
          rw [← Array.getElem?_toList, hcc, List.getElem?_append_right (by omega), hl, Nat.sub_self]; rfl
        refine good_value (runS hu hee e2 hc) (lay_sim h5 hb hs (o' := []) ⟨rfl, b, cs, E', fr, b', xs.length, cap, by rw [hv]; rfl, hcs, by rw [hcell, e2], ?_⟩ (fun b e => by cases e))
        rw [← (hb.tyOk hee).size]; simp [offOf, offOf_nil]
    · exact (exec_fail h4).elim
  · -- an array inside an element
    rename_i m r n0 p u q hm
    split at h3
    · rename_i m' v hty
      split at h3
      · rename_i hck
        obtain ⟨hmm, hel⟩ := and'_true hck
        obtain ⟨el, hd, hu⟩ := arrT hb.env he hm
        obtain ⟨ee, hee, het⟩ := elemT_arr hd hel
        subst het
        have hmm := beq_nat hmm
        subst hmm
        obtain ⟨hc, h5⟩ := exec_guard h3
        obtain ⟨_, b, cs, E', fr, b', len, cap, e2, e3, e4, ex⟩ := hA
        refine good_value (runA hu hee ex hc) (lay_sim h5 hb hs (o' := []) ⟨rfl, b, cs, E', fr, b', len, cap, e2, e3, e4, ?_⟩ (fun b e => by cases e))
        rw [snoc_eq, offOf_app _ q _ _ hty, ← (hb.tyOk hee).size]; simp [offOf]
      · exact (exec_fail h3).elim
    · exact (exec_fail h3).elim
  · exact (exec_fail h3).elim
end
end Go.Lift

/- Slices, conversions, literals, new slices, ranges over strings. -/
set_option linter.all false
namespace Go.Lift
section
variable {P : Program} {E : Env} {c : Ctx} {st st' : List A} {fp fp' : FP} {a : Act} {w w' : World} {S : Hp} {ob : Nat → List Nat} {o : Oper}

/-! ## slice expressions -/

theorem cut_length {α : Type} {xs : List α} {l h : Nat} (hh : h ≤ xs.length) : (cut xs l h).length = h - l := by
  simp [cut, Nat.min_eq_left hh]

theorem All.cut {α : Type} {R : α → List Value → Prop} {n : Nat} (hn : ∀ x cs, R x cs → cs.length = n) {xs : List α} {cs : List Value} (hA : All R xs cs) {l h : Nat} (hl : l ≤ h) (hh : h ≤ xs.length) :
    ∃ d0 d1 d2, cs = d0 ++ (d1 ++ d2) ∧ d0.length = l * n ∧ All R (Lift.cut xs l h) d1 := by
  have e : xs = (xs.take l) ++ ((xs.take h).drop l ++ xs.drop h) := by
    conv => lhs; rw [← List.take_append_drop h xs]
    conv => lhs; lhs; rw [← List.take_append_drop l (xs.take h)]
    rw [List.take_take, Nat.min_eq_left hl, List.append_assoc]
  rw [e] at hA
  obtain ⟨d0, d3, e0, h0, h3⟩ := All.split hA
  obtain ⟨d1, d2, e1, h1, h2⟩ := All.split h3
  refine ⟨d0, d1, d2, by rw [e0, e1], ?_, h1⟩
  rw [All.length hn _ _ h0, List.length_take, Nat.min_eq_left (by omega)]

inductive OptRel (a : Act) : Option Operand → Option Int → Prop
  | none : OptRel a none none
  | some {x : Operand} {k : IntKind} {n : Int} (h : a.eval x = .int k n) : OptRel a (some x) (some n)

theorem optK_inv {α : Type} {r : α × List A × FP} {x : Option Operand} {k : Option Int → Cmd α} (h : exec E (optK E x k) st fp = some r) (hb : Base P E c) (hs : SimD c st a w S ob) :
    ∃ n fp', exec E (k n) st fp' = some r ∧ OptRel a x n := by
  cases x with
  | none => exact ⟨none, fp, h, .none⟩
  | some x =>
    simp only [optK] at h
    obtain ⟨I, fp0, h1, hI, hIo, hId, hrI⟩ := rdK_inv h hs (hb.globS hs)
    obtain ⟨j, n, h2, hi⟩ := intK_inv h1 hI
    exact ⟨some n, fp0, h2, .some hi⟩

theorem run_sliceBound {x : Value} {k : IntKind} {n : Int} {y : Nat} {code : BoundsCode} (hx : x = .int k n) (h0 : 0 ≤ n) (h1 : n ≤ y) : (Instr.sliceBound x y code).run P w = .ok n.toNat w := by
  subst hx
  simp [Instr.sliceBound, asIntOf, h0, h1]

theorem bndK_inv {α : Type} {r : α × List A × FP} {lo hi : Option Operand} {l h : Option Int} {n : Nat} {k : Nat → Nat → Cmd α} (hx : exec E (bndK l h n k) st fp = some r) (hl : OptRel a lo l) (hh : OptRel a hi h)
    (isSlice : Bool) {cap : Nat} (hc : n ≤ cap) :
    ∃ i j fp', exec E (k i j) st fp' = some r ∧ i ≤ j ∧ j ≤ n ∧ (Instr.sliceBounds isSlice n cap (lo.map a.eval) (hi.map a.eval) none).run P w = .ok (i, j, cap) w := by
  cases hl with
  | none =>
    cases hh with
    | none => exact ⟨0, n, fp, hx, Nat.zero_le _, Nat.le_refl _, by simp [Instr.sliceBounds]⟩
    | some e =>
      simp only [bndK] at hx
      obtain ⟨hc1, hx⟩ := exec_guard hx
      have hc1 := of_decide_eq_true hc1
      refine ⟨0, _, fp, hx, Nat.zero_le _, by omega, ?_⟩
      simp [Instr.sliceBounds, run_sliceBound e hc1.1 (by omega : _ ≤ (cap : Int))]
  | some e =>
    cases hh with
    | none =>
      simp only [bndK] at hx
      obtain ⟨hc1, hx⟩ := exec_guard hx
      have hc1 := of_decide_eq_true hc1
      refine ⟨_, n, fp, hx, by omega, Nat.le_refl _, ?_⟩
      simp [Instr.sliceBounds, run_sliceBound e hc1.1 hc1.2]
    | some e' =>
      rename_i x1 k1 n1 x2 k2 n2
      simp only [bndK] at hx
      obtain ⟨hc1, hx⟩ := exec_guard hx
      have hc1 := of_decide_eq_true hc1
      obtain ⟨hc2, hx⟩ := exec_guard hx
      have hc2 := of_decide_eq_true hc2
      refine ⟨_, _, fp, hx, by omega, by omega, ?_⟩
      simp [Instr.sliceBounds, run_sliceBound e' hc1.1 (by omega : n2 ≤ (cap : Int)), run_sliceBound e hc2.1 (by omega : n1 ≤ ((n2.toNat : Nat) : Int))]

theorem bnd3_inv {α : Type} {r : α × List A × FP} {lo hi : Option Operand} {l : Option Int} {h mxn : Int} {mx : Operand} {km : IntKind} {n : Nat} {k : Nat → Nat → Cmd α} (hx : exec E (bndK l (some h) n k) st fp = some r) (hl : OptRel a lo l) (hh : OptRel a hi (some h))
    (hm : a.eval mx = .int km mxn) (h1 : h ≤ mxn) (h2 : mxn ≤ (n : Int)) {cap : Nat} (hc : n ≤ cap) :
    ∃ i j fp', exec E (k i j) st fp' = some r ∧ i ≤ j ∧ j ≤ mxn.toNat ∧ (Instr.sliceBounds true n cap (lo.map a.eval) (hi.map a.eval) (some (a.eval mx))).run P w = .ok (i, j, mxn.toNat) w := by
  cases hh with
  | some e =>
    rename_i x1 k1
    cases hl with
    | none =>
      simp only [bndK] at hx
      obtain ⟨hc1, hx⟩ := exec_guard hx
      have hc1 := of_decide_eq_true hc1
      refine ⟨0, _, fp, hx, Nat.zero_le _, by omega, ?_⟩
      simp [Instr.sliceBounds, run_sliceBound hm (by omega : 0 ≤ mxn) (by omega : mxn ≤ (cap : Int)), run_sliceBound e hc1.1 (by omega : h ≤ ((mxn.toNat : Nat) : Int))]
    | some e' =>
      rename_i x2 k2 n2
      simp only [bndK] at hx
      obtain ⟨hc1, hx⟩ := exec_guard hx
      have hc1 := of_decide_eq_true hc1
      obtain ⟨hc2, hx⟩ := exec_guard hx
      have hc2 := of_decide_eq_true hc2
      refine ⟨_, _, fp, hx, by omega, by omega, ?_⟩
      simp [Instr.sliceBounds, run_sliceBound hm (by omega : 0 ≤ mxn) (by omega : mxn ≤ (cap : Int)), run_sliceBound e hc1.1 (by omega : h ≤ ((mxn.toNat : Nat) : Int)), run_sliceBound e' hc2.1 (by omega : n2 ≤ ((h.toNat : Nat) : Int))]

theorem slice_good {t : TypeId} {x : Operand} {lo hi mx : Option Operand} (ho : o.op = .slice t x lo hi mx) (h : exec E (opCmd E o) st fp = some ((), st', fp')) (hb : Base P E c) (hs : SimD c st a w S ob) :
    Good P c o a w st' := by
  simp only [opCmd, ho] at h
  unfold sliceCmd at h
  split at h
  · rename_i mx
    obtain ⟨e, he, h0⟩ := tyK_inv h
    obtain ⟨l, fp1, h1, hl⟩ := optK_inv h0 hb hs
    obtain ⟨hh, fp2, h2, hhr⟩ := optK_inv h1 hb hs
    obtain ⟨M, fp2b, h2b, hM, hMo, hMd, hrM⟩ := rdK_inv h2 hs (hb.globS hs)
    obtain ⟨km, mxn, h2c, hmx⟩ := intK_inv h2b hM
    obtain ⟨A, fp3, h3, hA, hAo, hAd, hr⟩ := rdK_inv h2c hs (hb.globS hs)
    clear h h0 h1 h2 h2b h2c
    split at h3
    · rename_i hsl
      obtain ⟨el, hd, hu⟩ := slT hb.env he hsl
      obtain ⟨d, st1, fp4, S1, ob1, h4, hs1, hS, hv, hlen⟩ := datK_inv h3 hs hA
      clear h3
      split at h4
      · rename_i u xs
        split at h4
        · rename_i hel
          obtain ⟨ee, hee, het⟩ := elemT_sl hd hel
          subst het
          change VR S1 (.sl ee.t) xs _ at hv
          obtain ⟨ad, cap, ex, hcap, hm⟩ := VR.sl_inv hv
          split at h4
          · rename_i h
            obtain ⟨hck, h4⟩ := exec_guard h4
            have hck := of_decide_eq_true hck
            obtain ⟨i, j, fp5, h5, hij, hj, hrun⟩ := bnd3_inv (P := P) (w := w) h4 hl hhr hmx hck.1 hck.2 hcap
            have hsz := (hb.tyOk hee).size
            have hj' : j ≤ xs.length := by omega
            refine good_value (v := .slice (if mxn.toNat = i then ad else ad.map (·.add (i * ee.size))) (j - i) (mxn.toNat - i)) (w' := w) ?_ (lay_plain h5 hb hs1 ?_)
            · simp [execOp, ho, Instr.sliceAt, run_underlying hu, Instr.slice, ex, hrun, run_sizeOf (hb.tyOk hee)]
            · refine VR.of_one rfl ⟨_, _, by rw [cut_length hj'], by rw [cut_length hj']; omega, ?_⟩
              rcases hm with hm | ⟨b, off, c1, had, hl1, hall⟩
              · left; rw [hm]; simp [cut]
              · by_cases hij' : i = j
                · left
                  have := cut_length (l := i) hj'
                  rw [hij', Nat.sub_self] at this
                  rw [hij']
                  exact List.length_eq_zero_iff.1 this
                · right
                  obtain ⟨d0, d1, d2, hc1, hd0, hall'⟩ := hall.cut (Rd.length ee.t) hij hj'
                  refine ⟨b, off + i * ee.size, d1, ?_, ?_, hall'⟩
                  · rw [if_neg (by omega), had]; simp [addr_add]
                  · rw [← hsz, ← hd0]; exact lies_sub hl1 hc1
          · exact (exec_fail h4).elim
        · exact (exec_fail h4).elim
      · exact (exec_fail h4).elim
    · exact (exec_fail h3).elim
  obtain ⟨e, he, h0⟩ := tyK_inv h
  obtain ⟨l, fp1, h1, hl⟩ := optK_inv h0 hb hs
  obtain ⟨hh, fp2, h2, hhr⟩ := optK_inv h1 hb hs
  obtain ⟨A, fp3, h3, hA, hAo, hAd, hr⟩ := rdK_inv h2 hs (hb.globS hs)
  clear h h0 h1 h2
  split at h3
  · rename_i x1 x2 hstr
    have hu := strT hb.env he hstr
    split at h3
    · rename_i s
      have ex : a.eval x = .string ⟨⟨s⟩⟩ := hA.1.str_inv
      obtain ⟨i, j, fp4, h4, hij, hj, hrun⟩ := bndK_inv (P := P) (w := w) h3 hl hhr false (Nat.le_refl _)
      refine good_value (v := .string ⟨⟨cut s i j⟩⟩) (w' := w) ?_ (lay_plain h4 hb hs VR.str)
      have hsz := size_str s
      have hex : (⟨⟨s⟩⟩ : ByteArray).extract i j = ⟨⟨cut s i j⟩⟩ := by
        apply ByteArray.ext
        rw [ByteArray.data_extract]
        apply Array.toList_inj.1
        rw [Array.toList_extract]
        simp only [List.extract, cut, List.drop_take]
      simp only [execOp, ho, Instr.sliceAt, Sem.run_bind, run_underlying hu, Result.andThen_ok, Instr.slice, ex, hsz, Option.map_none, Option.isSome_none, Bool.false_eq_true, if_false, Sem.run_pure, hrun, hex]
    · exact (exec_fail h3).elim
  · rename_i x1 x2 hsl x3
    obtain ⟨el, hd, hu⟩ := slT hb.env he hsl
    obtain ⟨d, st1, fp4, S1, ob1, h4, hs1, hS, hv, hlen⟩ := datK_inv h3 hs hA
    clear h3
    split at h4
    · rename_i u xs
      split at h4
      · rename_i hel
        obtain ⟨ee, hee, het⟩ := elemT_sl hd hel
        subst het
        change VR S1 (.sl ee.t) xs _ at hv
        obtain ⟨ad, cap, ex, hcap, hm⟩ := VR.sl_inv hv
        obtain ⟨i, j, fp5, h5, hij, hj, hrun⟩ := bndK_inv (P := P) (w := w) h4 hl hhr true hcap
        have hsz := (hb.tyOk hee).size
        refine good_value (v := .slice (if cap = i then ad else ad.map (·.add (i * ee.size))) (j - i) (cap - i)) (w' := w) ?_ (lay_plain h5 hb hs1 ?_)
        · simp [execOp, ho, Instr.sliceAt, run_underlying hu, Instr.slice, ex, hrun, run_sizeOf (hb.tyOk hee)]
        · refine VR.of_one rfl ⟨_, _, by rw [cut_length hj], by rw [cut_length hj]; omega, ?_⟩
          rcases hm with hm | ⟨b, off, c1, had, hl1, hall⟩
          · left; rw [hm]; simp [cut]
          · by_cases hij' : i = j
            · left
              have := cut_length (l := i) hj
              rw [hij', Nat.sub_self] at this
              rw [hij']
              exact List.length_eq_zero_iff.1 this
            · right
              obtain ⟨d0, d1, d2, hc1, hd0, hall'⟩ := hall.cut (Rd.length ee.t) hij hj
              refine ⟨b, off + i * ee.size, d1, ?_, ?_, hall'⟩
              · rw [if_neg (by omega), had]; simp [addr_add]
              · rw [← hsz, ← hd0]; exact lies_sub hl1 hc1
      · exact (exec_fail h4).elim
    · exact (exec_fail h4).elim
  · split at h3
    · rename_i m r n p u q hm
      split at h3
      · rename_i m' v hty
        split at h3
        · rename_i hck
          obtain ⟨hmm, hel⟩ := and'_true hck
          obtain ⟨el, hd, hu⟩ := arrT hb.env he hm
          obtain ⟨ee, hee, het⟩ := elemT_arr hd hel
          subst het
          have hmm := beq_nat hmm
          subst hmm
          obtain ⟨_, b, cs, E', fr, b', len, cap, e2, e3, e4, ex⟩ := hA
          obtain ⟨i, j, fp4, h4, hij, hj, hrun⟩ := bndK_inv (P := P) (w := w) h3 hl hhr false (Nat.le_refl _)
          refine good_value (v := .slice (some (if m = i then ⟨b', offOf (.arr 0 u) q, none⟩ else (⟨b', offOf (.arr 0 u) q, none⟩ : Addr).add (i * ee.size))) (j - i) (m - i)) (w' := w) ?_
            (lay_sim h4 hb hs (o' := []) ⟨rfl, b, cs, E', fr, b', len, cap, e2, e3, e4, m, ee.t, m - i, (if m = i then ⟨b', offOf (.arr 0 u) q, none⟩ else (⟨b', offOf (.arr 0 u) q, none⟩ : Addr).add (i * ee.size)).off, hty, hij, hj, by omega, ?_, ?_⟩ (fun b e => by cases e))
          · simp [execOp, ho, Instr.sliceAt, run_underlying hu, ex, Instr.sureAddr, hrun, run_sizeOf (hb.tyOk hee)]
          · intro hlt
            rw [if_neg (by omega), (hb.tyOk hee).size]
            simp [addr_add]
          · split <;> simp [addr_add]
        · exact (exec_fail h3).elim
      · exact (exec_fail h3).elim
    · exact (exec_fail h3).elim

/-- the array that a slice of one lies in, inside a row of a box -/
theorem SimD.psl_open (hs : SimD c st a w S ob) {r n lo hi : Nat} {p q : List Step} {u : T} {v : Value} (hA : ARel (hp w) S (tv a) (.psl r n p u q lo hi) v []) {t : T} {x : t.den} (hy : st.getD r .dead = .box t x) (hin : inb t x p = true) (hn : n = offOf t p) {xs : List u.den} (hf : foc t x p = ⟨.own u, xs⟩) (hq : inb' (.arr 0 u) xs q = true) :
    ∃ (m : Nat) (t' : T) (zs : List t'.den) (b' : Nat) (cs : Array Value) (E' : TypeId) (fr : Nat × Nat) (c0 c1 c2 : List Value) (cap2 off : Nat), foc (.arr 0 u) xs q = ⟨.arr m t', zs⟩ ∧ zs.length = m ∧ lo ≤ hi ∧ hi ≤ m ∧ hi - lo ≤ cap2 ∧ (lo < hi → off = c0.length + lo * t'.size) ∧ v = .slice (some ⟨b', off, none⟩) (hi - lo) cap2 ∧
      hp w b' = some (.cells cs E' fr) ∧ Free cs fr ∧ cs.toList = c0 ++ (c1 ++ c2) ∧ All (Rd S t') zs c1 ∧ b' ∈ ob r ∧ r < st.length ∧
      ∀ (t2 : T) (z : t2.den) (d : List Value) (xs' : List u.den) (w' : World) (cs' : Array Value) (Z : Dat), setAt (.arr 0 u) xs q t2 z = some xs' → Rd S t2 z d → putAt t x p (.own u) xs' = some Z → hp w' b' = some (.cells cs' E' fr) → (∀ k, k ≠ b' → hp w' k = hp w k) → cs'.toList = c0 ++ (d ++ c2) →
        t2 = .arr m t' ∧ ARel (hp w') S (tv a) (.box Z.1 Z.2) (tv a r) (ob r) := by
  obtain ⟨_, b, csb, Eb, frb, b', len, cap, hbl, hcb, hcell, m, t', cap2, off, hty, h1, h2, h3, h4, hv⟩ := hA
  obtain ⟨b2, cs, E', fr, c0, c1, c2, ep, hcs, hfr, hc, hl, hrd, hbm, hr, hup⟩ := hs.pel_open (v := .pointer (some ⟨b', offOf (.arr 0 u) q, none⟩)) ⟨rfl, b, csb, Eb, frb, b', len, cap, hbl, hcb, hcell, rfl⟩ hy hin hn hf hq
  have hb' : b2 = b' := by cases ep; rfl
  subst hb'
  have hfo := tyAt_foc (.arr 0 u) xs q _ hty
  generalize hz : foc (.arr 0 u) xs q = z at *
  obtain ⟨zt, zx⟩ := z
  dsimp only at hrd hup hfo
  subst hfo
  obtain ⟨hzl, hall⟩ := hrd
  exact ⟨m, t', zx, b2, cs, E', fr, c0, c1, c2, cap2, off, rfl, hzl, h1, h2, h3, fun h => by rw [hl]; exact h4 h, hv, hcs, hfr, hc, hall, hbm, hr, hup⟩

theorem lookP_inv {α : Type} {r : α × List Lift.A × FP} {A : Lift.A} {v : Value} {k : Dat → Cmd α} (h : exec E (lookP A k) st fp = some r) (hs : SimD c st a w S ob) (hA : ARel (hp w) S (tv a) A v []) :
    ∃ d fp', exec E (k d) st fp' = some r ∧ VR (hp w) d.1 d.2 v := by
  unfold lookP at h
  split at h
  · rename_i r' n p u q lo hi
    obtain ⟨t, x, u', xs, fp1, h, hy, hin, hn, hf⟩ := celK_inv h
    split at h
    · rename_i xs' hx
      obtain ⟨eu, ex'⟩ := cast_some hx
      cases eu; subst ex'
      obtain ⟨hq, h⟩ := exec_guard h
      obtain ⟨m, t', zs, b', cs, E', fr, c0, c1, c2, cap2, off, hz, hzl, h1, h2, h3, h4, hv, hcs, hfr, hc, hall, _⟩ := hs.psl_open hA hy hin hn hf hq
      dsimp only at h
      rw [hz] at h
      refine ⟨_, fp1, h, VR.of_one rfl ⟨some ⟨b', off, none⟩, cap2, ?_, ?_, ?_⟩⟩
      · rw [cut_length (by omega), hv]
      · rw [cut_length (by omega)]; exact h3
      · by_cases hlt : lo < hi
        · right
          obtain ⟨d0, d1, d2, hc1, hd0, hall'⟩ := hall.cut (Rd.length t') h1 (by omega)
          refine ⟨b', off, d1, rfl, ?_, All.mono (Rd.mono hs.sub t') _ _ hall'⟩
          rw [h4 hlt, ← hd0]
          exact lies_sub ⟨cs, E', fr, c0, c2, hcs, hc, rfl⟩ hc1
        · left
          apply List.length_eq_zero_iff.1
          rw [cut_length (by omega)]
          omega
    · exact (exec_fail h).elim
  · exact lookK_inv h hs hA

/-! ## conversions -/

theorem byteT {e : TyI} {i : TypeId} (hb : EnvOk P E) (he : E.ty i = some e) (h : isByteSl E e.desc = true) : ∃ el, P.underlying i = some (.slice el) ∧ P.underlying el = some (.int .u8) ∧ e.desc = .slice el ∧ ∃ ee, E.ty el = some ee := by
  unfold isByteSl at h
  split at h
  · rename_i el hd
    split at h
    · rename_i ee hee
      split at h
      · rename_i hde
        exact ⟨el, by rw [(hb.ty _ _ he).und, hd], by rw [(hb.ty _ _ hee).und, hde], hd, ee, hee⟩
      · simp at h
    · simp at h
  · simp at h

theorem All_ints {S : Hp} {k : IntKind} : ∀ (xs : List Int) (cs : List Value), All (Rd S (.int k)) xs cs → cs = xs.map (Value.int k)
  | [], _, h => h
  | x :: xs, _, ⟨c1, c2, e, h1, h2⟩ => by
    rw [e, All_ints xs c2 h2]
    have : c1 = [.int k x] := h1
    rw [this]; rfl

theorem All_ints_mk {S : Hp} {k : IntKind} : ∀ (xs : List Int), All (Rd S (.int k)) xs (xs.map (Value.int k))
  | [] => rfl
  | x :: xs => ⟨[.int k x], _, rfl, rfl, All_ints_mk xs⟩

theorem foldl_push (ns : List Int) : ∀ (l : List UInt8), ns.foldl (fun r n => r.push (UInt8.ofNat n.toNat)) (⟨⟨l⟩⟩ : ByteArray) = ⟨⟨l ++ toStr ns⟩⟩ := by
  induction ns with
  | nil => intro l; simp [toStr]
  | cons n ns ih =>
    intro l
    have : (⟨⟨l⟩⟩ : ByteArray).push (UInt8.ofNat n.toNat) = ⟨⟨l ++ [UInt8.ofNat n.toNat]⟩⟩ := by
      simp [ByteArray.push]
    rw [List.foldl_cons, this, ih]
    simp [toStr]

theorem run_markStringish {ad : Addr} {E : TypeId} {n : Nat} (h : w.shape? ad.block = some (E, n)) : (markStringish ad).run P w = .ok () (w.freeze { block := ad.block, off := n } 1) := by
  simp [markStringish, h]

theorem conv_good {s t : TypeId} {x : Operand} (ho : o.op = .convert s t x) (h : exec E (opCmd E o) st fp = some ((), st', fp')) (hb : Base P E c) (hs : SimD c st a w S ob) : Good P c o a w st' := by
  simp only [opCmd, ho] at h
  unfold convCmd at h
  obtain ⟨es, hes, h0⟩ := tyK_inv h
  obtain ⟨e, he, h1⟩ := tyK_inv h0
  obtain ⟨A, fp3, h3, hA, hAo, hAd, hr⟩ := rdK_inv h1 hs (hb.globS hs)
  clear h h0 h1
  have hus := (hb.tyOk hes).und
  have hut := (hb.tyOk he).und
  split at h3
  · rename_i x1 a0 k k' n hd
    have ex : a.eval x = .int k' n := hA.1.int_inv
    rw [hd] at hut
    exact good_value (v := .int k (k.wrap n)) (w' := w) (by simp [execOp, ho, convert, run_underlying hus, run_underlying hut, ex, Conv.intToInt]) (lay_plain h3 hb hs VR.int)
  · rename_i x1 a0 u hd
    have ex : a.eval x = .string ⟨⟨u⟩⟩ := hA.1.str_inv
    rw [hd] at hut
    exact good_value (v := .string ⟨⟨u⟩⟩) (w' := w) (by simp [execOp, ho, convert, run_underlying hus, run_underlying hut, ex]) (lay_plain h3 hb hs VR.str)
  · rename_i x1 a0 hd hne
    rw [hd] at hut
    split at h3
    · rename_i hby
      obtain ⟨el, hu, hue, hde, ee, hee⟩ := byteT hb.env hes hby
      split at h3
      · have ex : a.eval x = .slice none 0 0 := hA.1
        exact good_value (v := .string ⟨⟨[]⟩⟩) (w' := w) (by simp [execOp, ho, convert, run_underlying hu, run_underlying hut, run_underlying hue, ex, Conv.bytesToString]; rfl) (lay_plain h3 hb hs VR.str)
      · obtain ⟨d, fp4, h4, hv⟩ := lookP_inv h3 hs hA
        clear h3
        split at h4
        · rename_i xs
          obtain ⟨ad, cap, ex, hcap, hm⟩ := VR.sl_inv hv
          have hload : ∀ b, ad = some b → (loadCells b (List.length xs)).run P w = .ok (xs.map (Value.int .u8)).toArray w := by
            intro b hb'
            rcases hm with hm | ⟨b', off, c1, had, hl1, hall⟩
            · subst hm; rfl
            · rw [hb'] at had; cases had
              have hc1 := All_ints _ _ hall
              have := run_loadCells_lies (P := P) hl1
              rw [hc1, List.length_map] at this
              exact this
          refine good_value (v := .string ⟨⟨toStr xs⟩⟩) (w' := w) ?_ (lay_plain h4 hb hs VR.str)
          have hconv : (Conv.bytesToString (a.eval x)).run P w = .ok (.string ⟨⟨toStr xs⟩⟩) w := by
            rw [ex]
            cases had : ad with
            | none =>
              rcases hm with hm | ⟨b', off, c1, had', _⟩
              · subst hm; rfl
              · rw [had] at had'; cases had'
            | some b =>
              rw [run_bytesToString w b xs.length cap xs (hload b had)]
              have := foldl_push xs []
              simp only [List.nil_append] at this
              rw [show (ByteArray.empty) = (⟨⟨[]⟩⟩ : ByteArray) from rfl, this]
          rw [ex] at hconv
          simp [execOp, ho, convert, run_underlying hu, run_underlying hut, run_underlying hue, ex, hconv]
        · exact (exec_fail h4).elim
    · exact (exec_fail h3).elim
  · rename_i x1 a0 el u hd
    split at h3
    · rename_i hck
      obtain ⟨hst, hby⟩ := and'_true hck
      obtain ⟨el', hu, hue, hde, ee, hee⟩ := byteT hb.env he hby
      have hel : el' = el := by rw [hd] at hde; cases hde; rfl
      subst hel
      have hus' := strT hb.env hes hst
      have ex : a.eval x = .string ⟨⟨u⟩⟩ := hA.1.str_inv
      have hsz := size_str u
      let cap := u.length + w.tape w.drawn (.appendCap u.length 0 el') % (2 ^ 63 - u.length)
      have hcap : u.length ≤ cap := Nat.le_add_right _ _
      let elems : Array Value := (⟨u⟩ : Array UInt8).map fun b => .int .u8 b.toNat
      let cs : Array Value := elems ++ Array.replicate (cap - u.length) (.int .u8 0)
      have hcs : cs.size = cap := by simp [cs, elems]; omega
      let w1 : World := pushed { w with drawn := w.drawn + 1 } (.cells cs el' (cs.size, cs.size + 1))
      have hdr : SimD c st a { w with drawn := w.drawn + 1 } S ob := hs.world (Sub.refl _) ⟨hs.frame.size, hs.frame.same, hs.frame.tape, hs.frame.os, hs.frame.output⟩
      obtain ⟨g1, g2, g3, g4⟩ := hdr.pushed (.cells cs el' (cs.size, cs.size + 1))
      refine good_value (v := .slice (some ⟨w.heap.size, 0, none⟩) u.length cap) (w' := w1) ?_ (lay_sim h3 hb g1 (o' := [w.heap.size]) (.inr ⟨w.heap.size, cap, cs, el', _, rfl, ?_, hp_pushed _ _, ?_, ?_, ?_, ?_⟩) (fun b e => by simp at e; subst e; exact ⟨g2, g3, g4⟩))
      · have hfz : (World.freeze (pushed { w with drawn := w.drawn + 1 } (.cells cs el')) ⟨w.heap.size, cs.size, none⟩ 1) = w1 := by
          simp only [World.freeze, Nat.one_ne_zero, if_false, w1, pushed]
          congr 1
          apply Array.ext_getElem?
          intro i
          rw [Array.getElem?_modify]
          by_cases hi : w.heap.size = i
          · subst hi; simp
          · rw [if_neg hi, Array.getElem?_push, Array.getElem?_push, if_neg (Ne.symm hi), if_neg (Ne.symm hi)]
        have hmk : (markStringish ⟨w.heap.size, 0, none⟩).run P (pushed { w with drawn := w.drawn + 1 } (.cells cs el')) = .ok () w1 := by
          rw [run_markStringish (E := el') (n := cs.size) (by simp [World.shape?, pushed]), hfz]
        have hstb : (Conv.stringToBytes el' ⟨⟨u⟩⟩).run P w = .ok (.slice (some ⟨w.heap.size, 0, none⟩) u.length cap) w1 := by
          simp only [Conv.stringToBytes, Sem.run_bind, run_choose, Question.forced, Bool.false_eq_true, if_false, Result.andThen_ok, hsz, Question.cut, run_newRow]
          rw [hmk]
          rfl
        simp only [execOp, ho, Sem.run_bind, convert, run_underlying hus', run_underlying hut, hd, Result.andThen_ok, ex, run_underlying hue, hstb, Sem.run_pure]
      · simp [ofStr]
      · intro i hi h'; simp at h'; omega
      · simp [hcs, T.size]
      · simpa [ofStr] using hcap
      · have : cs.toList.take ((ofStr u).length * (T.int .u8).size) = (ofStr u).map (Value.int .u8) := by
          simp [cs, elems, ofStr, T.size]
        rw [this]; exact ⟨All_ints_mk _, fun q hq => by cases hq⟩
    · exact (exec_fail h3).elim
  · exact (exec_fail h3).elim
end
end Go.Lift

/- Literals, new slices, ranges over strings. -/
set_option linter.unusedSimpArgs false
set_option linter.unusedVariables false
set_option linter.all false
namespace Go.Lift
section
variable {P : Program} {E : Env} {c : Ctx} {st st' : List A} {fp fp' : FP} {a : Act} {w w' : World} {S : Hp} {ob : Nat → List Nat} {o : Oper}

/-! ## literals -/

theorem foldl_zip (off : Nat) : ∀ (v : List Value) (k : Nat) (cells : Array Value) (c0 c1 c2 : List Value), cells.toList = c0 ++ (c1 ++ c2) → c0.length = off + k → c1.length = v.length →
    ((v.zipIdx k).foldl (fun cs (x : Value × Nat) => cs.setIfInBounds (off + x.2) x.1) cells).toList = c0 ++ (v ++ c2)
  | [], k, cells, c0, c1, c2, h, h0, h1 => by
    have : c1 = [] := by cases c1 <;> simp_all
    subst this; simpa using h
  | x :: v, k, cells, c0, c1, c2, h, h0, h1 => by
    obtain ⟨y, c1, rfl⟩ : ∃ y c1', c1 = y :: c1' := by cases c1 <;> simp_all
    simp only [List.zipIdx_cons, List.foldl_cons]
    have := foldl_zip off v (k + 1) (cells.setIfInBounds (off + k) x) (c0 ++ [x]) c1 c2 (by
      rw [Array.toList_setIfInBounds, h, ← h0, List.set_append_right _ _ (Nat.le_refl _)]; simp) (by simp; omega) (by simpa using h1)
    rw [this]; simp

inductive PartsRel (S : Hp) (t : T) (s : Nat → Step) : List (Nat × Dat) → List (Nat × Value) → Prop
  | nil : PartsRel S t s [] []
  | cons {i : Nat} {d : Dat} {v : Value} {l : List (Nat × Dat)} {vs : List (Nat × Value)} (ht : tyAt t [s i] = some d.1) (hv : VR S d.1 d.2 v) (h : PartsRel S t s l vs) : PartsRel S t s ((i, d) :: l) ((i, v) :: vs)

theorem PartsRel.mono {S S' : Hp} (h : Sub S S') {t : T} {s : Nat → Step} {l : List (Nat × Dat)} {vs : List (Nat × Value)} (hp : PartsRel S t s l vs) : PartsRel S' t s l vs := by
  induction hp with
  | nil => exact .nil
  | cons ht hv _ ih => exact .cons ht (hv.mono h) ih

theorem fill_sound {S : Hp} {t : T} {s : Nat → Step} {place : Nat → Option (Nat × Nat)} {ok : Nat → Prop} (hplace : ∀ (i : Nat) (u : T), ok i → tyAt t [s i] = some u → place i = some (offOf t [s i], u.size))
    (hin : ∀ (i : Nat) (u : T) (x : t.den) (cs : List Value), ok i → tyAt t [s i] = some u → Rd S t x cs → inb t x [s i] = true) {l : List (Nat × Dat)} {vs : List (Nat × Value)} (hp : PartsRel S t s l vs) :
    (∀ i ∈ vs.map (·.1), ok i) → ∀ (x y : t.den) (cells : Array Value), Rd S t x cells.toList → setAll t x l s = some y → ∃ cells', Instr.fill place cells vs = some cells' ∧ Rd S t y cells'.toList := by
  induction hp with
  | nil => intro _ x y cells hr h; simp [setAll] at h; subst h; exact ⟨cells, rfl, hr⟩
  | @cons i d v l vs ht hv _ ih =>
    intro hok x y cells hr h
    have hoki := hok i (by simp)
    simp only [setAll] at h
    split at h
    · rename_i x1 hx1
      obtain ⟨c0, c1, c2, hc, hl, hr1, hset⟩ := lens t x [s i] _ hr (hin i d.1 x _ hoki ht hr)
      obtain ⟨et, hr2⟩ := hset d.1 d.2 _ x1 hx1 hv.cells
      have hsz : v.cells.size = d.1.size := by have := hv.cells.length; simpa using this
      have hc1 : c1.length = v.cells.toList.length := by rw [hr1.length, ← et]; simp [hsz]
      have hbound : ¬ (cells.size < offOf t [s i] + v.cells.size) := by
        have h1 := congrArg List.length hc
        simp at h1 hc1; omega
      obtain ⟨cells', hf, hr3⟩ := ih (fun j hj => hok j (by simp at hj ⊢; exact .inr hj)) x1 y (v.cells.zipIdx.foldl (fun cs (x : Value × Nat) => cs.setIfInBounds (offOf t [s i] + x.2) x.1) cells) (by
        rw [← Array.foldl_toList, Array.toList_zipIdx, foldl_zip _ _ 0 cells c0 c1 c2 hc (by simpa using hl) hc1]
        exact hr2) h
      refine ⟨cells', ?_, hr3⟩
      simp only [Instr.fill, hplace i d.1 hoki ht, hsz]
      rw [if_neg (by simp; omega)]
      exact hf
    · simp at h

theorem partsK_inv {α : Type} {r : α × List A × FP} {t : T} {s : Nat → Step} (hb : Base P E c) : ∀ (ps : List (Nat × Operand)) (k : List (Nat × Dat) → Cmd α) (st : List A) (fp : FP) (S : Hp) (ob : Nat → List Nat),
    exec E (partsK E t s ps k) st fp = some r → SimD c st a w S ob →
    ∃ l st' fp' S' ob', exec E (k l) st' fp' = some r ∧ SimD c st' a w S' ob' ∧ Sub S S' ∧ PartsRel S' t s l (ps.map fun p => (p.1, a.eval p.2))
  | [], k, st, fp, S, ob, h, hs => ⟨[], st, fp, S, ob, h, hs, Sub.refl _, .nil⟩
  | (i, x) :: ps, k, st, fp, S, ob, h, hs => by
    simp only [partsK] at h
    split at h
    · rename_i u hu
      obtain ⟨A, fp1, h1, hA, hAo, hAd, hr⟩ := rdK_inv h hs (hb.globS hs)
      obtain ⟨z, st1, fp2, S1, ob1, h2, hs1, hS, hv, hl⟩ := asK_inv h1 hs hA
      obtain ⟨l, st2, fp3, S2, ob2, h3, hs2, hS2, hp⟩ := partsK_inv hb ps _ st1 fp2 S1 ob1 h2 hs1
      exact ⟨(i, ⟨u, z⟩) :: l, st2, fp3, S2, ob2, h3, hs2, hS.trans hS2, .cons hu (hv.mono hS2) hp⟩
    · exact (exec_fail h).elim

theorem idxOk_mem {n : Nat} : ∀ {l : List Nat}, idxOk n l = true → ∀ i ∈ l, i < n
  | [], _, i, hi => by cases hi
  | f :: l, h, i, hi => by
    obtain ⟨h1, h2⟩ := and'_true h
    rcases List.mem_cons.1 hi with rfl | hi
    · simpa using h1
    · exact idxOk_mem h2 i hi

theorem structOk_mem {e : TyI} : ∀ {l : List Nat}, structOk E e l = true → ∀ i ∈ l, fieldOk E e i = true
  | [], _, i, hi => by cases hi
  | f :: l, h, i, hi => by
    obtain ⟨h1, h2⟩ := and'_true h
    rcases List.mem_cons.1 hi with rfl | hi
    · exact h1
    · exact structOk_mem h2 i hi

theorem run_mapM {α β : Type} (f : α → Sem β) (g : α → β) : ∀ (l : List α), (∀ x ∈ l, (f x).run P w = .ok (g x) w) → (l.mapM f).run P w = .ok (l.map g) w
  | [], _ => by simp
  | x :: l, h => by
    simp only [List.mapM_cons, Sem.run_bind, h x (by simp), Result.andThen_ok, run_mapM f g l (fun y hy => h y (by simp [hy])), Sem.run_pure, List.map_cons]

theorem run_mapM_array {α β : Type} (f : α → Sem β) (g : α → β) (l : Array α) (h : ∀ x ∈ l, (f x).run P w = .ok (g x) w) : (l.mapM f).run P w = .ok (l.map g) w := by
  rw [Array.mapM_eq_mapM_toList]
  simp only [Sem.run_map, run_mapM f g l.toList (fun x hx => h x (by simpa using hx)), Result.andThen_ok]
  congr 1
  apply Array.toList_inj.1; simp

theorem inb_idx {t u : T} {n i : Nat} {x : t.den} {cs : List Value} {S : Hp} (ht : t = .arr n u) (hi : i < n) (hr : Rd S t x cs) : inb t x [.idx i] = true := by
  subst ht
  have : List.length x = n := hr.1
  simp [inb, and', this, hi]

theorem build_good1 {t : TypeId} {ps : Array (Nat × Operand)} (ho : o.op = .build t ps) (h : exec E (buildCmd E t ps.toList o.dst) st fp = some ((), st', fp')) (hb : Base P E c) (hs : SimD c st a w S ob) : Good P c o a w st' := by
  unfold buildCmd at h
  obtain ⟨e, he, h0⟩ := tyK_inv h
  clear h
  obtain ⟨z, hz, hzv⟩ := run_zeroValue (P := P) (w := w) (hb.tyOk he)
  have hps : (ps.map fun (p : Nat × Operand) => (p.1, a.eval p.2)).toList = ps.toList.map fun p => (p.1, a.eval p.2) := by simp
  split at h0
  · rename_i fs hd
    split at h0
    · rename_i hck
      obtain ⟨hidx, hst⟩ := and'_true hck
      obtain ⟨l, st1, fp1, S1, ob1, h1, hs1, hS, hp⟩ := partsK_inv hb _ _ _ _ _ _ h0 hs
      clear h0
      split at h1
      · rename_i x hx
        have hag : e.t.isAgg = true := by rw [← (hb.tyOk he).agg, hd]; rfl
        let sz : Field → Nat := fun f => ((E.ty f.type).map (·.size)).getD 0
        have hmap : (fs.mapM fun (f : Field) => do pure (f.offset, ← sizeOf f.type)).run P w = .ok (fs.map fun (f : Field) => (f.offset, sz f)) w := by
          apply run_mapM_array
          intro g hg
          obtain ⟨i, hi, hgi⟩ := Array.mem_iff_getElem.1 hg
          have hf := structOk_mem hst i (by simpa using hi)
          obtain ⟨fs', g', eg, hd', hg', heg, _⟩ := fieldOk_parts hf
          rw [hd] at hd'; cases hd'
          have : g' = g := by rw [Array.getElem?_eq_getElem hi] at hg'; rw [← hgi]; exact (Option.some.inj hg').symm
          subst this
          simp [run_sizeOf (hb.tyOk heg), sz, heg]
        obtain ⟨cells', hfill, hrd⟩ := fill_sound (place := fun i => (fs.map fun (f : Field) => (f.offset, sz f))[i]?) (ok := fun i => i < fs.size) (s := .fld) (S := S1) (t := e.t)
          (fun i u hok hu => by
            have hf := structOk_mem hst i (by simpa using hok)
            obtain ⟨fs', g', eg, hd', hg', heg, hoff, _, hty⟩ := fieldOk_parts hf
            rw [hd] at hd'; cases hd'
            rw [hty] at hu; cases hu
            simp [hg', sz, heg, hoff, (hb.tyOk heg).size])
          (fun i u x cs hok hu _ => (foc_fld_ty e.t x i u hu).2) hp (by
            intro i hi
            simp only [List.map_map] at hi
            exact idxOk_mem hidx i (by simpa using hi)) e.zero x z.cells (hzv.cells.mono (noHp_sub _)) hx
        refine good_value (v := .agg cells') (w' := w) ?_ (lay_plain h1 hb hs1 (VR.of_agg hag hrd))
        simp only [execOp, ho, Sem.run_bind, Instr.build, hz, Result.andThen_ok, run_underlying ((hb.tyOk he).und.trans (by rw [hd])), hmap, hps, hfill, Sem.run_pure]
      · exact (exec_fail h1).elim
    · exact (exec_fail h0).elim
  · rename_i n el hd
    split at h0
    · rename_i hck
      obtain ⟨hidx, harr⟩ := and'_true hck
      obtain ⟨l, st1, fp1, S1, ob1, h1, hs1, hS, hp⟩ := partsK_inv hb _ _ _ _ _ _ h0 hs
      clear h0
      split at h1
      · rename_i x hx
        have hag : e.t.isAgg = true := by rw [← (hb.tyOk he).agg, hd]; rfl
        obtain ⟨m, u, het, hmn, hel⟩ : ∃ m u, e.t = .arr m u ∧ n = m ∧ elemOk E e u = true := by
          cases ht : e.t <;> rw [ht] at harr <;> simp at harr
          obtain ⟨h2, h3⟩ := and'_true harr
          exact ⟨_, _, rfl, beq_nat h2, h3⟩
        subst hmn
        obtain ⟨ee, hee, heu⟩ := elemT_arr hd hel
        obtain ⟨cells', hfill, hrd⟩ := fill_sound (place := fun i => some (i * ee.size, ee.size)) (ok := fun i => i < n) (s := .idx) (S := S1) (t := e.t)
          (fun i v hok hv => by
            have hty : tyAt e.t [.idx i] = some u := by rw [het]; cases u <;> simp [tyAt]
            rw [hty] at hv; cases hv
            have h2 := (hb.tyOk hee).size
            rw [heu] at h2
            rw [het]; simp [offOf, h2])
          (fun i v x cs hok hv hrx => by
            exact inb_idx het hok hrx) hp (by
            intro i hi
            simp only [List.map_map] at hi
            exact idxOk_mem hidx i (by simpa using hi)) e.zero x z.cells (hzv.cells.mono (noHp_sub _)) hx
        refine good_value (v := .agg cells') (w' := w) ?_ (lay_plain h1 hb hs1 (VR.of_agg hag hrd))
        simp only [execOp, ho, Sem.run_bind, Instr.build, hz, Result.andThen_ok, run_underlying ((hb.tyOk he).und.trans (by rw [hd])), run_sizeOf (hb.tyOk hee), hps, hfill, Sem.run_pure]
      · exact (exec_fail h1).elim
    · exact (exec_fail h0).elim
  · exact (exec_fail h0).elim

theorem simT_fld : ∀ {t e : T} (f : Nat) {u g : T}, simT t e = true → tyAt e [.fld f] = some g → tyAt t [.fld f] = some u → simT u g = true
  | .pair a b, .pair c d, f, u, g, h, hg, hu => by
    obtain ⟨h1, h2⟩ := and'_true h
    cases f with
    | zero =>
      simp only [tyAt] at hg hu
      have hg : g = c := by cases c <;> simpa [tyAt] using hg.symm
      have hu : u = a := by cases a <;> simpa [tyAt] using hu.symm
      rw [hg, hu]; exact h1
    | succ f => exact simT_fld (t := b) (e := d) f h2 (by simpa [tyAt] using hg) (by simpa [tyAt] using hu)
  | t, e, f, u, g, h, hg, hu => by
    cases e <;> simp [tyAt] at hg
    case pair c d =>
      cases t <;> simp [tyAt] at hu
      case pair a b =>
        obtain ⟨h1, h2⟩ := and'_true h
        cases f with
        | zero =>
          have hg : g = c := by cases c <;> simpa [tyAt] using hg.symm
          have hu : u = a := by cases a <;> simpa [tyAt] using hu.symm
          rw [hg, hu]; exact h1
        | succ f => exact simT_fld (t := b) (e := d) f h2 (by simpa [tyAt] using hg) (by simpa [tyAt] using hu)

theorem noSelf_fld : ∀ {t : T} (f : Nat) {u : T}, noSelf t = true → tyAt t [.fld f] = some u → noSelf u = true := by
  intro t
  induction t with
  | pair a b iha ihb =>
    intro f u h hu
    obtain ⟨h1, h2⟩ := and'_true h
    cases f with
    | zero =>
      have hu : u = a := by cases a <;> simpa [tyAt] using hu.symm
      rw [hu]; exact h1
    | succ f => exact ihb f h2 (by simpa [tyAt] using hu)
  | _ => intro f u h hu; simp [tyAt] at hu

theorem noSelf_ok (i : Nat) : ∀ {t : T}, noSelf t = true → selfOk i t = true := by
  intro t
  induction t with
  | pair a b iha ihb => intro h; obtain ⟨h1, h2⟩ := and'_true h; simp [selfOk, and', iha h1, ihb h2]
  | self ty => intro h; simp [noSelf] at h
  | _ => intro h; rfl

theorem buildOv_good {t : TypeId} {u : T} {ps : Array (Nat × Operand)} (ho : o.op = .build t ps) (h : exec E (buildOv E u t ps.toList o.dst) st fp = some ((), st', fp')) (hb : Base P E c) (hs : SimD c st a w S ob) : Good P c o a w st' := by
  unfold buildOv at h
  obtain ⟨e, he, h0⟩ := tyK_inv h
  clear h
  obtain ⟨z, hz, hzv⟩ := run_zeroValue (P := P) (w := w) (hb.tyOk he)
  have hps : (ps.map fun (p : Nat × Operand) => (p.1, a.eval p.2)).toList = ps.toList.map fun p => (p.1, a.eval p.2) := by simp
  split at h0
  · rename_i fs hd
    split at h0
    · rename_i hck
      obtain ⟨hck1, hck2⟩ := and'_true hck
      obtain ⟨hag, hsim⟩ := and'_true hck1
      obtain ⟨hns, hsim⟩ := and'_true hsim
      obtain ⟨hidx, hst⟩ := and'_true hck2
      split at h0
      · rename_i z0 hz0
        obtain ⟨l1, st1, fp1, S1, ob1, h1, hs1, hS, hp1⟩ := parts1_inv (fun hs => hb.globS hs) _ _ _ _ _ _ h0 hs
        obtain ⟨l, st2, fp2, ob2, o1, h2, hs2, hpp, hF, _, _⟩ := parts2_inv (hb.globS hs1) hp1 _ _ _ _ h1 hs1
        clear h0 h1
        split at h2
        · rename_i x hx
          let sz : Field → Nat := fun f => ((E.ty f.type).map (·.size)).getD 0
          have hmap : (fs.mapM fun (f : Field) => do pure (f.offset, ← sizeOf f.type)).run P w = .ok (fs.map fun (f : Field) => (f.offset, sz f)) w := by
            apply run_mapM_array
            intro g hg
            obtain ⟨i, hi, hgi⟩ := Array.mem_iff_getElem.1 hg
            have hf := structOk_mem hst i (by simpa using hi)
            obtain ⟨fs', g', eg, hd', hg', heg, _⟩ := fieldOk_parts hf
            rw [hd] at hd'; cases hd'
            have : g' = g := by rw [Array.getElem?_eq_getElem hi] at hg'; rw [← hgi]; exact (Option.some.inj hg').symm
            subst this
            simp [run_sizeOf (hb.tyOk heg), sz, heg]
          have hzr : RdO (0, 0) (hp w) S1 u z0 z.cells.toList [] := by
            obtain ⟨inf, hi, hzz⟩ := (hb.tyOk he).zeq
            have ez : z = zv e.t e.zero := by
              have h3 := hz
              simp [zeroValue, run_typeInfo hi, hzz] at h3
              exact h3.symm
            rw [ez, zv_cells (hb.tyOk he).zok]
            exact toOwn_rd _ _ _ _ hz0 (hb.tyOk he).zok (noSelf_ok _ hns)
          obtain ⟨cells', bs', hfill, hrd, hn', hm'⟩ := fillO_sound (place := fun i => (fs.map fun (f : Field) => (f.offset, sz f))[i]?) (ok := fun i => i < fs.size) (s := .fld) (S := S1) (t := u) (m := (0, 0))
            (fun i v hv => noSelf_fld i hns hv)
            (fun i v hok hv => by
              have hf := structOk_mem hst i (by simpa using hok)
              obtain ⟨fs', g', eg, hd', hg', heg, hoff, _, hty⟩ := fieldOk_parts hf
              rw [hd] at hd'; cases hd'
              have h5 := simT_fld i hsim hty hv
              simp [hg', sz, heg, simT_off _ hsim hty, hoff, simT_size h5, (hb.tyOk heg).size])
            (fun i v x hok hv => (foc_fld_ty u x i v hv).2) hpp (by
              intro i hi
              simp only [List.map_map] at hi
              exact idxOk_mem hidx i (by simpa using hi)) z0 x z.cells [] hzr (by simpa using hF.1) hx
          have hov : ovT u = true := by cases u <;> simp [T.isAgg] at hag <;> rfl
          refine good_value (v := .agg cells') (w' := w) ?_ (lay_sim h2 hb hs2 (o' := bs') ⟨hov, VRO.of_agg hag hrd⟩ (fun b hb' => hF.2 b (by simpa using hm' b hb')) hn')
          simp only [execOp, ho, Sem.run_bind, Instr.build, hz, Result.andThen_ok, run_underlying ((hb.tyOk he).und.trans (by rw [hd])), hmap, hps, hfill, Sem.run_pure]
        · exact (exec_fail h2).elim
      · exact (exec_fail h0).elim
    · exact (exec_fail h0).elim
  · exact (exec_fail h0).elim

theorem build_good {t : TypeId} {ps : Array (Nat × Operand)} (ho : o.op = .build t ps) (h : exec E (opCmd E o) st fp = some ((), st', fp')) (hb : Base P E c) (hs : SimD c st a w S ob) : Good P c o a w st' := by
  simp only [opCmd, ho] at h
  split at h
  · exact buildOv_good ho h hb hs
  · exact build_good1 ho h hb hs

theorem replicate_cells {S : Hp} {e : TyI} {z : Value} (h : VR S e.t e.zero z) (hs : 0 < e.t.size) (n : Nat) :
    Rd S (.arr n e.t) (List.replicate n e.zero) (((Array.range (n * e.t.size)).map (z.cells[· % z.cells.size]!)).toList) := by
  refine ⟨by simp, ?_⟩
  have hz : z.cells.size = e.t.size := by have := h.cells.length; simpa using this
  have : ((Array.range (n * e.t.size)).map (z.cells[· % z.cells.size]!)).toList = (List.replicate n z.cells.toList).flatten := by
    rw [hz]
    clear h
    apply List.ext_getElem?
    intro i
    have hlen : ∀ n, (List.replicate n z.cells.toList).flatten.length = n * e.t.size := by intro n; simp [hz]
    by_cases hi : i < n * e.t.size
    · have h1 : (List.replicate n z.cells.toList).flatten[i]? = z.cells[i % e.t.size]? := by
        clear hlen
        induction n generalizing i with
        | zero => simp at hi
        | succ n ih =>
          rw [List.replicate_succ, List.flatten_cons]
          by_cases hlt : i < e.t.size
          · rw [List.getElem?_append_left (by simpa [hz] using hlt), Nat.mod_eq_of_lt hlt]; simp
          · rw [List.getElem?_append_right (by simp [hz]; omega)]
            have := ih (i - e.t.size) (by rw [Nat.succ_mul] at hi; omega)
            simp only [Array.length_toList, hz]
            rw [this, Nat.mod_eq_sub_mod (by omega : i ≥ e.t.size)]
      rw [h1]
      have hm : i % e.t.size < z.cells.size := by rw [hz]; exact Nat.mod_lt _ hs
      simp [hi, Array.getElem?_eq_getElem hm, getElem!_pos, hm]
    · rw [List.getElem?_eq_none (by simpa using Nat.le_of_not_lt hi), List.getElem?_eq_none (by rw [hlen]; omega)]
  rw [this]
  exact All.replicate h.cells n

/-- a new row of whole capacity -/
theorem new_row {el : TypeId} {ee : TyI} {cells : Array Value} {xs : List ee.t.den} (hok : TyOk P el ee) (hs : SimD c st a w S ob) (hr : Rd S (.arr xs.length ee.t) xs cells.toList) :
    SimD c st a (pushed w (.cells cells el)) S ob ∧ (∀ j, w.heap.size ∉ ob j) ∧ S w.heap.size = none ∧ (c.B0 w.heap.size ∨ c.w0.heap.size ≤ w.heap.size) ∧
      ARel (hp (pushed w (.cells cells el))) S (tv a) (.row ee.t xs) (.slice (some ⟨w.heap.size, 0, none⟩) xs.length xs.length) [w.heap.size] := by
  obtain ⟨h1, h2, h3, h4⟩ := hs.pushed (.cells cells el)
  have hlen := hr.length
  refine ⟨h1, h2, h3, h4, .inr ⟨w.heap.size, xs.length, cells, el, (0, 0), rfl, rfl, hp_pushed _ _, free_zero _, by simpa [T.size] using hlen, Nat.le_refl _, ?_⟩⟩
  rw [show xs.length * ee.t.size = cells.toList.length from hlen.symm, List.take_length]
  exact ⟨hr.2, fun q hq => absurd hq (hok.notByt q)⟩

theorem buildSlice_good {t : TypeId} {n : Nat} {ps : Array (Nat × Operand)} (ho : o.op = .buildSlice t n ps) (h : exec E (opCmd E o) st fp = some ((), st', fp')) (hb : Base P E c) (hs : SimD c st a w S ob) :
    Good P c o a w st' := by
  simp only [opCmd, ho] at h
  unfold buildSliceCmd at h
  obtain ⟨e, he, h0⟩ := tyK_inv h
  clear h
  have hps : (ps.map fun (p : Nat × Operand) => (p.1, a.eval p.2)).toList = ps.toList.map fun p => (p.1, a.eval p.2) := by simp
  split at h0
  · rename_i el hd
    obtain ⟨ee, hee, h1⟩ := tyK_inv h0
    clear h0
    split at h1
    · rename_i hck
      obtain ⟨hidx, hck2⟩ := and'_true hck
      obtain ⟨hpos, hsm⟩ := and'_true hck2
      have hpos : 0 < ee.size := by simpa using hpos
      have hsm : n * ee.size ≤ 65536 := by simpa using hsm
      have hsz := (hb.tyOk hee).size
      obtain ⟨z, hz, hzv⟩ := run_zeroValue (P := P) (w := w) (hb.tyOk hee)
      obtain ⟨l, st1, fp1, S1, ob1, h2, hs1, hS, hp⟩ := partsK_inv hb _ _ _ _ _ _ h1 hs
      clear h1
      split at h2
      · rename_i x hx
        have hrep := replicate_cells (hzv.mono (noHp_sub S1)) (by rw [hsz]; exact hpos) n
        obtain ⟨cells', hfill, hrd⟩ := fill_sound (place := fun i => some (i * ee.size, ee.size)) (ok := fun i => i < n) (s := .idx) (S := S1) (t := .arr n ee.t)
          (fun i v hok hv => by
            have hty : tyAt (.arr n ee.t) [.idx i] = some ee.t := by cases ee.t <;> simp [tyAt]
            rw [hty] at hv; cases hv
            simp [offOf, hsz])
          (fun i v x cs hok hv hrx => by
            have : List.length x = n := hrx.1
            simp [inb, and', this, hok]) hp (by
            intro i hi
            simp only [List.map_map] at hi
            exact idxOk_mem hidx i (by simpa using hi)) _ x _ hrep hx
        have hxl : List.length x = n := hrd.1
        have hrd' : Rd S1 (.arr (List.length x) ee.t) x cells'.toList := by rw [hxl]; exact hrd
        obtain ⟨g1, g2, g3, g4, g5⟩ := new_row (el := el) (hb.tyOk hee) hs1 hrd'
        refine good_value (v := .slice (some ⟨w.heap.size, 0, none⟩) (List.length x) (List.length x)) (w' := pushed w (.cells cells' el)) ?_ (lay_sim h2 hb g1 g5 (fun b e => by simp at e; subst e; exact ⟨g2, g3, g4⟩))
        rw [hsz] at hfill
        by_cases hn0 : n * ee.size = 0
        · have hfill0 : Instr.fill (fun i => some (i * ee.size, ee.size)) ((Array.range (n * ee.size)).map fun i => (#[] : Array Value)[i % (#[] : Array Value).size]!) (ps.toList.map fun p => (p.1, a.eval p.2)) = some cells' := by
            rw [← hfill, hn0]
            have e0 : Array.range 0 = #[] := rfl
            rw [e0, Array.map_empty, Array.map_empty]
          rw [hn0] at hfill0
          simp only [execOp, ho, Sem.run_bind, Instr.buildSlice, run_underlying ((hb.tyOk he).und.trans (by rw [hd])), Result.andThen_ok, run_sizeOf (hb.tyOk hee), hn0, if_neg (show ¬ 0 > 2 ^ 24 by omega), if_pos, Sem.run_pure, hps, hfill0, run_newRow, hxl]
        simp only [execOp, ho, Sem.run_bind, Instr.buildSlice, run_underlying ((hb.tyOk he).und.trans (by rw [hd])), Result.andThen_ok, run_sizeOf (hb.tyOk hee), if_neg (show ¬ n * ee.size > 2 ^ 24 by omega), if_neg hn0, hz, Sem.run_pure, hps]
        rw [hfill, hxl]
        rfl
      · exact (exec_fail h2).elim
    · exact (exec_fail h1).elim
  · exact (exec_fail h0).elim
end
end Go.Lift

/- make, append, assignments, ranges over strings. -/
set_option linter.unusedSimpArgs false
set_option linter.unusedVariables false
set_option linter.all false
namespace Go.Lift
section
variable {P : Program} {E : Env} {c : Ctx} {st st' : List A} {fp fp' : FP} {a : Act} {w w' : World} {S : Hp} {ob : Nat → List Nat} {o : Oper}

theorem wrap_i64 {n : Int} (h0 : 0 ≤ n) (h1 : n ≤ 9223372036854775807) : IntKind.i64.wrap n = n := by
  simp only [IntKind.wrap, IntKind.signed, IntKind.bits]
  simp
  omega

theorem makeSlice_core {t el : TypeId} {l k : Operand} {e ee : TyI} {m n : Int} (ho : o.op = .makeSlice t l k) (hb : Base P E c) (hs : SimD c st a w S ob) (he : E.ty t = some e) (hd : e.desc = .slice el) (hee : E.ty el = some ee)
    (hpos : 0 < ee.size) (hm0 : 0 ≤ m) (hmn : m ≤ n) (hby : n * (ee.bytes : Int) ≤ 281474976710656) (hn63 : n ≤ 9223372036854775807) (el1 : a.eval l = .int .i64 m) (el2 : a.eval k = .int .i64 n)
    (h4 : exec E (lay o.dst (.row ee.t (List.replicate m.toNat ee.zero))) st fp = some ((), st', fp')) : Good P c o a w st' := by
  obtain ⟨z, hz, hzv⟩ := run_zeroValue (P := P) (w := w) (hb.tyOk hee)
  obtain ⟨inf, hinf, his, hib, _⟩ := (hb.tyOk hee).info
  have hsz := (hb.tyOk hee).size
  let cells : Array Value := (Array.range (n.toNat * ee.size)).map (z.cells[· % z.cells.size]!)
  have hrep := replicate_cells (hzv.mono (noHp_sub S)) (by omega : 0 < ee.t.size) n.toNat
  rw [hsz] at hrep
  have hspl : List.replicate n.toNat ee.zero = List.replicate m.toNat ee.zero ++ List.replicate (n.toNat - m.toNat) ee.zero := by
    rw [List.replicate_append_replicate]; congr 1; omega
  obtain ⟨_, hall⟩ := hrep
  rw [hspl] at hall
  obtain ⟨c1, c2, hc12, hall1, _⟩ := All.split hall
  have hl1 := All.length (Rd.length ee.t) _ _ hall1
  obtain ⟨g1, g2, g3, g4⟩ := hs.pushed (.cells cells el)
  have hcsz : cells.size = n.toNat * ee.size := by simp [cells]
  refine good_value (v := .slice (some ⟨w.heap.size, 0, none⟩) m.toNat n.toNat) (w' := pushed w (.cells cells el)) ?_ (lay_sim h4 hb g1 (o' := [w.heap.size]) (.inr ⟨w.heap.size, n.toNat, cells, el, (0, 0), rfl, by simp, hp_pushed _ _, free_zero _, by rw [hcsz, hsz], by simp; omega, ?_⟩) (fun b e => by simp at e; subst e; exact ⟨g2, g3, g4⟩))
  · have hw1 := wrap_i64 hm0 (by omega : m ≤ 9223372036854775807)
    have hw2 := wrap_i64 (by omega : 0 ≤ n) hn63
    have hn0 : ¬ n < 0 := by omega
    have hb1 : ¬ (281474976710656 < (ee.bytes : Int) * n) := by rw [Int.mul_comm]; omega
    by_cases h0 : n.toNat * ee.size = 0
    · have hcells : cells = #[] := by apply Array.eq_empty_of_size_eq_zero; rw [hcsz, h0]
      simp [execOp, ho, Instr.makeSlice, run_underlying ((hb.tyOk he).und.trans (by rw [hd])), el1, el2, asInt, asIntOf, run_typeInfo hinf, hib, hw1, hw2, hb1, hn0, show ¬ m < 0 by omega, show ¬ n < m by omega, run_sizeOf (hb.tyOk hee), h0, run_newRow, hcells]
      rw [show Array.range 0 = #[] by apply Array.eq_empty_of_size_eq_zero; simp, Array.map_empty]
    · simp [execOp, ho, Instr.makeSlice, run_underlying ((hb.tyOk he).und.trans (by rw [hd])), el1, el2, asInt, asIntOf, run_typeInfo hinf, hib, hw1, hw2, hb1, hn0, show ¬ m < 0 by omega, show ¬ n < m by omega, run_sizeOf (hb.tyOk hee), h0, run_newRow, hz, cells]
  · have : cells.toList.take ((List.replicate m.toNat ee.zero).length * ee.t.size) = c1 := by
      change cells.toList = c1 ++ c2 at hc12
      rw [hc12, ← hl1, List.take_left]
    rw [this]; exact ⟨hall1, fun q hq => absurd hq ((hb.tyOk hee).notByt q)⟩

theorem makeSlice_good {t : TypeId} {l k : Operand} (ho : o.op = .makeSlice t l k) (h : exec E (opCmd E o) st fp = some ((), st', fp')) (hb : Base P E c) (hs : SimD c st a w S ob) : Good P c o a w st' := by
  simp only [opCmd, ho] at h
  unfold makeSliceCmd at h
  obtain ⟨e, he, h0⟩ := tyK_inv h
  clear h
  split at h0
  · rename_i el hd
    obtain ⟨ee, hee, h1⟩ := tyK_inv h0
    obtain ⟨A, fp1, h2, hA, hAo, hAd, hAr⟩ := rdK_inv h1 hs (hb.globS hs)
    obtain ⟨B, fp2, h3, hB, hBo, hBd, hBr⟩ := rdK_inv h2 hs (hb.globS hs)
    clear h0 h1 h2
    split at h3
    · rename_i m n
      split at h3
      · rename_i hpos
        obtain ⟨hc, h4⟩ := exec_guard h3
        obtain ⟨hm0, hmn, hby, hn63⟩ := of_decide_eq_true hc
        exact makeSlice_core (m := m) (n := n) ho hb hs he hd hee (by simpa using hpos) hm0 hmn hby hn63 hA.1.int_inv hB.1.int_inv h4
      · exact (exec_fail h3).elim
    · exact (exec_fail h3).elim
  · exact (exec_fail h0).elim

/-! ## append -/

/-- what is appended or copied: as cells -/
structure Src (P : Program) (w : World) (S : Hp) (t : T) (v : Value) (ys : List t.den) : Prop where
  len : (Builtin.lenOf v).run P w = .ok ys.length w
  pre : ∀ n, n ≤ ys.length → ∃ cs : Array Value, All (Rd S t) (ys.take n) cs.toList ∧ ∀ w' : World, w'.heap = w.heap → (Builtin.firstCells t.size n v).run P w' = .ok cs w'

theorem Src.cells {S : Hp} {t : T} {v : Value} {ys : List t.den} (h : Src P w S t v ys) :
    ∃ cs : Array Value, All (Rd S t) ys cs.toList ∧ ∀ w' : World, w'.heap = w.heap → (Builtin.firstCells t.size ys.length v).run P w' = .ok cs w' := by
  have := h.pre ys.length (Nat.le_refl _)
  rwa [List.take_length] at this

theorem first_none {P : Program} {w : World} {n : Nat} (ad : Option Addr) (m : Nat := 0) : (Builtin.firstCells n 0 (.slice ad 0 0)).run P w = .ok #[] w := by
  cases ad with
  | none => rfl
  | some b => simp [Builtin.firstCells, loadCells, loadCellsFrom]

theorem Src.nil {S : Hp} {t : T} {v : Value} (hl : (Builtin.lenOf v).run P w = .ok 0 w) (h : ∀ w' : World, (Builtin.firstCells t.size 0 v).run P w' = .ok #[] w') : Src P w S t v [] :=
  ⟨hl, fun n hn => by
    have : n = 0 := by simpa using hn
    subst this
    exact ⟨#[], rfl, fun w' _ => h w'⟩⟩

theorem src_lies {S : Hp} {t : T} {ys : List t.den} {b off cap : Nat} {c1 : List Value} (hl : ∀ w' : World, w'.heap = w.heap → Lies (hp w') b off c1) (hall : All (Rd S t) ys c1) :
    Src P w S t (.slice (some ⟨b, off, none⟩) ys.length cap) ys := by
  refine ⟨by simp [Builtin.lenOf], fun n hn => ?_⟩
  have e : ys = ys.take n ++ ys.drop n := (List.take_append_drop n ys).symm
  rw [e] at hall
  obtain ⟨d1, d2, hc, h1, h2⟩ := All.split hall
  refine ⟨d1.toArray, by simpa using h1, fun w' hw' => ?_⟩
  have hl' := lies_sub (d0 := []) (d1 := d1) (d2 := d2) (hl w' hw') hc
  have := run_loadCells_lies (P := P) hl'
  rw [All.length (Rd.length t) _ _ h1, List.length_take, Nat.min_eq_left hn] at this
  simpa [Builtin.firstCells] using this

theorem src_slice {S : Hp} {t : T} {ys : List t.den} {v : Value} (hS : Sub S (hp w)) (h : VR S (.sl t) ys v) : Src P w S t v ys := by
  obtain ⟨ad, cap, rfl, hc, hm⟩ := VR.sl_inv h
  rcases hm with rfl | ⟨b, off, c1, rfl, hl, hall⟩
  · refine Src.nil (by simp [Builtin.lenOf]) fun w' => ?_
    cases ad with
    | none => rfl
    | some b => simp [Builtin.firstCells, loadCells, loadCellsFrom]
  · exact src_lies (fun w' hw' => by rw [show hp w' = hp w by unfold hp; rw [hw']]; exact hl.mono hS) hall

theorem src_rowrel {t : T} {ys : List t.den} {v : Value} {o : List Nat} (h : RowRel (hp w) S t ys v o) : Src P w S t v ys := by
  rcases h with ⟨rfl, ⟨ad, hv, _⟩, _⟩ | ⟨b, cap, cs, E', fr, hob, hv, hcs, hfr, hsz, hle, hall, _⟩
  · rw [hv]; exact Src.nil (by simp [Builtin.lenOf]) fun _ => first_none ad
  · rw [hv]
    exact src_lies (fun w' hw' => ⟨cs, E', fr, [], cs.toList.drop (ys.length * t.size), by unfold hp; rw [hw']; exact hcs, by simp, rfl⟩) hall

theorem src_row (hs : SimD c st a w S ob) {r : Nat} {t : T} {ys : List t.den} (h : st.getD r .dead = .row t ys) : Src P w S t (tv a r) ys := src_rowrel (hs.row_at h)

theorem src_str (t : T) (s : List UInt8) (ht : t = .int .u8) : ∀ (ys : List t.den), ys = ht ▸ ofStr s → Src P w S t (.string ⟨⟨s⟩⟩) ys := by
  subst ht
  rintro ys rfl
  refine ⟨by simp [Builtin.lenOf, size_str, ofStr], fun n hn => ⟨(((ofStr s).take n).map (Value.int .u8)).toArray, All_ints_mk _, fun w' _ => ?_⟩⟩
  have : (⟨⟨s⟩⟩ : ByteArray).extract 0 n = ⟨⟨s.take n⟩⟩ := by
    apply ByteArray.ext
    rw [ByteArray.data_extract]
    apply Array.toList_inj.1
    simp [List.extract]
  simp [Builtin.firstCells, ofStr, this]
  rfl

theorem cast_sl {t u : T} {ys : List t.den} {zs : List u.den} (h : cast (.sl t) (.sl u) ys = some zs) : ∃ e : t = u, e ▸ ys = zs := by
  obtain ⟨e, e'⟩ := cast_some h
  cases e
  exact ⟨rfl, e'⟩

theorem srcK_inv {α : Type} {r : α × List A × FP} {t : T} {A : Lift.A} {v : Value} {k : List t.den → Cmd α} (h : exec E (srcK t A k) st fp = some r) (hs : SimD c st a w S ob) (hA : ARel (hp w) S (tv a) A v []) :
    ∃ ys fp', exec E (k ys) st fp' = some r ∧ Src P w S t v ys := by
  unfold srcK at h
  split at h
  · rename_i k
    refine ⟨[], fp, h, ?_⟩
    rw [hA.1]
    exact Src.nil (by simp [Builtin.lenOf]) fun _ => rfl
  · rename_i s k
    have ex : v = .string ⟨⟨s⟩⟩ := hA.1.str_inv
    rw [ex]
    exact ⟨_, fp, h, src_str _ s rfl _ rfl⟩
  · unfold lookK at h
    split at h
    · rename_i u x
      dsimp only at h
      split at h
      · rename_i u' ys heq
        cases heq
        split at h
        · rename_i zs hz
          obtain ⟨e, e'⟩ := cast_sl hz
          subst e; subst e'
          exact ⟨_, fp, h, src_slice hs.sub hA.1⟩
        · exact (exec_fail h).elim
      · exact (exec_fail h).elim
    · rename_i s
      obtain ⟨fp1, h⟩ := exec_get h
      split at h
      · rename_i u xs hy
        dsimp only at h
        split at h
        · rename_i zs hz
          obtain ⟨e, e'⟩ := cast_sl hz
          subst e; subst e'
          rw [hA.1]
          exact ⟨_, fp1, h, src_rowrel (hs.row_at hy)⟩
        · exact (exec_fail h).elim
      · exact (exec_fail h).elim
    · obtain ⟨t', x, u, xs, fp1, h, hy, hin, hn, hf⟩ := celK_inv h
      dsimp only at h
      split at h
      · rename_i zs hz
        obtain ⟨e, e'⟩ := cast_sl hz
        subst e; subst e'
        obtain ⟨b, cs, E', fr, b0, b1, b2, c0, c2, hob, hv, hcs, hfr, hc, hl, hrow, hput⟩ := hs.cel_row hA hy hin hn hf
        exact ⟨_, fp1, h, src_rowrel hrow⟩
      · exact (exec_fail h).elim
    · exact (exec_fail h).elim

/-- a block that nobody owns or reads turns -/
theorem SimD.turn (h : SimD c st a w S ob) {b : Nat} (hb : ∀ i, b ∉ ob i) (hS : S b = none) (hk : ∃ o, hp w b = some o ∧ ∀ l, o ≠ .deferred l) (hsame : ∀ b', b' ≠ b → hp w' b' = hp w b') (hf : WF c.w0 c.B0 w') : SimD c st a w' S ob := by
  refine ⟨h.defers.turn fun D h1 h2 h3 h4 => ⟨?_, h2, h3⟩, h.size, ?_, h.refs, h.out, h.inj, h.nd, h.hid, ?_, h.mono, h.fresh, h.newS, h.lent, hf⟩
  · rw [hsame D (fun e => ?_)]
    · exact h1
    · subst e
      obtain ⟨o, ho, hne⟩ := hk
      rw [h1] at ho; cases ho; exact hne _ rfl
  · intro i x hx
    refine (h.rel i x hx).mono (Sub.refl _) (fun b' hb' => hsame b' (fun e => hb i (by rw [← e]; exact hb'))) (fun _ _ => rfl) (fun s hs b' hb' => hsame b' (fun e => ?_))
    subst e
    exact hb s (h.main hx (A.cell_refs hs) hb')
  · intro b' o hbo
    rw [hsame b' (fun e => by subst e; rw [hS] at hbo; simp at hbo)]
    exact h.sub b' o hbo

/-- a new row with room behind -/
theorem grown_row {el : TypeId} {t : T} (hnb : ∀ q, t ≠ .byt q) {cells : Array Value} {xs : List t.den} {cap : Nat} {c1 c2 : List Value} (hs : SimD c st a w S ob) (hc : cells.toList = c1 ++ c2) (hall : All (Rd S t) xs c1)
    (hsz : cells.size = cap * t.size) (hle : xs.length ≤ cap) :
    SimD c st a (pushed w (.cells cells el)) S ob ∧ (∀ j, w.heap.size ∉ ob j) ∧ S w.heap.size = none ∧ (c.B0 w.heap.size ∨ c.w0.heap.size ≤ w.heap.size) ∧
      ARel (hp (pushed w (.cells cells el))) S (tv a) (.row t xs) (.slice (some ⟨w.heap.size, 0, none⟩) xs.length cap) [w.heap.size] := by
  obtain ⟨h1, h2, h3, h4⟩ := hs.pushed (.cells cells el)
  have hlen := All.length (Rd.length t) _ _ hall
  refine ⟨h1, h2, h3, h4, .inr ⟨w.heap.size, cap, cells, el, (0, 0), rfl, rfl, hp_pushed _ _, free_zero _, hsz, hle, ?_⟩⟩
  rw [hc, ← hlen, List.take_left]
  exact ⟨hall, fun q hq => absurd hq (hnb q)⟩

theorem append_grow {ty xT el : TypeId} {ee : TyI} {base : Option Addr} {n m cap : Nat} {v : Value} {old new : Array Value} (hu : P.underlying ty = some (.slice el)) (hx : ∃ d, P.underlying xT = some d ∧ ∀ k, d ≠ .int k)
    (hee : TyOk P el ee) (hlen : (Builtin.lenOf v).run P w = .ok m w) (hnew : ∀ w' : World, w'.heap = w.heap → (Builtin.firstCells ee.size m v).run P w' = .ok new w')
    (hold : ∀ w' : World, w'.heap = w.heap → (Builtin.firstCells ee.size n (.slice base n cap)).run P w' = .ok old w') (hb0 : 0 < ee.bytes) (hb1 : (n + m) * ee.bytes ≤ 70368744177664) (hgrow : cap < n + m) :
    ∃ newCap rest, n + m ≤ newCap ∧ rest.size = (newCap - (n + m)) * ee.size ∧
      (Builtin.append_ #[ty, xT] o.type #[.slice base n cap, v]).run P w = .ok (.slice (some ⟨w.heap.size, 0, none⟩) (n + m) newCap) (pushed { w with drawn := w.drawn + 1 } (.cells (old ++ new ++ rest) el)) := by
  obtain ⟨inf, hinf, his, hib, z, hz, hzv⟩ := hee.info
  obtain ⟨d, hd, hdk⟩ := hx
  have hzc : z.cells.size = ee.size := by have := hzv.cells.length; rw [hee.size] at this; simpa using this
  let newCap := (n + m) + w.tape w.drawn (.appendCap (n + m) cap el) % (2 ^ 63 - (n + m))
  refine ⟨newCap, Builtin.zeroCells z.cells (newCap - (n + m)), Nat.le_add_right _ _, by simp [Builtin.zeroCells, hzc], ?_⟩
  have hfit := growslice_fits (bytes := ee.bytes) hgrow (by omega)
  have h63 : ¬ (IntKind.i64.max < ((n + m : Nat) : Int) ∧ (False ∨ ee.bytes = 0)) := by
    intro h; rcases h.2 with h | h
    · exact h
    · omega
  have hzr : ∀ w' : World, (zeroValue el).run P w' = .ok z w' := fun w' => by simp [zeroValue, run_typeInfo hinf, hz]
  have hzeros : (match d with | .int _ => true | _ => false) = false := by
    cases d <;> first | rfl | exact absurd rfl (hdk _)
  have hn := hnew { w with drawn := w.drawn + 1 } rfl
  have hol := hold { w with drawn := w.drawn + 1 } rfl
  have hsz : ∀ w' : World, (sizeOf el).run P w' = .ok ee.size w' := fun w' => run_sizeOf hee
  have hti : ∀ w' : World, (typeInfo el).run P w' = .ok inf w' := fun w' => run_typeInfo hinf
  simp only [Builtin.append_, List.getElem?_toArray, List.getElem?_cons_zero, List.getElem?_cons_succ, Sem.run_bind, run_underlying hu, Result.andThen_ok, hsz, run_underlying hd, Sem.run_pure]
  cases d <;> first
    | exact absurd rfl (hdk _)
    | (simp only [Bool.false_eq_true, if_false, Sem.run_bind, Sem.run_pure, Result.andThen_ok]
       rw [hlen]
       simp only [Result.andThen_ok, if_neg (show ¬ (n + m ≤ cap) by omega), Bool.not_false, if_true, Bool.false_eq_true, if_false, Sem.run_bind, hti, Result.andThen_ok, hib, Sem.run_ite, Bool.false_eq_true]
       rw [if_neg h63, if_neg (by simpa using hfit)]
       simp only [Sem.run_bind, run_choose, Question.forced, Bool.false_eq_true, if_false, Result.andThen_ok, Question.cut, hti, run_askRoom, hol, hn, hzr, run_newRow, Sem.run_pure]
       rfl)
theorem append_room {ty xT el : TypeId} {ee : TyI} {b n m cap : Nat} {v : Value} {new : Array Value} {cs : Array Value} {E' : TypeId} {fr : Nat × Nat} (hu : P.underlying ty = some (.slice el)) (hx : ∃ d, P.underlying xT = some d ∧ ∀ k, d ≠ .int k)
    (hee : TyOk P el ee) (hlen : (Builtin.lenOf v).run P w = .ok m w) (hnew : (Builtin.firstCells ee.size m v).run P w = .ok new w) (hsz : new.size = m * ee.size) (hone : ∀ u ∈ new.toList, u.oneCell' = true)
    (hcs : hp w b = some (.cells cs E' fr)) (hfr : Free cs fr) (hcap : cs.size = cap * ee.size) (hroom : n + m ≤ cap) :
    ∃ cs' c2, (Builtin.append_ #[ty, xT] o.type #[.slice (some ⟨b, 0, none⟩) n cap, v]).run P w = .ok (.slice (some ⟨b, 0, none⟩) (n + m) cap) (setObj' w b (.cells cs' E' fr)) ∧
      cs'.toList = cs.toList.take (n * ee.size) ++ (new.toList ++ c2) ∧ cs'.size = cs.size := by
  obtain ⟨d, hd, hdk⟩ := hx
  have hle : (n + m) * ee.size ≤ cs.size := by rw [hcap]; exact Nat.mul_le_mul_right _ hroom
  have hadd : (n + m) * ee.size = n * ee.size + m * ee.size := Nat.add_mul _ _ _
  have e : cs.toList = cs.toList.take (n * ee.size) ++ ((cs.toList.drop (n * ee.size)).take (m * ee.size) ++ cs.toList.drop ((n + m) * ee.size)) := by
    conv => lhs; rw [← List.take_append_drop (n * ee.size) cs.toList]
    congr 1
    conv => lhs; rw [← List.take_append_drop (m * ee.size) (cs.toList.drop (n * ee.size))]
    rw [List.drop_drop, hadd]
  obtain ⟨w', cs', hrun, hcs', hw'⟩ := run_storeCells_free (P := P) new.toList 0 (n * ee.size) cs w _ _ _ hcs hfr e (by simp; omega) (by simp; omega) hone
  refine ⟨cs', _, ?_, hcs', ?_⟩
  · subst hw'
    simp only [Builtin.append_, List.getElem?_toArray, List.getElem?_cons_zero, List.getElem?_cons_succ, Sem.run_bind, run_underlying hu, Result.andThen_ok, run_sizeOf hee, run_underlying hd, Sem.run_pure]
    cases d <;> first
      | exact absurd rfl (hdk _)
      | (simp only [Bool.false_eq_true, if_false, Sem.run_bind]
         rw [hlen]
         simp only [Result.andThen_ok, if_pos hroom, Bool.not_false, if_true, Sem.run_bind, hnew, addr_add, Nat.zero_add, hrun, Sem.run_pure])
  · have h1 := congrArg List.length hcs'
    have h2 := congrArg List.length e
    simp at h1 h2; omega

/-- the type of the block that a row lies in -/
def RowEl (h : Hp) (v : Value) (q : Nat) (o : List Nat) : Prop := (∀ b n cap, v = .slice (some ⟨b, 0, none⟩) n cap → ∃ cs fr, h b = some (.cells cs q fr)) ∧ (o = [] → v = .slice none 0 0)

theorem RowRel.byt {h S : Hp} {q : Nat} {xs : List Int} {v : Value} {o : List Nat} (hx : RowRel h S (.byt q) xs v o) : RowRel h S (.int .u8) xs v o ∧ RowEl h v q o := by
  rcases hx with ⟨e1, e2, e3⟩ | ⟨b, cap, cs, E, fr, e, e1, e2, h1, h2, h3, h4, h5⟩
  · obtain ⟨ad, e2, e4⟩ := e2
    have e5 := e4 _ rfl
    subst e5
    constructor
    · exact .inl ⟨e1, ⟨none, e2, fun q hq => by cases hq⟩, e3⟩
    · constructor
      · intro b n cap hv
        rw [e2] at hv; cases hv
      · exact fun _ => e2
  · have := h5 q rfl
    subst this
    refine ⟨.inr ⟨b, cap, cs, E, fr, e, e1, e2, h1, h2, h3, h4, fun q hq => by cases hq⟩, ⟨fun b' n cap' hv => ?_, fun h => by rw [e] at h; cases h⟩⟩
    rw [e1] at hv
    cases hv
    exact ⟨cs, fr, e2⟩

theorem RowRel.ofByt {h S : Hp} {q : Nat} {xs : List Int} {v : Value} {o : List Nat} (hx : RowRel h S (.int .u8) xs v o) (he : RowEl h v q o) : RowRel h S (.byt q) xs v o := by
  rcases hx with ⟨e1, e2, e3⟩ | ⟨b, cap, cs, E, fr, e, e1, e2, h1, h2, h3, h4, h5⟩
  · exact .inl ⟨e1, ⟨none, he.2 e3, fun _ _ => rfl⟩, e3⟩
  · obtain ⟨cs', fr', hq⟩ := he.1 b _ _ e1
    rw [e2] at hq
    cases hq
    exact .inr ⟨b, cap, cs, q, fr, e, e1, e2, h1, h2, h3, h4, fun q' hq' => by cases hq'; rfl⟩

/-- append to a row that no temporary owns -/
theorem append_row {ty xT el : TypeId} {ee : TyI} {xs ys : List ee.t.den} {v u : Value} {bs : List Nat} (hu : P.underlying ty = some (.slice el)) (hx : ∃ d, P.underlying xT = some d ∧ ∀ k, d ≠ .int k)
    (hok : TyOk P el ee) (hby : 0 < ee.bytes) (hs : SimD c st a w S ob) (hrow : RowRel (hp w) S ee.t xs v bs) (hbs : ∀ k ∈ bs, (∀ i, k ∉ ob i) ∧ S k = none ∧ (c.B0 k ∨ c.w0.heap.size ≤ k)) (hsrc : Src P w S ee.t u ys)
    (hc : (xs.length + ys.length) * ee.bytes ≤ 70368744177664) :
    ∃ v' w' bs', (Builtin.append_ #[ty, xT] o.type #[v, u]).run P w = .ok v' w' ∧ SimD c st a w' S ob ∧ ARel (hp w') S (tv a) (.row ee.t (xs ++ ys)) v' bs' ∧ (∀ k ∈ bs', (∀ i, k ∉ ob i) ∧ S k = none ∧ (c.B0 k ∨ c.w0.heap.size ≤ k)) ∧ bs'.Nodup ∧ (RowEl (hp w) v el bs → RowEl (hp w') v' el bs') := by
  have hsz := hok.size
  obtain ⟨new, hnall, hnew'⟩ := hsrc.cells
  rw [hsz] at hnew'
  have hnew := hnew' w rfl
  have hnl := All.length (Rd.length ee.t) _ _ hnall
  have hns : new.size = ys.length * ee.size := by rw [← hsz]; simpa using hnl
  have hdr : ∀ {st : List Lift.A} {ob : Nat → List Nat}, SimD c st a w S ob → SimD c st a { w with drawn := w.drawn + 1 } S ob := fun hs => hs.world (Sub.refl _) ⟨hs.frame.size, hs.frame.same, hs.frame.tape, hs.frame.os, hs.frame.output⟩
  rcases hrow with ⟨hx0, ⟨ad, hv, hadq⟩, hob⟩ | ⟨b, cap, cs, E', fr, hob, hv, hcs, hfr, hcap, hle', hall, hEq⟩
  · -- an empty row, no block
    subst hx0
    rw [hv]
    by_cases hy0 : ys.length = 0
    · have : ys = [] := List.length_eq_zero_iff.1 hy0
      subst this
      have hn0 : new = #[] := by apply Array.eq_empty_of_size_eq_zero; rw [hns]; simp
      subst hn0
      refine ⟨.slice ad 0 0, w, [], ?_, hs, .inl ⟨rfl, ⟨_, rfl, hadq⟩, rfl⟩, (fun k hk => by cases hk), .nil, fun he => by rw [← hob]; exact he⟩
      obtain ⟨d, hd', hdk⟩ := hx
      have hl := hsrc.len
      simp only [List.length_nil] at hl hnew
      simp only [Builtin.append_, List.getElem?_toArray, List.getElem?_cons_zero, List.getElem?_cons_succ, Sem.run_bind, run_underlying hu, Result.andThen_ok, run_sizeOf hok, run_underlying hd', Sem.run_pure]
      cases d <;> first
        | exact absurd rfl (hdk _)
        | (simp only [Bool.false_eq_true, if_false, Sem.run_bind]
           rw [hl]
           simp only [Result.andThen_ok, Nat.add_zero, Nat.le_refl, if_true, Bool.not_false, Sem.run_bind, hnew, Sem.run_pure]
           cases ad <;> simp [storeCells])
    · obtain ⟨nc, rest, hnc, hrest, hr⟩ := append_grow (o := o) (base := ad) (n := 0) (cap := 0) (old := #[]) hu hx hok hsrc.len hnew' (fun w' _ => first_none ad) hby (by simpa using hc) (by omega)
      obtain ⟨g1, g2, g3, g4, g5⟩ := grown_row (el := el) hok.notByt (cap := nc) (cells := #[] ++ new ++ rest) (c1 := new.toList) (c2 := rest.toList) (hdr hs) (by simp) hnall (by simp [hns, hrest, hsz]; rw [← Nat.add_mul]; congr 1; omega) (by omega)
      exact ⟨_, _, _, hr, g1, by simpa using g5, (fun k hk => by simp at hk; subst hk; exact ⟨g2, g3, g4⟩), by simp, fun _ => ⟨fun b n cap hv => by cases hv; exact ⟨_, _, hp_pushed _ _⟩, fun h => by cases h⟩⟩
  · rw [hv]
    have hxl := All.length (Rd.length ee.t) _ _ hall
    rw [hsz] at hcap hall hxl
    obtain ⟨hobb, hSb, hfb⟩ := hbs b (by simp [hob])
    by_cases hroom : xs.length + ys.length ≤ cap
    · obtain ⟨cs', c2, hr, hcs', hsz'⟩ := append_room (o := o) hu hx hok hsrc.len hnew hns (All.cells (Rd.ones ee.t) _ _ hnall) hcs hfr hcap hroom
      have ht := hs.turn (w' := setObj' w b (.cells cs' E' fr)) hobb hSb ⟨_, hcs, fun l h => by cases h⟩ (fun b' hne => hp_setObj_ne hne) (hs.frame.setObj hfb _)
      refine ⟨_, _, [b], hr, ht, .inr ⟨b, cap, cs', E', fr, rfl, by simp, hp_setObj hcs, hfr.of_size hsz', by rw [hsz', hcap, hsz], by simpa using hroom, ?_⟩, (fun k hk => by simp at hk; subst hk; exact ⟨hobb, hSb, hfb⟩), by simp, fun he => ⟨fun b' n cap' hv => ?_, fun h => by cases h⟩⟩
      rotate_left
      · cases hv
        obtain ⟨cs2, fr2, h2⟩ := he.1 b _ _ rfl
        rw [hcs] at h2; cases h2
        exact ⟨_, _, hp_setObj hcs⟩
      have happ := All.append hall hnall
      have hl2 : (xs ++ ys).length * ee.t.size = (cs.toList.take (xs.length * ee.size) ++ new.toList).length := by
        rw [List.length_append, List.length_append, hxl, hnl, Nat.add_mul, hsz]
      rw [hcs', ← List.append_assoc, hl2, List.take_left]
      exact ⟨happ, fun q hq => absurd hq (hok.notByt q)⟩
    · obtain ⟨nc, rest, hnc, hrest, hr⟩ := append_grow (o := o) (base := some ⟨b, 0, none⟩) (n := xs.length) (cap := cap) (old := (cs.toList.take (xs.length * ee.size)).toArray) hu hx hok hsrc.len hnew' (fun w' hw' => by
          have hl : Lies (hp w') b 0 (cs.toList.take (xs.length * ee.size)) := ⟨cs, E', fr, [], cs.toList.drop (xs.length * ee.size), by unfold hp; rw [hw']; exact hcs, by simp, rfl⟩
          have := run_loadCells_lies (P := P) hl
          rw [hxl] at this
          simpa [Builtin.firstCells] using this) hby hc (by omega)
      obtain ⟨g1, g2, g3, g4, g5⟩ := grown_row (el := el) hok.notByt (cap := nc) (cells := (cs.toList.take (xs.length * ee.size)).toArray ++ new ++ rest) (c2 := rest.toList) (hdr hs) (by simp) (All.append hall hnall) (by
          simp only [Array.size_append, List.size_toArray, hxl, hns, hrest, hsz]
          rw [← Nat.add_mul, ← Nat.add_mul]; congr 1; omega) (by simpa using hnc)
      exact ⟨_, _, _, hr, g1, by simpa using g5, (fun k hk => by simp at hk; subst hk; exact ⟨g2, g3, g4⟩), by simp, fun _ => ⟨fun b n cap hv => by cases hv; exact ⟨_, _, hp_pushed _ _⟩, fun h => by cases h⟩⟩

theorem Src.cast {t u : T} {v : Value} {ys : List t.den} (e : t = u) (h : Src P w S t v ys) : Src P w S u v (e ▸ ys) := by subst e; exact h

/-- append to bytes in blocks of a known type -/
theorem append_byt {ty xT el : TypeId} {ee : TyI} {xs ys : List Int} {v u : Value} {bs : List Nat} (hu : P.underlying ty = some (.slice el)) (hx : ∃ d, P.underlying xT = some d ∧ ∀ k, d ≠ .int k)
    (hok : TyOk P el ee) (ht : ee.t = .int .u8) (hby : 0 < ee.bytes) (hs : SimD c st a w S ob) (hrow : RowRel (hp w) S (.byt el) xs v bs) (hbs : ∀ k ∈ bs, (∀ i, k ∉ ob i) ∧ S k = none ∧ (c.B0 k ∨ c.w0.heap.size ≤ k)) (hsrc : Src P w S (.int .u8) u ys)
    (hc : (xs.length + ys.length) * ee.bytes ≤ 70368744177664) :
    ∃ v' w' bs', (Builtin.append_ #[ty, xT] o.type #[v, u]).run P w = .ok v' w' ∧ SimD c st a w' S ob ∧ ARel (hp w') S (tv a) (.row (.byt el) (xs ++ ys)) v' bs' ∧ (∀ k ∈ bs', (∀ i, k ∉ ob i) ∧ S k = none ∧ (c.B0 k ∨ c.w0.heap.size ≤ k)) ∧ bs'.Nodup := by
  obtain ⟨hr8, hel⟩ := hrow.byt
  obtain ⟨d, sz, by_, t, z, cm⟩ := ee
  dsimp only at ht
  subst ht
  obtain ⟨v', w', bs', h1, h2, h3, h4, h5, h6⟩ := append_row (o := o) (ee := ⟨d, sz, by_, .int .u8, z, cm⟩) (xs := xs) (ys := ys) hu hx hok hby hs hr8 hbs hsrc hc
  exact ⟨v', w', bs', h1, h2, RowRel.ofByt h3 (h6 hel), h4, h5⟩

theorem append_good {ty xT : TypeId} {s x : Operand} (ho : o.op = .call { callee := .builtin .append, args := #[s, x], argTypes := #[ty, xT] })
    (h : exec E (appendCmd E ty xT s x o.dst) st fp = some ((), st', fp')) (hb : Base P E c) (hs : SimD c st a w S ob) : Good P c o a w st' := by
  unfold appendCmd at h
  obtain ⟨e, he, h0⟩ := tyK_inv h
  obtain ⟨ex, hex, h1⟩ := tyK_inv h0
  clear h h0
  split at h1
  · rename_i el hd
    obtain ⟨ee, hee, h2⟩ := tyK_inv h1
    clear h1
    split at h2
    · rename_i hck
      obtain ⟨hck1, hck2⟩ := and'_true hck
      obtain ⟨hby, hle⟩ := and'_true hck1
      have hby : 0 < ee.bytes := by simpa using hby
      obtain ⟨A, fp1, h3, hA, hAo, hAd, hAr⟩ := rdK_inv h2 hs (hb.globS hs)
      obtain ⟨B, fp2, h4, hB, hBo, hBd, hBr⟩ := rdK_inv h3 hs (hb.globS hs)
      obtain ⟨ys, fp3, h5, hsrc⟩ := srcK_inv (P := P) h4 hs hB
      clear h2 h3 h4
      have hu : P.underlying ty = some (.slice el) := (hb.tyOk he).und.trans (by rw [hd])
      have hx : ∃ d, P.underlying xT = some d ∧ ∀ k, d ≠ .int k := by
        refine ⟨ex.desc, (hb.tyOk hex).und, fun k e => ?_⟩
        rw [e] at hck2; simp at hck2
      have hok := hb.tyOk hee
      have hrun : ∀ {v : Value} {w' : World}, (Builtin.append_ #[ty, xT] o.type #[a.eval s, a.eval x]).run P w = .ok v w' → (execOp a.eval o).run P w = .ok (.value v) w' := by
        intro v w' hv
        simp [execOp, ho, resolve, invoke, builtin, hv]
      split at h5
      · -- nil
        obtain ⟨hc, h6⟩ := exec_guard h5
        have hc := of_decide_eq_true hc
        obtain ⟨v', w', bs', hr, hs', hA', hbs', hnd', _⟩ := append_row (o := o) (xs := []) (bs := []) hu hx hok hby hs (.inl ⟨rfl, ⟨_, hA.1, fun _ _ => rfl⟩, rfl⟩) (fun k hk => by cases hk) hsrc (by simpa using hc)
        exact good_value (hrun hr) (lay_sim h6 hb hs' (by simpa using hA') hbs' hnd')
      · -- an owned row
        rename_i r
        obtain ⟨fp4, h6⟩ := exec_get h5
        clear h5
        split at h6
        · rename_i t xs hy
          split at h6
          · rename_i xs' hcast
            obtain ⟨et, ex'⟩ := cast_sl hcast
            subst et; subst ex'
            obtain ⟨hc, h7⟩ := exec_guard h6
            have hc := of_decide_eq_true hc
            obtain ⟨hok', fp5, h8⟩ := exec_set h7
            obtain ⟨hrlt, _, _⟩ := okSet_parts hok'
            obtain ⟨v', w', bs', hr, hs', hA', hbs', hnd', _⟩ := append_row (o := o) (xs := xs) (bs := ob r) hu hx hok hby (hs.drop hrlt) (v := a.eval s) (by rw [hA.1]; exact hs.row_at hy) (fun k hk => ⟨fun i hi => by
              split at hi
              · cases hi
              · rename_i hne; exact hne (hs.inj i r k hi hk), hs.hid r k hk, hs.fresh r k hk⟩) hsrc hc
            exact good_value (hrun hr) (lay_sim h8 hb hs' hA' hbs' hnd')
          · exact (exec_fail h6).elim
        · exact (exec_fail h6).elim
      · -- a row in a box
        rename_i r n p
        obtain ⟨t, z, u, xs, fp4, h6, hy, hin, hn, hf⟩ := celK_inv h5
        clear h5
        unfold bytK at h6
        split at h6
        · -- bytes in a block of a known type
          rename_i q xs
          dsimp only at h6
          cases hqe : and' (Nat.beq q el) (teq ee.t (.int .u8)) with
          | false => rw [hqe] at h6; exact (exec_fail h6).elim
          | true =>
            rw [hqe] at h6
            dsimp only at h6
            obtain ⟨hq1, hq2⟩ := and'_true hqe
            have hq1 : q = el := Nat.eq_of_beq_eq_true hq1
            subst hq1
            cases hcast : cast (.sl ee.t) (.sl (.int .u8)) ys with
            | none => rw [hcast] at h6; exact (exec_fail h6).elim
            | some ys' =>
              rw [hcast] at h6
              dsimp only at h6
              obtain ⟨et, ey⟩ := cast_sl hcast
              subst ey
              have hsrc' := hsrc.cast et
              obtain ⟨hc, h7⟩ := exec_guard h6
              have hc := of_decide_eq_true hc
              split at h7
              · rename_i q' hq'
                obtain ⟨hlt, fp5, h8⟩ := exec_cont h7
                obtain ⟨b, cs, E', fr, b0, b1, b2, c0, c2, hob, hv, hcs, hfr, hcc, hl, hrow, hput⟩ := hs.cel_row hA hy hin hn hf
                have hnd := hs.nd r
                rw [hob] at hnd
                obtain ⟨hnd1, hdis, _⟩ := nodup_mid hnd
                have hbox : ARel (hp w) S (tv a) (.box q'.1 q'.2) (tv a r) (b :: (b0 ++ ([] ++ b2))) := by
                  refine ⟨b, cs, E', fr, _, rfl, hv, hcs, hfr, ?_⟩
                  rw [hcc]
                  exact hput (hp w) _ (Sub.refl _) (fun _ _ => rfl) .any () [a.eval s] [] q' hq' ⟨rfl, _, rfl, hrow.one⟩
                have hs1 := hs.content' (w' := w) hlt (b := b) (by rw [hob]; simp) hbox rfl hnd1 (fun k hk => .inl (by rw [hob]; simp at hk ⊢; rcases hk with h | h | h <;> simp [h])) (fun _ _ => rfl) hs.frame
                have hmem : ∀ k ∈ b1, k ∈ ob r := fun k hk => by rw [hob]; simp [hk]
                obtain ⟨v', w', bs', hr, hs', hA', hbs', hnd'⟩ := append_byt (o := o) (xs := xs) (bs := b1) hu hx hok et hby hs1 hrow (fun k hk => ⟨fun i hi => by
                  split at hi
                  · exact hdis k hk hi
                  · rename_i hne; exact hne (hs.inj i r k hi (hmem k hk)), hs.hid r k (hmem k hk), hs.fresh r k (hmem k hk)⟩) hsrc' hc
                exact good_value (hrun hr) (lay_sim h8 hb hs' hA' hbs' hnd')
              · exact (exec_fail h7).elim
        split at h6
        · rename_i xs' hcast
          obtain ⟨et, ex'⟩ := cast_sl hcast
          subst et; subst ex'
          obtain ⟨hc, h7⟩ := exec_guard h6
          have hc := of_decide_eq_true hc
          split at h7
          · rename_i q hq
            obtain ⟨hlt, fp5, h8⟩ := exec_cont h7
            obtain ⟨b, cs, E', fr, b0, b1, b2, c0, c2, hob, hv, hcs, hfr, hcc, hl, hrow, hput⟩ := hs.cel_row hA hy hin hn hf
            have hnd := hs.nd r
            rw [hob] at hnd
            obtain ⟨hnd1, hdis, _⟩ := nodup_mid hnd
            have hbox : ARel (hp w) S (tv a) (.box q.1 q.2) (tv a r) (b :: (b0 ++ ([] ++ b2))) := by
              refine ⟨b, cs, E', fr, _, rfl, hv, hcs, hfr, ?_⟩
              rw [hcc]
              exact hput (hp w) _ (Sub.refl _) (fun _ _ => rfl) .any () [a.eval s] [] q hq ⟨rfl, _, rfl, hrow.one⟩
            have hs1 := hs.content' (w' := w) hlt (b := b) (by rw [hob]; simp) hbox rfl hnd1 (fun k hk => .inl (by rw [hob]; simp at hk ⊢; rcases hk with h | h | h <;> simp [h])) (fun _ _ => rfl) hs.frame
            have hmem : ∀ k ∈ b1, k ∈ ob r := fun k hk => by rw [hob]; simp [hk]
            obtain ⟨v', w', bs', hr, hs', hA', hbs', hnd', _⟩ := append_row (o := o) (xs := xs) (bs := b1) hu hx hok hby hs1 hrow (fun k hk => ⟨fun i hi => by
              split at hi
              · exact hdis k hk hi
              · rename_i hne; exact hne (hs.inj i r k hi (hmem k hk)), hs.hid r k (hmem k hk), hs.fresh r k (hmem k hk)⟩) hsrc hc
            exact good_value (hrun hr) (lay_sim h8 hb hs' hA' hbs' hnd')
          · exact (exec_fail h7).elim
        · exact (exec_fail h6).elim
      · exact (exec_fail h5).elim
    · exact (exec_fail h2).elim
  · exact (exec_fail h1).elim
end
end Go.Lift

/- copy: of what comes in, into a row of one's own, into a row in a box, into a slice of an array inside such a row. -/
set_option linter.all false
namespace Go.Lift

section
variable {P : Program} {E : Env} {c : Ctx} {st st' : List A} {fp fp' : FP} {a : Act} {w : World} {S : Hp} {ob : Nat → List Nat} {o : Oper}

theorem take_min {α : Type} (l : List α) (k : Nat) : l.take (min l.length k) = l.take k := by
  by_cases h : l.length ≤ k
  · rw [Nat.min_eq_left h, List.take_length, List.take_of_length_le h]
  · rw [Nat.min_eq_right (by omega)]

theorem over_zero {α : Type} {xs ys : List α} {lo hi : Nat} (h : min ys.length (hi - lo) = 0) : over xs lo hi ys = xs := by
  have h2 : ys.take (hi - lo) = [] := by rw [← take_min, h]; rfl
  unfold over
  rw [h, h2, Nat.add_zero, List.nil_append, List.take_append_drop]

/-- the cells of what a copy leaves -/
theorem over_cells {S : Hp} {t : T} {xs ys : List t.den} {lo hi : Nat} {c1 : List Value} (hall : All (Rd S t) xs c1) (hlo : lo ≤ hi) (hhi : hi ≤ xs.length) :
    ∃ d0 d1 d2, c1 = d0 ++ (d1 ++ d2) ∧ d0.length = lo * t.size ∧ d1.length = min ys.length (hi - lo) * t.size ∧
      ∀ new, All (Rd S t) (ys.take (min ys.length (hi - lo))) new → All (Rd S t) (over xs lo hi ys) (d0 ++ (new ++ d2)) := by
  have e : xs = xs.take lo ++ ((xs.drop lo).take (min ys.length (hi - lo)) ++ (xs.drop lo).drop (min ys.length (hi - lo))) := by
    rw [List.take_append_drop, List.take_append_drop]
  rw [e] at hall
  obtain ⟨d0, d3, hc, h0, h3⟩ := All.split hall
  obtain ⟨d1, d2, hc', h1, h2⟩ := All.split h3
  refine ⟨d0, d1, d2, by rw [hc, hc'], ?_, ?_, fun new hnew => ?_⟩
  · rw [All.length (Rd.length t) _ _ h0, List.length_take, Nat.min_eq_left (by omega)]
  · rw [All.length (Rd.length t) _ _ h1, List.length_take, List.length_drop, Nat.min_eq_left (by omega)]
  · unfold over
    rw [← take_min ys]
    refine All.append h0 (All.append hnew ?_)
    rwa [List.drop_drop] at h2

/-- copy, as it runs -/
theorem run_copy {dT el : TypeId} {l : List TypeId} {ee : TyI} {u : Value} {ys : List ee.t.den} {ty : TypeId} (hu : P.underlying dT = some (.slice el)) (hok : TyOk P el ee) (hsrc : Src P w S ee.t u ys)
    {b off dl cap : Nat} {cs : Array Value} {E' : TypeId} {fr : Nat × Nat} {c0 c1 c2 : List Value} (hcs : hp w b = some (.cells cs E' fr)) (hfr : Free cs fr) (hc : cs.toList = c0 ++ (c1 ++ c2)) (h0 : c0.length = off)
    (h1 : c1.length = min ys.length dl * ee.t.size) :
    ∃ new w' cs', (Builtin.copy_ (dT :: l).toArray ty #[.slice (some ⟨b, off, none⟩) dl cap, u]).run P w = .ok (.int .i64 ((min ys.length dl : Nat) : Int)) w' ∧ All (Rd S ee.t) (ys.take (min ys.length dl)) new ∧
      cs'.toList = c0 ++ (new ++ c2) ∧ w' = setObj' w b (.cells cs' E' fr) := by
  obtain ⟨new, hall, hrun⟩ := hsrc.pre (min ys.length dl) (Nat.min_le_left _ _)
  have hnl := All.length (Rd.length ee.t) _ _ hall
  rw [List.length_take, Nat.min_eq_left (Nat.min_le_left _ _)] at hnl
  obtain ⟨w', cs', hst, hcs', hw'⟩ := run_storeCells_free (P := P) new.toList 0 off cs w c0 c1 c2 hcs hfr hc (by simpa using h0) (by rw [h1, hnl]) (All.cells (Rd.ones ee.t) _ _ hall)
  refine ⟨new.toList, w', cs', ?_, hall, hcs', hw'⟩
  have hlen := hsrc.len
  have hr := hrun w rfl
  rw [hok.size] at hr
  have hmin : Nat.min ys.length dl = min ys.length dl := rfl
  simp only [Builtin.copy_, List.getElem?_toArray, List.getElem?_cons_zero, List.getElem?_cons_succ, Sem.run_bind, run_underlying hu, Result.andThen_ok, hlen, run_sizeOf hok, hmin, hr, hst, Sem.run_pure]
  rfl

/-- copy, where there is nothing to be copied -/
theorem run_copy0 {dT el : TypeId} {l : List TypeId} {ee : TyI} {u : Value} {ys : List ee.t.den} {ty : TypeId} (hu : P.underlying dT = some (.slice el)) (hok : TyOk P el ee) (hsrc : Src P w S ee.t u ys)
    {ad : Option Addr} {dl cap : Nat} (h : min ys.length dl = 0) :
    (Builtin.copy_ (dT :: l).toArray ty #[.slice ad dl cap, u]).run P w = .ok (.int .i64 ((min ys.length dl : Nat) : Int)) w := by
  obtain ⟨new, hall, hrun⟩ := hsrc.pre 0 (Nat.zero_le _)
  have hnew : new = #[] := by
    have : new.toList = [] := by simpa [All] using hall
    simpa using this
  subst hnew
  have hlen := hsrc.len
  have hr := hrun w rfl
  rw [hok.size] at hr
  have hmin : Nat.min ys.length dl = 0 := h
  simp only [Builtin.copy_, List.getElem?_toArray, List.getElem?_cons_zero, List.getElem?_cons_succ, Sem.run_bind, run_underlying hu, Result.andThen_ok, hlen, run_sizeOf hok, hmin, hr, h]
  cases ad <;> simp [storeCells] <;> rfl

set_option maxHeartbeats 1000000 in
theorem copy_good {dT : TypeId} {l : List TypeId} {x y : Operand} (ho : o.op = .call { callee := .builtin .copy, args := #[x, y], argTypes := (dT :: l).toArray })
    (h : exec E (copyCmd E dT x y o.dst) st fp = some ((), st', fp')) (hb : Base P E c) (hs : SimD c st a w S ob) : Good P c o a w st' := by
  unfold copyCmd at h
  obtain ⟨e, he, h1⟩ := tyK_inv h
  clear h
  split at h1
  · rename_i el hd
    obtain ⟨ee, hee, h2⟩ := tyK_inv h1
    obtain ⟨B, fp1, h3, hB, hBo, hBd, hBr⟩ := rdK_inv h2 hs (hb.globS hs)
    obtain ⟨ys, fp2, h4, hsrc⟩ := srcK_inv (P := P) h3 hs hB
    obtain ⟨A, fp3, h5, hA, hAo, hAd, hAr⟩ := rdK_inv h4 hs (hb.globS hs)
    clear h1 h2 h3 h4
    have hu : P.underlying dT = some (.slice el) := (hb.tyOk he).und.trans (by rw [hd])
    have hok := hb.tyOk hee
    have hrun : ∀ {v : Value} {w' : World}, (Builtin.copy_ (dT :: l).toArray o.type #[a.eval x, a.eval y]).run P w = .ok v w' → (execOp a.eval o).run P w = .ok (.value v) w' := by
      intro v w' hv
      simp [execOp, ho, resolve, invoke, builtin, hv]
    split at h5
    · -- a row of one's own
      rename_i r
      obtain ⟨fp4, h6⟩ := exec_get h5
      clear h5
      split at h6
      · rename_i t xs hy
        split at h6
        · rename_i xs' hcast
          obtain ⟨et, ex'⟩ := cast_sl hcast
          subst et; subst ex'
          obtain ⟨hlt, fp5, h7⟩ := exec_cont h6
          have hrow := hs.row_at hy
          have hown : (A.row ee.t (over xs 0 xs.length ys)).own = true := rfl
          by_cases hn : min ys.length xs.length = 0
          · have hov : over xs 0 xs.length ys = xs := over_zero (by simpa using hn)
            rw [hov] at h7
            have hx : ∃ ad cap, a.eval x = .slice ad xs.length cap := by
              rw [hA.1]
              rcases hrow with ⟨hx0, ⟨ad, hv, _⟩, _⟩ | ⟨b, cap, cs, E', fr, hob, hv, _⟩
              · exact ⟨ad, 0, by rw [hv, hx0]; rfl⟩
              · exact ⟨_, cap, hv⟩
            obtain ⟨ad, cap, hx⟩ := hx
            have hr := run_copy0 (P := P) (l := l) (ty := o.type) hu hok hsrc (ad := ad) (cap := cap) hn
            rw [← hx] at hr
            refine good_value (hrun hr) (lay_plain h7 hb (hs.content0 hlt (x := .row ee.t xs) hrow rfl (hs.nd r) (fun k hk => .inl hk) (fun _ => rfl) hs.frame) ?_)
            have : copyN 0 xs.length ys = ((min ys.length xs.length : Nat) : Int) := by simp [copyN]
            rw [this]; exact VR.int
          · rcases hrow with ⟨hx0, _⟩ | ⟨b, cap, cs, E', fr, hob, hv, hcs, hfr, hsz, hle, hall, hq⟩
            · rw [hx0] at hn; simp at hn
            · obtain ⟨d0, d1, d2, hc1, hd0, hd1, hnew⟩ := over_cells (ys := ys) hall (Nat.zero_le _) (Nat.le_refl xs.length)
              simp only [Nat.zero_mul, Nat.sub_zero] at hd0 hd1 hnew
              have hd00 : d0 = [] := List.length_eq_zero_iff.1 hd0
              subst hd00
              have hsplit : cs.toList = [] ++ (d1 ++ (d2 ++ cs.toList.drop (xs.length * ee.t.size))) := by
                have := (List.take_append_drop (xs.length * ee.t.size) cs.toList).symm
                rw [hc1] at this
                simpa using this
              obtain ⟨new, w', cs', hr, hnall, hcs', hw'⟩ := run_copy (P := P) (l := l) (ty := o.type) (cap := cap) (off := 0) hu hok hsrc hcs hfr hsplit rfl hd1
              have hx : a.eval x = .slice (some ⟨b, 0, none⟩) xs.length cap := by rw [hA.1]; exact hv
              rw [← hx] at hr
              have hov := hnew new hnall
              have hovl : (over xs 0 xs.length ys).length = xs.length := by
                unfold over
                simp only [List.length_append, List.length_take, List.length_drop]
                omega
              have hnl : new.length = d1.length := by
                rw [All.length (Rd.length ee.t) _ _ hnall, hd1, List.length_take, Nat.min_eq_left (Nat.min_le_left _ _)]
              have hsize : cs'.size = cs.size := by
                have h1 := congrArg List.length hcs'
                have h2 := congrArg List.length hsplit
                simp at h1 h2; omega
              subst hw'
              have hlen12 : ([] ++ (new ++ d2)).length = xs.length * ee.t.size := by
                have h2 := congrArg List.length hc1
                rw [List.length_take] at h2
                simp only [Array.length_toList] at h2
                rw [hsz, Nat.min_eq_left (Nat.mul_le_mul_right _ hle)] at h2
                simp at h2 ⊢; omega
              have hA' : ARel (hp (setObj' w b (.cells cs' E' fr))) S (tv a) (.row ee.t (over xs 0 xs.length ys)) (tv a r) (ob r) := by
                refine .inr ⟨b, cap, cs', E', fr, hob, by rw [hovl]; exact hv, hp_setObj hcs, hfr.of_size hsize, by rw [hsize]; exact hsz, by rw [hovl]; exact hle, ?_, hq⟩
                rw [hovl, hcs', show [] ++ (new ++ (d2 ++ cs.toList.drop (xs.length * ee.t.size))) = ([] ++ (new ++ d2)) ++ cs.toList.drop (xs.length * ee.t.size) by simp, List.take_append_of_le_length (by omega), ← hlen12, List.take_length]
                exact hov
              refine good_value (hrun hr) (lay_plain h7 hb (hs.content hlt (b := b) (by rw [hob]; simp) hA' rfl (fun b' hne => hp_setObj_ne hne) (hs.frame.setObj (hs.fresh r b (by rw [hob]; simp)) _)) ?_)
              have : copyN 0 xs.length ys = ((min ys.length xs.length : Nat) : Int) := by simp [copyN]
              rw [this]; exact VR.int
        · exact (exec_fail h6).elim
      · exact (exec_fail h6).elim
    · -- a row in a box
      rename_i r n p
      obtain ⟨t, z, u, xs, fp4, h6, hy, hin, hn0, hf⟩ := celK_inv h5
      clear h5
      split at h6
      · rename_i xs' hcast
        obtain ⟨et, ex'⟩ := cast_sl hcast
        subst et; subst ex'
        split at h6
        · rename_i q hq
          obtain ⟨hlt, fp5, h7⟩ := exec_cont h6
          obtain ⟨b, cs, E', fr, b0, b1, b2, c0, c2, hob, hv, hcs, hfr, hcc, hl, hrow, hput⟩ := hs.cel_row hA hy hin hn0 hf
          have hnd := hs.nd r
          have hcN : copyN 0 xs.length ys = ((min ys.length xs.length : Nat) : Int) := by simp [copyN]
          by_cases hn : min ys.length xs.length = 0
          · have hov : over xs 0 xs.length ys = xs := over_zero (by simpa using hn)
            rw [hov] at hq
            have hx : ∃ ad cap, a.eval x = .slice ad xs.length cap := by
              rcases hrow with ⟨hx0, ⟨ad, hv, _⟩, _⟩ | ⟨b, cap, cs, E', fr, hob, hv, _⟩
              · exact ⟨ad, 0, by rw [hv, hx0]; rfl⟩
              · exact ⟨_, cap, hv⟩
            obtain ⟨ad, cap, hx⟩ := hx
            have hr := run_copy0 (P := P) (l := l) (ty := o.type) hu hok hsrc (ad := ad) (cap := cap) hn
            rw [← hx] at hr
            have hbox : ARel (hp w) S (tv a) (.box q.1 q.2) (tv a r) (ob r) := by
              refine ⟨b, cs, E', fr, _, hob, hv, hcs, hfr, ?_⟩
              rw [hcc]
              exact hput (hp w) _ (Sub.refl _) (fun _ _ => rfl) _ _ [a.eval x] b1 q hq ⟨_, rfl, hrow⟩
            refine good_value (hrun hr) (lay_plain h7 hb (hs.content0 hlt hbox rfl (hs.nd r) (fun k hk => .inl hk) (fun _ => rfl) hs.frame) ?_)
            rw [hcN]; exact VR.int
          · rcases hrow with ⟨hx0, _⟩ | ⟨bb, cap, ds, F', fr2, hob1, hvx, hds, hfr2, hsz, hle, hall, hbq⟩
            · rw [hx0] at hn; simp at hn
            · subst hob1
              obtain ⟨d0, d1, d2, hc1, hd0, hd1, hnew⟩ := over_cells (ys := ys) hall (Nat.zero_le _) (Nat.le_refl xs.length)
              simp only [Nat.zero_mul, Nat.sub_zero] at hd0 hd1 hnew
              have hd00 : d0 = [] := List.length_eq_zero_iff.1 hd0
              subst hd00
              have hsplit : ds.toList = [] ++ (d1 ++ (d2 ++ ds.toList.drop (xs.length * ee.t.size))) := by
                have := (List.take_append_drop (xs.length * ee.t.size) ds.toList).symm
                rw [hc1] at this
                simpa using this
              obtain ⟨new, w', ds', hr, hnall, hds', hw'⟩ := run_copy (P := P) (l := l) (ty := o.type) (cap := cap) (off := 0) hu hok hsrc hds hfr2 hsplit rfl hd1
              rw [← hvx] at hr
              have hov := hnew new hnall
              have hovl : (over xs 0 xs.length ys).length = xs.length := by
                unfold over
                simp only [List.length_append, List.length_take, List.length_drop]
                omega
              have hnl : new.length = d1.length := by
                rw [All.length (Rd.length ee.t) _ _ hnall, hd1, List.length_take, Nat.min_eq_left (Nat.min_le_left _ _)]
              have hsize : ds'.size = ds.size := by
                have h1 := congrArg List.length hds'
                have h2 := congrArg List.length hsplit
                simp at h1 h2; omega
              subst hw'
              have hlen12 : ([] ++ (new ++ d2)).length = xs.length * ee.t.size := by
                have h2 := congrArg List.length hc1
                rw [List.length_take] at h2
                simp only [Array.length_toList] at h2
                rw [hsz, Nat.min_eq_left (Nat.mul_le_mul_right _ hle)] at h2
                simp at h2 ⊢; omega
              have hrow' : RowRel (hp (setObj' w bb (.cells ds' F' fr2))) S ee.t (over xs 0 xs.length ys) (a.eval x) [bb] := by
                refine .inr ⟨bb, cap, ds', F', fr2, rfl, by rw [hovl]; exact hvx, hp_setObj hds, hfr2.of_size hsize, by rw [hsize]; exact hsz, by rw [hovl]; exact hle, ?_, hbq⟩
                rw [hovl, hds', show [] ++ (new ++ (d2 ++ ds.toList.drop (xs.length * ee.t.size))) = ([] ++ (new ++ d2)) ++ ds.toList.drop (xs.length * ee.t.size) by simp, List.take_append_of_le_length (by omega), ← hlen12, List.take_length]
                exact hov
              rw [hob] at hnd
              have hbbm : bb ∈ ob r := by rw [hob]; simp
              have hne : b ≠ bb := fun e => by subst e; exact (List.nodup_cons.1 hnd).1 (by simp)
              have hnd2 := (List.nodup_cons.1 hnd).2
              have hdis : ∀ k ∈ b0 ++ b2, k ≠ bb := fun k hk e => by
                subst e
                have h1 := List.nodup_append.1 hnd2
                rcases List.mem_append.1 hk with hk | hk
                · exact h1.2.2 k hk k (by simp) rfl
                · exact (List.nodup_cons.1 h1.2.1).1 hk
              have hbox : ARel (hp (setObj' w bb (.cells ds' F' fr2))) S (tv a) (.box q.1 q.2) (tv a r) (ob r) := by
                refine ⟨b, cs, E', fr, _, hob, hv, by rw [hp_setObj_ne hne]; exact hcs, hfr, ?_⟩
                rw [hcc]
                exact hput (hp (setObj' w bb (.cells ds' F' fr2))) _ (Sub.refl _) (fun k hk => hp_setObj_ne (hdis k hk)) _ _ [a.eval x] [bb] q hq ⟨_, rfl, hrow'⟩
              refine good_value (hrun hr) (lay_plain h7 hb (hs.content hlt (b := bb) hbbm hbox rfl (fun b' hne' => hp_setObj_ne hne') (hs.frame.setObj (hs.fresh r bb hbbm) _)) ?_)
              rw [hcN]; exact VR.int
        · exact (exec_fail h6).elim
      · exact (exec_fail h6).elim
    · -- a slice of an array inside such a row
      rename_i r n p u q lo hi
      obtain ⟨t, z, u', xs, fp4, h6, hy, hin, hn0, hf⟩ := celK_inv h5
      clear h5
      split at h6
      · rename_i xs' hcast
        obtain ⟨et, ex'⟩ := cast_some hcast
        cases et; subst ex'
        obtain ⟨hq, h7⟩ := exec_guard h6
        clear h6
        dsimp only at h7
        obtain ⟨m, t', zs, b', cs, E', fr, c0, c1, c2, cap2, off, hz, hzl, hlo, hhi, hcap, hoff, hv, hcs, hfr, hcc, hall, hbm, hrl, hup⟩ := hs.psl_open hA hy hin hn0 hf hq
        rw [hz] at h7
        simp only [unArr] at h7
        split at h7
        · rename_i zs' hcz
          obtain ⟨e1, e2⟩ := cast_sl hcz
          subst e1; subst e2
          split at h7
          · rename_i xs2 hset
            split at h7
            · rename_i Z hZ
              obtain ⟨hlt, fp5, h8⟩ := exec_cont h7
              have hcN : copyN lo hi ys = ((min ys.length (hi - lo) : Nat) : Int) := rfl
              by_cases hn : min ys.length (hi - lo) = 0
              · have hov : over zs lo hi ys = zs := over_zero hn
                rw [hov] at hset
                have hr := run_copy0 (P := P) (l := l) (ty := o.type) hu hok hsrc (ad := some ⟨b', off, none⟩) (cap := cap2) hn
                rw [← hv] at hr
                obtain ⟨_, hbox⟩ := hup (.arr m ee.t) zs c1 xs2 w cs Z hset ⟨hzl, hall⟩ hZ hcs (fun _ _ => rfl) hcc
                refine good_value (hrun hr) (lay_plain h8 hb (hs.content0 hlt hbox rfl (hs.nd r) (fun k hk => .inl hk) (fun _ => rfl) hs.frame) ?_)
                rw [hcN]; exact VR.int
              · have hlt' : lo < hi := by omega
                have hoff := hoff hlt'
                obtain ⟨d0, d1, d2, hc1, hd0, hd1, hnew⟩ := over_cells (ys := ys) hall hlo (by omega)
                have hsplit : cs.toList = (c0 ++ d0) ++ (d1 ++ (d2 ++ c2)) := by rw [hcc, hc1]; simp
                obtain ⟨new, w', cs', hr, hnall, hcs', hw'⟩ := run_copy (P := P) (l := l) (ty := o.type) (cap := cap2) (off := off) hu hok hsrc hcs hfr hsplit (by rw [List.length_append, hd0, hoff]) hd1
                rw [← hv] at hr
                subst hw'
                have hovl : (over zs lo hi ys).length = m := by
                  unfold over
                  simp only [List.length_append, List.length_take, List.length_drop]
                  omega
                obtain ⟨_, hbox⟩ := hup (.arr m ee.t) (over zs lo hi ys) (d0 ++ (new ++ d2)) xs2 _ cs' Z hset ⟨hovl, hnew new hnall⟩ hZ (hp_setObj hcs) (fun k hk => hp_setObj_ne hk) (by rw [hcs']; simp)
                refine good_value (hrun hr) (lay_plain h8 hb (hs.content hlt (b := b') hbm hbox rfl (fun b2 hne => hp_setObj_ne hne) (hs.frame.setObj (hs.fresh r b' hbm) _)) ?_)
                rw [hcN]; exact VR.int
            · exact (exec_fail h7).elim
          · exact (exec_fail h7).elim
        · exact (exec_fail h7).elim
      · exact (exec_fail h6).elim
    · exact (exec_fail h5).elim
  · exact (exec_fail h1).elim
end
end Go.Lift

/- Assignments, ranges over strings, calls; and all operations together. -/
set_option linter.all false
namespace Go.Lift
section
variable {P : Program} {E : Env} {c : Ctx} {st st' : List A} {fp fp' : FP} {a : Act} {w w' : World} {S : Hp} {ob : Nat → List Nat} {o : Oper}

theorem set_good {t : Nat} {x : A} {v : Value} {o' : List Nat} (hrun : (execOp a.eval o).run P w = .ok (.value v) w') (ho : o.dst = some t) (h : exec E (.set t x (.ret ())) st fp = some ((), st', fp')) (hb : Base P E c) (hs : SimD c st a w' S ob)
    (hx : ARel (hp w') S (tv a) x v o') (hob : ∀ b ∈ o', (∀ i, b ∉ ob i) ∧ S b = none ∧ (c.B0 b ∨ c.w0.heap.size ≤ b)) (hnd : o'.Nodup := by simp) : Good P c o a w st' := by
  obtain ⟨fp1, h1, hs1⟩ := set_sim h hb hs hx hob hnd
  obtain rfl := (exec_ret' h1).2
  refine good_value hrun ?_
  rw [ho]
  exact ⟨_, _, hs1⟩

/-- an owner's block, once the owner has been struck -/
theorem dropped_free (hs : SimD c st a w S ob) {s b : Nat} (h : b ∈ ob s) : (∀ i, b ∉ (fun i => if i = s then [] else ob i) i) ∧ S b = none ∧ (c.B0 b ∨ c.w0.heap.size ≤ b) := by
  refine ⟨fun i e => ?_, hs.hid _ _ h, hs.fresh _ _ h⟩
  dsimp only at e
  split at e
  · cases e
  · rename_i hne; exact hne (hs.inj i s b e h)

theorem asg_good {x : Operand} (ho : o.op = .assign x) (h : exec E (opCmd E o) st fp = some ((), st', fp')) (hb : Base P E c) (hs : SimD c st a w S ob) : Good P c o a w st' := by
  simp only [opCmd, ho] at h
  unfold asgCmd at h
  have hrun : (execOp a.eval o).run P w = .ok (.value (a.eval x)) w := by simp [execOp, ho]
  split at h
  · exact (exec_fail h).elim
  rename_i d hd
  have hnil : ∀ {st1 : List A} {fp1 : FP}, SimD c st1 a w S ob → a.eval x = .slice none 0 0 → exec E (match E.keep d with
      | some t => (.set d (.row t []) (.ret ()) : Cmd Unit)
      | none => .set d .nilsl (.ret ())) st1 fp1 = some ((), st', fp') → Good P c o a w st' := by
    intro st1 fp1 hs1 ex h1
    split at h1
    · exact set_good hrun hd h1 hb hs1 (o' := []) (.inl ⟨rfl, ⟨_, ex, fun _ _ => rfl⟩, rfl⟩) (fun b e => by cases e)
    · exact set_good hrun hd h1 hb hs1 (o' := []) ⟨ex, rfl⟩ (fun b e => by cases e)
  have own : ∀ {s : Nat} {y : A} {fp1 : FP}, x = .tmp s → st.getD s .dead = y → y.own = true → exec E (.set s .dead (.set d y (.ret ()))) st fp1 = some ((), st', fp') → Good P c o a w st' := by
    intro s y fp1 hx hy hyo h1
    obtain ⟨hok, fp2, h2⟩ := exec_set h1
    obtain ⟨hlt, _, _⟩ := okSet_parts hok
    have hrel := hs.rel s y (getD_at hy (fun e => by subst e; simp [A.own] at hyo))
    have ev : a.eval x = tv a s := by rw [hx]; rfl
    rw [ev] at hrun
    exact set_good hrun hd h2 hb (hs.drop hlt) hrel (fun b e => dropped_free hs e) (hs.nd s)
  split at h
  · rename_i s
    obtain ⟨fp1, h1⟩ := exec_get h
    clear h
    have ev : a.eval (.tmp s) = tv a s := rfl
    generalize hy : st.getD s .dead = y at h1
    cases y <;> dsimp only at h1
    case row t xs =>
      split at h1
      · split at h1
        · exact (exec_fail h1).elim
        · exact own rfl hy rfl h1
      · obtain ⟨fp2, h2⟩ := exec_retire h1
        obtain ⟨S', t1, z1, hS, e1, hv, hs'⟩ := hs.retire (getD_at hy (by simp)) (y := .v (.sl t) xs) rfl
        cases e1
        rw [ev] at hrun
        exact set_good hrun hd h2 hb hs' (o' := []) ⟨hv, rfl⟩ (fun b e => by cases e)
    case box t z =>
      split at h1
      · exact (exec_fail h1).elim
      · exact own rfl hy rfl h1
    case iter => exact (exec_fail h1).elim
    case bor r =>
      obtain ⟨fp2, h2⟩ := exec_get h1
      clear h1
      split at h2
      · rename_i t xs hr
        split at h2
        · obtain ⟨hok, fp3, h3⟩ := exec_set h2
          obtain ⟨hlt, _, _⟩ := okSet_parts hok
          have hrel := hs.rel r _ (getD_at hr (by simp))
          have hA := hs.rel s _ (getD_at hy (by simp))
          rw [ev, hA.1] at hrun
          exact set_good hrun hd h3 hb (hs.drop hlt) hrel (fun b e => dropped_free hs e) (hs.nd r)
        · obtain ⟨fp3, h3⟩ := exec_retire h2
          obtain ⟨S', t1, z1, hS, e1, hv, hs'⟩ := hs.retire (getD_at hr (by simp)) (y := .v (.sl t) xs) rfl
          cases e1
          have hA := hs.rel s _ (getD_at hy (by simp))
          rw [ev, hA.1] at hrun
          exact set_good hrun hd h3 hb hs' (o' := []) ⟨hv, rfl⟩ (fun b e => by cases e)
      · have hA := hs.rel s _ (getD_at hy (by simp))
        rw [ev, hA.1] at hrun
        exact set_good hrun hd h2 hb hs (o' := []) ⟨rfl, rfl⟩ (fun b e => by cases e)
      · have hA := hs.rel s _ (getD_at hy (by simp))
        rw [ev, hA.1] at hrun
        exact set_good hrun hd h2 hb hs (o' := []) ⟨rfl, rfl⟩ (fun b e => by cases e)
      · exact (exec_fail h2).elim
    case ov t z =>
      split at h1
      · exact (exec_fail h1).elim
      · exact own rfl hy rfl h1
    case otup l => exact (exec_fail h1).elim
    case pel r n p u q =>
      have hA := hs.rel s _ (getD_at hy (by simp))
      have hn := hA.1
      rw [ev] at hrun
      rw [hn] at hA
      exact set_good hrun hd h1 hb hs (o' := []) hA (fun b e => by cases e)
    case psl r n p u q lo hi =>
      have hA := hs.rel s _ (getD_at hy (by simp))
      have hn := hA.1
      rw [ev] at hrun
      rw [hn] at hA
      exact set_good hrun hd h1 hb hs (o' := []) hA (fun b e => by cases e)
    case nilsl =>
      have hA := hs.rel s _ (getD_at hy (by simp))
      exact hnil hs (by rw [ev]; exact hA.1) h1
    case dead => exact (exec_fail h1).elim
    case yld => exact (exec_fail h1).elim
    case cel r n p =>
      have hA := hs.rel s _ (getD_at hy (by simp))
      have hn := hA.1
      rw [hn] at hA
      rw [← ev] at hA
      obtain ⟨d', st2, fp2, S2, ob2, h2, hs2, hS2, hv, hl⟩ := datK_inv h1 hs hA
      exact set_good hrun hd h2 hb hs2 (o' := []) ⟨hv, rfl⟩ (fun b e => by cases e)
    case clo f rs =>
      have hA := hs.rel s _ (getD_at hy (by simp))
      have hn := hA.1
      rw [hn] at hA
      split at h1
      · rw [ev] at hrun
        exact set_good hrun hd h1 hb hs (o' := []) hA (fun b e => by cases e)
      rw [← ev] at hA
      obtain ⟨d', st2, fp2, S2, ob2, h2, hs2, hS2, hv, hl⟩ := datK_inv h1 hs hA
      exact set_good hrun hd h2 hb hs2 (o' := []) ⟨hv, rfl⟩ (fun b e => by cases e)
    case v t z =>
      have hA := hs.rel s _ (getD_at hy (by simp))
      rw [ev] at hrun
      exact set_good hrun hd h1 hb hs (o' := []) ⟨hA.1, rfl⟩ (fun b e => by cases e)
    case adr r t p =>
      have hA := hs.rel s _ (getD_at hy (by simp))
      have hn := hA.1
      rw [ev] at hrun
      rw [hn] at hA
      exact set_good hrun hd h1 hb hs (o' := []) hA (fun b e => by cases e)
    case tup l =>
      have hA := hs.rel s _ (getD_at hy (by simp))
      have hn := hA.1
      rw [ev] at hrun
      rw [hn] at hA
      exact set_good hrun hd h1 hb hs (o' := []) hA (fun b e => by cases e)
  · obtain ⟨A, fp1, h1, hA, hAo, hAd, hAr⟩ := rdK_inv h hs (hb.globS hs)
    clear h
    split at h1
    · exact hnil hs hA.1 h1
    · exact set_good hrun hd h1 hb hs hA (fun b e => by cases e)

theorem range_good {t : TypeId} {x : Operand} (ho : o.op = .range t x) (h : exec E (opCmd E o) st fp = some ((), st', fp')) (hb : Base P E c) (hs : SimD c st a w S ob) : Good P c o a w st' := by
  simp only [opCmd, ho] at h
  unfold rangeCmd at h
  obtain ⟨e, he, h0⟩ := tyK_inv h
  obtain ⟨A, fp1, h1, hA, hAo, hAd, hAr⟩ := rdK_inv h0 hs (hb.globS hs)
  clear h h0
  split at h1
  · rename_i x1 a0 s hstr
    have hu := strT hb.env he hstr
    have ex : a.eval x = .string ⟨⟨s⟩⟩ := hA.1.str_inv
    obtain ⟨g1, g2, g3, g4⟩ := hs.pushed (.stringIter ⟨⟨s⟩⟩ 0)
    refine good_value (v := .pointer (some ⟨w.heap.size, 0, none⟩)) (w' := pushed w (.stringIter ⟨⟨s⟩⟩ 0)) ?_ (lay_sim h1 hb g1 (o' := [w.heap.size]) ⟨w.heap.size, none, rfl, rfl, hp_pushed _ _⟩ (fun b e => by simp at e; subst e; exact ⟨g2, g3, g4⟩))
    simp [execOp, ho, Instr.range, run_underlying hu, ex]
    rfl
  · exact (exec_fail h1).elim

theorem run_setObj {b : Nat} {o o' : Obj} (h : hp w b = some o') (hc : ∀ cs E fr, o' ≠ .cells cs E fr) : (setObj b o).run P w = .ok () (setObj' w b o) := by
  simp only [hp] at h
  simp only [setObj, Sem.run, h]
  cases o' <;> first
    | exact absurd rfl (hc _ _ _)
    | rfl

theorem next_good {x : Operand} {isS : Bool} (ho : o.op = .next x isS) (h : exec E (opCmd E o) st fp = some ((), st', fp')) (hb : Base P E c) (hs : SimD c st a w S ob) : Good P c o a w st' := by
  simp only [opCmd, ho] at h
  unfold nextCmd at h
  split at h
  · exact (exec_fail h).elim
  obtain ⟨A, fp1, h1, hA, hAo, hAd, hAr⟩ := rdK_inv h hs (hb.globS hs)
  clear h
  split at h1
  · rename_i r
    obtain ⟨fp2, h2⟩ := exec_get h1
    clear h1
    split at h2
    · rename_i s pos hy
      obtain ⟨b, sp, hob, hv, hcs⟩ := hs.rel r _ (getD_at hy (by simp))
      have ex : a.eval x = .pointer (some ⟨b, 0, sp⟩) := by rw [hA.1, hv]
      have hget : (getObj b).run P w = .ok (.stringIter ⟨⟨s⟩⟩ pos) w := by
        simp only [hp] at hcs
        simp [getObj, Sem.run, hcs]
      rcases exec_test h2 with ⟨hc, h3⟩ | ⟨hc, h3⟩
      · have hc := of_decide_eq_true hc
        obtain ⟨hlt, fp3, h4⟩ := exec_cont h3
        have hs1 := hs.content (w' := setObj' w b (.stringIter ⟨⟨s⟩⟩ (pos + (runeAt s pos).2))) (x := .iter s (pos + (runeAt s pos).2)) hlt (b := b) (by rw [hob]; simp) ⟨b, sp, hob, hv, hp_setObj hcs⟩ rfl (fun b' hne => hp_setObj_ne hne) (hs.frame.setObj (hs.fresh r b (by rw [hob]; simp)) _)
        refine good_value (v := .tuple #[.bool true, goInt pos, .int .i32 (runeAt s pos).1]) ?_ (lay_sim h4 hb hs1 (o' := []) ⟨rfl, _, rfl, .cons VR.bool (.cons VR.int (.cons VR.int .nil))⟩ (fun b e => by cases e))
        simp [execOp, ho, Instr.next, ex, hget, size_str, hc, run_setObj hcs, runeAt]
      · have hc := of_decide_eq_false hc
        refine good_value (v := .tuple #[.bool false]) (w' := w) ?_ (lay_sim h3 hb hs (o' := []) ⟨rfl, _, rfl, .cons VR.bool .nil⟩ (fun b e => by cases e))
        simp [execOp, ho, Instr.next, ex, hget, size_str, hc]
    · exact (exec_fail h2).elim
  · exact (exec_fail h1).elim

/-! ## calls -/

/-- the arguments of a call: data, and boxes that owners in st hand down -/
inductive ArgsL (a : Act) (st : List A) (S : Hp) : Nat → List A → List Value → List (Nat × Nat) → Prop
  | nil {i : Nat} : ArgsL a st S i [] [] []
  | v {i : Nat} {t : T} {x : t.den} {v : Value} {l : List A} {vs : List Value} {b : List (Nat × Nat)} (hv : VR S t x v) (h : ArgsL a st S (i + 1) l vs b) : ArgsL a st S i (.v t x :: l) (v :: vs) b
  | nilsl {i : Nat} {l : List A} {vs : List Value} {b : List (Nat × Nat)} (h : ArgsL a st S (i + 1) l vs b) : ArgsL a st S i (.nilsl :: l) (.slice none 0 0 :: vs) b
  | box {i s : Nat} {t : T} {x : t.den} {l : List A} {vs : List Value} {b : List (Nat × Nat)} (hs : st[s]? = some (.box t x)) (h : ArgsL a st S (i + 1) l vs b) : ArgsL a st S i (.box t x :: l) (tv a s :: vs) ((s, i) :: b)

theorem boxesK_inv {α : Type} {r : α × List A × FP} : ∀ (rs : List Nat) (i : Nat) (k : List A → List (Nat × Nat) → Cmd α) (fp : FP), exec E (boxesK rs i k) st fp = some r →
    ∃ l b fp', exec E (k l b) st fp' = some r ∧ ArgsL a st S i l (rs.map (tv a)) b
  | [], i, k, fp, h => ⟨[], [], fp, h, .nil⟩
  | s :: rs, i, k, fp, h => by
    simp only [boxesK] at h
    obtain ⟨fp1, h⟩ := exec_get h
    split at h
    · rename_i t y hy
      obtain ⟨l, b, fp2, h2, hl⟩ := boxesK_inv rs (i + 1) _ _ h
      exact ⟨_, _, fp2, h2, .box (getD_at hy (by simp)) hl⟩
    · exact (exec_fail h).elim

theorem argsK_inv {α : Type} {r : α × List A × FP} (hb : Base P E c) (xt : List Nat) : ∀ (xs : List Operand) (i : Nat) (k : List A → List (Nat × Nat) → Cmd α) (st : List A) (fp : FP) (S : Hp) (ob : Nat → List Nat),
    exec E (argsK E xt xs i k) st fp = some r → SimD c st a w S ob →
    ∃ l b st' fp' S' ob', exec E (k l b) st' fp' = some r ∧ SimD c st' a w S' ob' ∧ Sub S S' ∧ ArgsL a st' S' i l (xs.map a.eval ++ xt.map (tv a)) b
  | [], i, k, st, fp, S, ob, h, hs => by
    obtain ⟨l, b, fp1, h1, hl⟩ := boxesK_inv (a := a) (S := S) xt i k fp h
    exact ⟨l, b, st, fp1, S, ob, h1, hs, Sub.refl _, hl⟩
  | x :: xs, i, k, st, fp, S, ob, h, hs => by
    simp only [argsK] at h
    obtain ⟨A, fp1, h1, hA, hAo, hAd, hAr⟩ := rdK_inv h hs (hb.globS hs)
    clear h
    have dat : ∀ {d : Dat} {st1 : List Lift.A} {fp2 : FP} {S1 : Hp} {ob1 : Nat → List Nat}, exec E (argsK E xt xs (i + 1) fun l b => k (.v d.1 d.2 :: l) b) st1 fp2 = some r → SimD c st1 a w S1 ob1 → Sub S S1 → VR S1 d.1 d.2 (a.eval x) →
        ∃ l b st' fp' S' ob', exec E (k l b) st' fp' = some r ∧ SimD c st' a w S' ob' ∧ Sub S S' ∧ ArgsL a st' S' i l ((x :: xs).map a.eval ++ xt.map (tv a)) b := by
      intro d st1 fp2 S1 ob1 h2 hs1 hS1 hv
      obtain ⟨l, b, st2, fp4, S2, ob2, h4, hs2, hev, hl⟩ := argsK_inv hb xt xs (i + 1) _ _ _ _ _ h2 hs1
      exact ⟨_, _, st2, fp4, S2, ob2, h4, hs2, hS1.trans hev, .v (hv.mono hev) hl⟩
    split at h1
    · rename_i s
      obtain ⟨fp2, h2⟩ := exec_get h1
      clear h1
      split at h2
      · rename_i t ys hy
        obtain ⟨fp3, h3⟩ := exec_retire h2
        obtain ⟨S1, t1, z1, hS, e1, hv, hs1⟩ := hs.retire (getD_at hy (by simp)) (y := .v (.sl t) ys) rfl
        cases e1
        exact dat (d := ⟨.sl t, ys⟩) h3 hs1 hS (by rw [hA.1]; exact hv)
      · rename_i t y hy
        split at h2
        · rename_i hfz
          obtain ⟨fp3, h3⟩ := exec_retire h2
          obtain ⟨S1, t1, z1, hS, e1, hv, hs1⟩ := hs.retire (getD_at hy (by simp)) (y := .v (frz t) (frzD t y)) (retOv_frz hfz)
          cases e1
          exact dat (d := ⟨frz t, frzD t y⟩) h3 hs1 hS (by rw [hA.1]; exact hv)
        · exact (exec_fail h2).elim
      · obtain ⟨l, b, st2, fp4, S2, ob2, h4, hs2, hev, hl⟩ := argsK_inv hb xt xs (i + 1) _ _ _ _ _ h2 hs
        obtain ⟨fp5, h5⟩ := exec_get h4
        split at h5
        · rename_i t y hy
          refine ⟨_, _, st2, fp5, S2, ob2, h5, hs2, hev, ?_⟩
          rw [List.map_cons, List.cons_append, hA.1]
          exact .box (getD_at hy (by simp)) hl
        · exact (exec_fail h5).elim
      · exact (exec_fail h2).elim
    · exact dat (d := ⟨_, _⟩) h1 hs (Sub.refl _) hA.1
    · obtain ⟨l, b, st2, fp4, S2, ob2, h4, hs2, hev, hl⟩ := argsK_inv hb xt xs (i + 1) _ _ _ _ _ h1 hs
      refine ⟨_, _, st2, fp4, S2, ob2, h4, hs2, hev, ?_⟩
      rw [List.map_cons, List.cons_append, hA.1]
      exact .nilsl hl
    · obtain ⟨d, st2, fp2, S2, ob2, h2, hs2, hS2, hv, _⟩ := datK_inv h1 hs hA
      exact dat h2 hs2 hS2 hv
    · obtain ⟨d, st2, fp2, S2, ob2, h2, hs2, hS2, hv, _⟩ := datK_inv h1 hs hA
      exact dat h2 hs2 hS2 hv
    · exact (exec_fail h1).elim

theorem fnArgs_rel {st : List A} {S : Hp} : ∀ (t : T) (x : t.den) (l : List A) (cs : List Value) (i : Nat), fnArgs t x = some l → Rd S t x cs → ArgsL a st S i l cs []
  | .unit, x, l, cs, i, h, hr => by simp [fnArgs] at h; subst h; rw [show cs = [] from hr]; exact .nil
  | .pair (.ptr t) b, x, l, cs, i, h, hr => by
    simp only [fnArgs] at h
    split at h
    · rename_i l' hl'
      cases h
      obtain ⟨c1, c2, e, h1, h2⟩ := hr
      have hlen := h1.length
      obtain ⟨bk, off, c3, e1, _⟩ := id h1
      subst e1
      rw [e]
      exact .v (VR.of_one rfl h1) (fnArgs_rel b x.2 l' c2 (i + 1) hl' h2)
    · cases h
  | .int _, x, l, cs, i, h, hr => by simp [fnArgs] at h
  | .bool, x, l, cs, i, h, hr => by simp [fnArgs] at h
  | .str, x, l, cs, i, h, hr => by simp [fnArgs] at h
  | .opq, x, l, cs, i, h, hr => by simp [fnArgs] at h
  | .arr _ _, x, l, cs, i, h, hr => by simp [fnArgs] at h
  | .sl _, x, l, cs, i, h, hr => by simp [fnArgs] at h
  | .ptr _, x, l, cs, i, h, hr => by simp [fnArgs] at h
  | .own _, x, l, cs, i, h, hr => by simp [fnArgs] at h
  | .any, x, l, cs, i, h, hr => by simp [fnArgs] at h
  | .byt _, x, l, cs, i, h, hr => by simp [fnArgs] at h
  | .self _, x, l, cs, i, h, hr => by simp [fnArgs] at h
  | .fn _ _, x, l, cs, i, h, hr => by simp [fnArgs] at h
  | .pair (.int _) _, x, l, cs, i, h, hr => by simp [fnArgs] at h
  | .pair .bool _, x, l, cs, i, h, hr => by simp [fnArgs] at h
  | .pair .str _, x, l, cs, i, h, hr => by simp [fnArgs] at h
  | .pair .opq _, x, l, cs, i, h, hr => by simp [fnArgs] at h
  | .pair .unit _, x, l, cs, i, h, hr => by simp [fnArgs] at h
  | .pair (.pair _ _) _, x, l, cs, i, h, hr => by simp [fnArgs] at h
  | .pair (.arr _ _) _, x, l, cs, i, h, hr => by simp [fnArgs] at h
  | .pair (.sl _) _, x, l, cs, i, h, hr => by simp [fnArgs] at h
  | .pair (.own _) _, x, l, cs, i, h, hr => by simp [fnArgs] at h
  | .pair .any _, x, l, cs, i, h, hr => by simp [fnArgs] at h
  | .pair (.byt _) _, x, l, cs, i, h, hr => by simp [fnArgs] at h
  | .pair (.self _) _, x, l, cs, i, h, hr => by simp [fnArgs] at h
  | .pair (.fn _ _) _, x, l, cs, i, h, hr => by simp [fnArgs] at h

theorem ArgsL.append {st : List A} {S : Hp} {i : Nat} {l1 l2 : List A} {v1 v2 : List Value} {b : List (Nat × Nat)} (h : ArgsL a st S i l1 v1 b) (h2 : ∀ j, ArgsL a st S j l2 v2 []) : ArgsL a st S i (l1 ++ l2) (v1 ++ v2) b := by
  induction h with
  | nil => exact h2 _
  | v hv _ ih => exact .v hv ih
  | nilsl _ ih => exact .nilsl ih
  | box hs _ ih => exact .box hs ih

/-- the blocks of argument i -/
def obA (b : List (Nat × Nat)) (ob : Nat → List Nat) (i : Nat) : List Nat := match b.find? (fun p => Nat.beq p.2 i) with
  | some p => ob p.1
  | none => []

/-- the blocks of owner i, behind the call -/
def obB (b : List (Nat × Nat)) (ob' ob : Nat → List Nat) (i : Nat) : List Nat := match b.find? (fun p => Nat.beq p.1 i) with
  | some p => ob' p.2
  | none => ob i

theorem ArgsL.places {a : Act} {st : List A} {S : Hp} {i : Nat} {l : List A} {vs : List Value} {b : List (Nat × Nat)} (h : ArgsL a st S i l vs b) :
    l.length = vs.length ∧ (∀ p ∈ b, i ≤ p.2 ∧ p.2 < i + l.length) ∧
    (∀ (j : Nat) (x : A), l[j]? = some x → ∃ v, vs[j]? = some v ∧ x.refs = [] ∧ ((∃ s t y, x = .box t y ∧ v = tv a s ∧ st[s]? = some (.box t y) ∧ b.find? (fun p => Nat.beq p.2 (i + j)) = some (s, i + j)) ∨
      (isBoxA x = false ∧ b.find? (fun p => Nat.beq p.2 (i + j)) = none ∧ ∀ h tv', ARel h S tv' x v []))) ∧
    (∀ p ∈ b, ∃ t y, st[p.1]? = some (.box t y) ∧ l[p.2 - i]? = some (.box t y) ∧ vs[p.2 - i]? = some (tv a p.1)) := by
  induction h with
  | nil => refine ⟨rfl, by simp, ?_, by simp⟩; intro j x h; simp at h
  | @v i t x v l vs b hv _ ih =>
    obtain ⟨h1, h2, h3, h4⟩ := ih
    refine ⟨by simp [h1], fun p hp => ?_, ?_, fun p hp => ?_⟩
    · have := h2 p hp; simp; omega
    · intro j y hj
      cases j with
      | zero =>
        simp at hj; subst hj
        refine ⟨v, rfl, rfl, .inr ⟨rfl, ?_, fun h tv' => ⟨hv, rfl⟩⟩⟩
        rw [List.find?_eq_none]
        intro p hp; have := h2 p hp; simp; omega
      | succ j =>
        obtain ⟨u, hu, h5⟩ := h3 j y (by simpa using hj)
        have e : i + 1 + j = i + (j + 1) := by omega
        rw [e] at h5
        exact ⟨u, by simpa using hu, h5⟩
    · obtain ⟨t', y, h5, h6, h7⟩ := h4 p hp
      have := h2 p hp
      have e : p.2 - i = (p.2 - (i + 1)) + 1 := by omega
      exact ⟨t', y, h5, by rw [e]; simpa using h6, by rw [e]; simpa using h7⟩
  | @nilsl i l vs b _ ih =>
    obtain ⟨h1, h2, h3, h4⟩ := ih
    refine ⟨by simp [h1], fun p hp => ?_, ?_, fun p hp => ?_⟩
    · have := h2 p hp; simp; omega
    · intro j y hj
      cases j with
      | zero =>
        simp at hj; subst hj
        refine ⟨_, rfl, rfl, .inr ⟨rfl, ?_, fun h tv' => ⟨rfl, rfl⟩⟩⟩
        rw [List.find?_eq_none]
        intro p hp; have := h2 p hp; simp; omega
      | succ j =>
        obtain ⟨u, hu, h5⟩ := h3 j y (by simpa using hj)
        have e : i + 1 + j = i + (j + 1) := by omega
        rw [e] at h5
        exact ⟨u, by simpa using hu, h5⟩
    · obtain ⟨t', y, h5, h6, h7⟩ := h4 p hp
      have := h2 p hp
      have e : p.2 - i = (p.2 - (i + 1)) + 1 := by omega
      exact ⟨t', y, h5, by rw [e]; simpa using h6, by rw [e]; simpa using h7⟩
  | @box i s t x l vs b hs _ ih =>
    obtain ⟨h1, h2, h3, h4⟩ := ih
    refine ⟨by simp [h1], fun p hp => ?_, ?_, fun p hp => ?_⟩
    · rcases List.mem_cons.1 hp with rfl | hp
      · simp
      · have := h2 p hp; simp; omega
    · intro j y hj
      cases j with
      | zero =>
        simp at hj; subst hj
        exact ⟨_, rfl, rfl, .inl ⟨s, t, x, rfl, rfl, hs, by simp⟩⟩
      | succ j =>
        obtain ⟨u, hu, h5⟩ := h3 j y (by simpa using hj)
        have e : i + 1 + j = i + (j + 1) := by omega
        rw [e] at h5
        have hne : Nat.beq i (i + (j + 1)) = false := by
          cases hb' : Nat.beq i (i + (j + 1)) with
          | false => rfl
          | true => have := beq_nat hb'; omega
        refine ⟨u, by simpa using hu, ?_⟩
        rw [List.find?_cons]
        simp only [hne]
        exact h5
    · rcases List.mem_cons.1 hp with rfl | hp
      · exact ⟨t, x, hs, by simp, by simp⟩
      · obtain ⟨t', y, h5, h6, h7⟩ := h4 p hp
        have := h2 p hp
        have e : p.2 - i = (p.2 - (i + 1)) + 1 := by omega
        exact ⟨t', y, h5, by rw [e]; simpa using h6, by rw [e]; simpa using h7⟩

def applyBack (outs : List A) : List (Nat × Nat) → List A → List A
  | [], st => st
  | (r, i) :: l, st => applyBack outs l (contSt st r (outs.getD i .dead))

theorem backK_inv {α : Type} {r : α × List A × FP} {outs : List A} : ∀ (b : List (Nat × Nat)) (k : Cmd α) (st : List A) (fp : FP), exec E (backK outs b k) st fp = some r →
    ∃ fp', exec E k (applyBack outs b st) fp' = some r ∧ ∀ p ∈ b, ∃ t y, outs.getD p.2 .dead = .box t y
  | [], k, st, fp, h => ⟨fp, h, by simp⟩
  | (s, i) :: b, k, st, fp, h => by
    simp only [backK] at h
    split at h
    · rename_i t y hy
      obtain ⟨fp1, h1⟩ := exec_get h
      split at h1
      · split at h1
        · obtain ⟨_, fp2, h2⟩ := exec_cont h1
          obtain ⟨fp3, h3, hall⟩ := backK_inv b k _ _ h2
          refine ⟨fp3, by rw [applyBack, hy]; exact h3, fun p hp => ?_⟩
          rcases List.mem_cons.1 hp with rfl | hp
          · exact ⟨t, y, hy⟩
          · exact hall p hp
        · exact (exec_fail h1).elim
      · exact (exec_fail h1).elim
    · exact (exec_fail h).elim

theorem nodupB_spec : ∀ {b : List (Nat × Nat)}, nodupB b = true → b.Pairwise (fun p q => p.1 ≠ q.1)
  | [], _ => .nil
  | p :: b, h => by
    obtain ⟨h1, h2⟩ := and'_true h
    refine .cons (fun q hq e => ?_) (nodupB_spec h2)
    simp only [Bool.not_eq_true', List.any_eq_false] at h1
    have := h1 q hq
    rw [e] at this
    simp [Nat.beq_refl] at this

theorem applyBack_length (outs : List A) : ∀ (b : List (Nat × Nat)) (st : List A), (applyBack outs b st).length = st.length
  | [], _ => rfl
  | (r, i) :: b, st => by rw [applyBack, applyBack_length outs b, contSt_length]

/-- a temporary that no handed box is in: as it was, or struck because its value was a cell of one of these boxes -/
theorem applyBack_other (outs : List A) : ∀ (b : List (Nat × Nat)) (st : List A) (j : Nat) (y : A), (∀ p ∈ b, p.1 ≠ j) → (applyBack outs b st)[j]? = some y →
    (st[j]? = some y ∧ ∀ p ∈ b, y.cell ≠ some p.1) ∨ (y = .dead ∧ ∃ z, st[j]? = some z ∧ z.own = false)
  | [], _, _, _, _, h => .inl ⟨h, by simp⟩
  | (r, i) :: b, st, j, y, hne, h => by
    rw [applyBack] at h
    rcases applyBack_other outs b _ j y (fun p hp => hne p (by simp [hp])) h with ⟨h1, h2⟩ | ⟨h1, z, hz, hzo⟩
    · rcases contSt_other (hne (r, i) (by simp)).symm h1 with ⟨h3, h4⟩ | ⟨h3, z, hz, hzo⟩
      · refine .inl ⟨h3, fun p hp => ?_⟩
        rcases List.mem_cons.1 hp with rfl | hp
        · exact h4
        · exact h2 p hp
      · exact .inr ⟨h3, z, hz, hzo⟩
    · rcases contSt_other (hne (r, i) (by simp)).symm hz with ⟨h3, h4⟩ | ⟨h3, z', hz', hzo'⟩
      · exact .inr ⟨h1, z, h3, hzo⟩
      · exact .inr ⟨h1, z', hz', hzo'⟩

theorem applyBack_at (outs : List A) : ∀ (b : List (Nat × Nat)) (st : List A) (p : Nat × Nat), b.Pairwise (fun p q => p.1 ≠ q.1) → p ∈ b → p.1 < st.length → (∀ q ∈ b, ∃ t y, outs.getD q.2 .dead = .box t y) → (applyBack outs b st)[p.1]? = some (outs.getD p.2 .dead)
  | [], _, _, _, h, _, _ => by cases h
  | (r, i) :: b, st, p, hnd, h, hlt, hbx => by
    rw [applyBack]
    cases hnd with
    | cons h1 h2 =>
      rcases List.mem_cons.1 h with rfl | hp
      · have hlt' : r < (applyBack outs b (contSt st r (outs.getD i .dead))).length := by rw [applyBack_length, contSt_length]; exact hlt
        have hat := List.getElem?_eq_getElem hlt'
        rcases applyBack_other outs b _ r _ (fun q hq e => h1 q hq e.symm) hat with ⟨h3, _⟩ | ⟨_, z, hz, hzo⟩
        · rw [hat, ← h3, contSt_at _ _ _ hlt]
        · rw [contSt_at _ _ _ hlt] at hz
          obtain ⟨t, y, e⟩ := hbx (r, i) (by simp)
          dsimp only at e
          rw [e] at hz; cases hz; cases hzo
      · exact applyBack_at outs b _ p h2 hp (by rw [contSt_length]; exact hlt) (fun q hq => hbx q (by simp [hq]))
end
end Go.Lift

