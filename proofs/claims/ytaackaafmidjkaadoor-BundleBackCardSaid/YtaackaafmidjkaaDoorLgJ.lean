import Derived.Test.YtaackaafmidjkaaDoorLgI
set_option linter.all false
namespace Go.Lift
noncomputable section
section
variable {P : Program} {E : Env} {c : Ctx} {st st' : List A} {fp fp' : FP} {a : Act} {w w' : World} {S : Hp} {ob : Nat -> List Nat} {o : Oper}

theorem zom : ∀ (p : List Step) (s : Step), z17m p s = p ++ [s]
  | [], _ => rfl
  | a :: p, s => by rw [z17m, zom p s]; rfl

theorem zaq : ∀ (t : T) (p : List Step) (q : List Step) (u : T), z13 t p = some u -> zw t (p ++ q) = zw t p + zw u q
  | .pair a b, .fld 0 :: p, q, u, h => by simpa [zw] using zaq a p q u (by simpa [z13] using h)
  | .pair a b, .fld (i + 1) :: p, q, u, h => by
    have := zaq b (.fld i :: p) q u (by simpa [z13] using h)
    simp only [List.cons_append] at this
    simp only [zw, List.cons_append, this]; omega
  | .pair a b, .idx i :: p, q, u, h => by simp [z13] at h
  | .arr n t, .idx i :: p, q, u, h => by
    have := zaq t p q u (by simpa [z13] using h)
    simp only [zw, List.cons_append, this]; omega
  | .arr n t, .fld i :: p, q, u, h => by simp [z13] at h
  | .pair a b, [], q, u, h => by simp [z13] at h; subst h; simp [zw]
  | .arr n t, [], q, u, h => by simp [z13] at h; subst h; simp [zw]
  | .int _, [], q, u, h => by simp [z13] at h; subst h; simp [zw]
  | .bool, [], q, u, h => by simp [z13] at h; subst h; simp [zw]
  | .str, [], q, u, h => by simp [z13] at h; subst h; simp [zw]
  | .opq, [], q, u, h => by simp [z13] at h; subst h; simp [zw]
  | .unit, [], q, u, h => by simp [z13] at h; subst h; simp [zw]
  | .sl _, [], q, u, h => by simp [z13] at h; subst h; simp [zw]
  | .mp _ _, [], q, u, h => by simp [z13] at h; subst h; simp [zw]
  | .mp _ _, s :: p, q, u, h => by simp [z13] at h
  | .nb _, [], q, u, h => by simp [z13] at h; subst h; simp [zw]
  | .nb _, s :: p, q, u, h => by simp [z13] at h
  | .ifc _ _, [], q, u, h => by simp [z13] at h; subst h; simp [zw]
  | .nod, [], q, u, h => by simp [z13] at h; subst h; simp [zw]
  | .ifc _ _, s :: p, q, u, h => by simp [z13] at h
  | .nod, s :: p, q, u, h => by simp [z13] at h
  | .ptr _, [], q, u, h => by simp [z13] at h; subst h; simp [zw]
  | .own _, [], q, u, h => by simp [z13] at h; subst h; simp [zw]
  | .any, [], q, u, h => by simp [z13] at h; subst h; simp [zw]
  | .byt _, [], q, u, h => by simp [z13] at h; subst h; simp [zw]
  | .self _, [], q, u, h => by simp [z13] at h; subst h; simp [zw]
  | .fn _ _, [], q, u, h => by simp [z13] at h; subst h; simp [zw]
  | .int _, s :: p, q, u, h => by simp [z13] at h
  | .bool, s :: p, q, u, h => by simp [z13] at h
  | .str, s :: p, q, u, h => by simp [z13] at h
  | .opq, s :: p, q, u, h => by simp [z13] at h
  | .unit, s :: p, q, u, h => by simp [z13] at h
  | .sl _, s :: p, q, u, h => by simp [z13] at h
  | .ptr _, s :: p, q, u, h => by simp [z13] at h
  | .own _, s :: p, q, u, h => by simp [z13] at h
  | .any, s :: p, q, u, h => by simp [z13] at h
  | .byt _, s :: p, q, u, h => by simp [z13] at h
  | .self _, s :: p, q, u, h => by simp [z13] at h
  | .fn _ _, s :: p, q, u, h => by simp [z13] at h

theorem zf1 {S : Hp} {b off : Nat} {c1 d0 d1 d2 : List Value} (h : Lies S b off c1) (e : c1 = d0 ++ (d1 ++ d2)) : Lies S b (off + d0.length) d1 := by
  obtain ⟨all, E, fr, c0, c2, h1, h2, h3⟩ := h
  exact ⟨all, E, fr, c0 ++ d0, d2 ++ c2, h1, by rw [h2, e]; simp, by simp [h3]⟩

theorem zqm {g : Field} {eg : TyI} (hg : TyOk P g.type eg) (hsz : eg.size ≠ 0) (b off : Nat) : (fieldPlace ⟨b, off, none⟩ g).run P w = .ok ⟨b, off + g.offset, none⟩ w := by
  simp [fieldPlace, zr hg, hsz, z7q]

theorem zqw {s : TypeId} {x : Operand} {f : Nat} (ho : o.op = .fieldAddr s x f) (h : zf E (z1o E o) st fp = some ((), st', fp')) (hb : Base P E c) (hs : SimD c st a w S ob) : Good P c o a w st' := by
  simp only [z1o, ho, zn6] at h
  obtain ⟨e, he, h0⟩ := z1s h
  clear h
  split at h0
  . exact (z4 h0).elim
  . rename_i hf
    obtain ⟨A, fp1, h1, hA, hAo, hAd, hr⟩ := zg h0 hs (hb.globS hs)
    clear h0
    obtain ⟨fs, g, eg, hd, hg, heg, hoff, hsz, hty⟩ := z3w hf
    have hrun : ∀ {b off : Nat}, a.eval x = .pointer (some ⟨b, off, none⟩) -> (execOp a.eval o).run P w = .ok (.value (.pointer (some ⟨b, off + g.offset, none⟩))) w := by
      intro b off ex
      simp [execOp, ho, Instr.fieldAt, run_underlying ((hb.tyOk he).und.trans (by rw [hd])), hg, ex, Instr.sureAddr, zqm (hb.tyOk heg) hsz]
    split at h1
    . rename_i t y
      split at h1
      . rename_i y' hy
        obtain ⟨b, off, c1, ex, hl, hrd⟩ := VR.ptr_inv hA.1
        have hrd' : Rd S e.t y' c1 := z13h hy hrd
        obtain ⟨hfoc, hin⟩ := zdu e.t y' f eg.t hty
        obtain ⟨d0, d1, d2, hc, hl0, hr0, _⟩ := z144 e.t y' [.fld f] _ hrd' hin
        refine z6 (hrun ex) (z7 h1 hb hs ?_)
        rw [<- hoff, <- hl0]
        exact VR.ptr_mk (zf1 hl hc) hr0
      . exact (z4 h1).elim
    . rename_i r
      obtain ⟨fp2, h2⟩ := zm h1
      clear h1
      split at h2
      . rename_i t y hy
        split at h2
        . rename_i ht
          obtain ⟨b, cs, E', fr, bs, hob, hv, hcs, hfr, hrd⟩ := hs.rel r _ (z8 hy (by simp))
          refine z6 (hrun (b := b) (off := 0) (by rw [hA.1, hv])) (zo h2 hb hs (o' := []) ⟨rfl, b, by rw [hv]; rfl, ?_⟩ (fun b e => by cases e))
          rw [znr _ ht hty, hoff, Nat.zero_add]
        . exact (z4 h2).elim
      . exact (z4 h2).elim
    . rename_i r t p
      split at h1
      . rename_i u hu
        split at h1
        . rename_i htu
          obtain ⟨_, b, hbl, ex⟩ := hA
          refine z6 (hrun ex) (zo h1 hb hs (o' := []) ⟨rfl, b, hbl, ?_⟩ (fun b e => by cases e))
          rw [zom, zaq t p _ _ hu, znr _ htu hty, hoff]
        . exact (z4 h1).elim
      . exact (z4 h1).elim
    . rename_i r n p u q
      split at h1
      . rename_i v hv
        split at h1
        . rename_i htv
          have htv := zgj htv
          obtain ⟨_, b, cs, E', fr, b', len, cap, h2, h3, h4, ex⟩ := hA
          refine z6 (hrun ex) (zo h1 hb hs (o' := []) ⟨rfl, b, cs, E', fr, b', len, cap, h2, h3, h4, ?_⟩ (fun b e => by cases e))
          rw [zom, zaq (.arr 0 u) q _ _ hv, htv, hoff]
        . exact (z4 h1).elim
      . exact (z4 h1).elim
    . exact (z4 h1).elim

theorem z68 {m n : Nat} (h : Nat.beq m n = true) : m = n := by simpa using h

theorem zqq {t : TypeId} {x ix : Operand} (ho : o.op = .indexAddr t x ix) (h : zf E (z1o E o) st fp = some ((), st', fp')) (hb : Base P E c) (hs : SimD c st a w S ob) : Good P c o a w st' := by
  simp only [z1o, ho, zn2] at h
  obtain ⟨e, he, h0⟩ := z1s h
  obtain ⟨I, fp0, h1, hI, hIo, hId, hrI⟩ := zg h0 hs (hb.globS hs)
  obtain ⟨k, n, h2, hi⟩ := znw h1 hI
  obtain ⟨A, fp1, h3, hA, hAo, hAd, hr⟩ := zg h2 hs (hb.globS hs)
  clear h h0 h1 h2
  have runS : ∀ {el : TypeId} {ee : TyI} {b off len cap : Nat}, P.underlying t = some (.slice el) -> E.ty el = some ee -> a.eval x = .slice (some ⟨b, off, none⟩) len cap -> inR n len = true →
      (execOp a.eval o).run P w = .ok (.value (.pointer (some ⟨b, off + n.toNat * ee.size, none⟩))) w := by
    intro el ee b off len cap hu hee ex hc
    obtain ⟨h5, h6, h7⟩ := zc2 hc
    simp [execOp, ho, Instr.indexAt, hi, asIntOf, run_underlying hu, ex, h5, h6, zr (hb.tyOk hee), z7q]
  have runA : ∀ {el : TypeId} {ee : TyI} {b off m : Nat}, P.underlying t = some (.array m el) -> E.ty el = some ee -> a.eval x = .pointer (some ⟨b, off, none⟩) -> inR n m = true →
      (execOp a.eval o).run P w = .ok (.value (.pointer (some ⟨b, off + n.toNat * ee.size, none⟩))) w := by
    intro el ee b off m hu hee ex hc
    obtain ⟨h5, h6, h7⟩ := zc2 hc
    simp [execOp, ho, Instr.indexAt, hi, asIntOf, run_underlying hu, ex, Instr.sureAddr, h5, h6, zr (hb.tyOk hee), z7q]
  split at h3
  . -- a slice of data
    rename_i x1 x2 a0 u xs hsl
    split at h3
    . rename_i hel
      obtain ⟨el, hd, hu⟩ := slT hb.env he hsl
      obtain ⟨ee, hee, het⟩ := zlb hd hel
      obtain ⟨hc, h4⟩ := za h3
      obtain ⟨h5, h6, h7⟩ := zc2 hc
      obtain ⟨ad, cap, ex, hcap, hm⟩ := VR.sl_inv hA.1
      rcases hm with hm | ⟨b, off, c1, had, hl, hall⟩
      . rw [hm] at h7; simp at h7
      . subst had
        obtain ⟨d0, d1, d2, hd1, hl0, hr1, _, _⟩ := All.at (Rd.length u) hall h7 u.dflt
        refine z6 (runS hu hee ex hc) (z7 h4 hb hs ?_)
        rw [<- (hb.tyOk hee).size, het, zhs, <- hl0]
        exact VR.ptr_mk (zf1 hl hd1) hr1.un
    . exact (z4 h3).elim
  . -- an z4b row
    rename_i x1 x2 a0 r hsl
    obtain ⟨fp2, h4⟩ := zm h3
    clear h3
    split at h4
    . rename_i u xs hy
      split at h4
      . rename_i hel
        obtain ⟨el, hd, hu⟩ := slT hb.env he hsl
        obtain ⟨ee, hee, het⟩ := zlb hd hel
        obtain ⟨hc, h5⟩ := za h4
        obtain ⟨h6, h7, h8⟩ := zc2 hc
        rcases hs.row_at hy with ⟨hx, _, _⟩ | ⟨b, cap, cs, E', fr, hob, hv, hcs, hfr, hsz, hle, hall⟩
        . rw [hx] at h8; simp at h8
        . refine z6 (runS (off := 0) hu hee (by rw [hA.1, hv]) hc) (zo h5 hb hs (o' := []) ⟨rfl, b, by rw [hv]; cases cap with
            | zero => exact absurd (Nat.lt_of_lt_of_le h8 hle) (by omega)
            | succ m => rfl, ?_⟩ (fun b e => by cases e))
          rw [<- (hb.tyOk hee).size, het, zhs]; simp [zw]
      . exact (z4 h4).elim
    . exact (z4 h4).elim
  . -- an array of data
    rename_i x1 x2 a0 m m' u xs hm
    split at h3
    . rename_i hck
      obtain ⟨hmm, hel⟩ := z5 hck
      obtain ⟨el, hd, hu⟩ := z18i hb.env he hm
      obtain ⟨ee, hee, het⟩ := zbb hd hel
      subst het
      have hmm := z68 hmm
      subst hmm
      obtain ⟨hc, h4⟩ := za h3
      obtain ⟨h5, h6, h7⟩ := zc2 hc
      obtain ⟨b, off, c1, ex, hl, hrd⟩ := VR.ptr_inv hA.1
      obtain ⟨hn, hall⟩ := hrd
      obtain ⟨d0, d1, d2, hd1, hl0, hr1, _, _⟩ := All.at (Rd.length ee.t) hall (by omega : n.toNat < xs.length) ee.t.dflt
      refine z6 (runA hu hee ex hc) (z7 h4 hb hs ?_)
      rw [<- (hb.tyOk hee).size, <- hl0]
      exact VR.ptr_mk (zf1 hl hd1) hr1
    . exact (z4 h3).elim
  . -- an z4b array
    rename_i x1 x2 a0 m r hm x3
    obtain ⟨fp2, h4⟩ := zm h3
    clear h3
    split at h4
    . rename_i m' u xs hy
      split at h4
      . rename_i hck
        obtain ⟨hmm, hel⟩ := z5 hck
        obtain ⟨el, hd, hu⟩ := z18i hb.env he hm
        obtain ⟨ee, hee, het⟩ := zbb hd hel
        subst het
        have hmm := z68 hmm
        subst hmm
        obtain ⟨hc, h5⟩ := za h4
        obtain ⟨b, cs, E', fr, bs, hob, hv, hcs, hfr, hrd⟩ := hs.rel r _ (z8 hy (by simp))
        refine z6 (runA (off := 0) hu hee (by rw [hA.1, hv]) hc) (zo h5 hb hs (o' := []) ⟨rfl, b, by rw [hv]; rfl, ?_⟩ (fun b e => by cases e))
        rw [<- (hb.tyOk hee).size]; simp [zw]
      . exact (z4 h4).elim
    . exact (z4 h4).elim
  . -- an array inside
    rename_i x1 x2 a0 m r u p hm
    split at h3
    . rename_i m' v hty
      split at h3
      . rename_i hck
        obtain ⟨hmm, hel⟩ := z5 hck
        obtain ⟨el, hd, hu⟩ := z18i hb.env he hm
        obtain ⟨ee, hee, het⟩ := zbb hd hel
        subst het
        have hmm := z68 hmm
        subst hmm
        obtain ⟨hc, h5⟩ := za h3
        obtain ⟨_, b, hbl, ex⟩ := hA
        refine z6 (runA hu hee ex hc) (zo h5 hb hs (o' := []) ⟨rfl, b, hbl, ?_⟩ (fun b e => by cases e))
        rw [zom, zaq _ p _ _ hty, <- (hb.tyOk hee).size]; simp [zw]
      . exact (z4 h3).elim
    . exact (z4 h3).elim
  . -- a row inside a box
    rename_i r n0 p hsl
    obtain ⟨t1, y1, u, xs, fp2, h4, hy, hin, hn, hf⟩ := z8h h3
    clear h3
    split at h4
    . rename_i hel
      obtain ⟨el, hd, hu⟩ := slT hb.env he hsl
      obtain ⟨ee, hee, het⟩ := zlb hd hel
      obtain ⟨hc, h5⟩ := za h4
      obtain ⟨b, cs, E', fr, b0, b1, b2, c0, c2, hob, hv, hcs, hfr, hcc, hl, hrow, _⟩ := hs.cel_row hA hy hin hn hf
      obtain ⟨_, _, h7⟩ := zc2 hc
      rcases hrow with ⟨e, _, _⟩ | ⟨b', cap, cs2, E2, fr2, e1, e2, _⟩
      . rw [e] at h7; simp at h7
      . have hcell : cs[n0]? = some (a.eval x) := by
          rw [<- Array.getElem?_toList, hcc, List.getElem?_append_right (by omega), hl, Nat.sub_self]; rfl
        refine z6 (runS hu hee e2 hc) (zo h5 hb hs (o' := []) ⟨rfl, b, cs, E', fr, b', xs.length, cap, by rw [hv]; rfl, hcs, by rw [hcell, e2], ?_⟩ (fun b e => by cases e))
        rw [<- (hb.tyOk hee).size, het, zhs]; simp [zw, zp2]
    . exact (z4 h4).elim
  . -- an array inside an element
    rename_i m r n0 p u q hm
    split at h3
    . rename_i m' v hty
      split at h3
      . rename_i hck
        obtain ⟨hmm, hel⟩ := z5 hck
        obtain ⟨el, hd, hu⟩ := z18i hb.env he hm
        obtain ⟨ee, hee, het⟩ := zbb hd hel
        subst het
        have hmm := z68 hmm
        subst hmm
        obtain ⟨hc, h5⟩ := za h3
        obtain ⟨_, b, cs, E', fr, b', len, cap, e2, e3, e4, ex⟩ := hA
        refine z6 (runA hu hee ex hc) (zo h5 hb hs (o' := []) ⟨rfl, b, cs, E', fr, b', len, cap, e2, e3, e4, ?_⟩ (fun b e => by cases e))
        rw [zom, zaq _ q _ _ hty, <- (hb.tyOk hee).size]; simp [zw]
      . exact (z4 h3).elim
    . exact (z4 h3).elim
  . exact (z4 h3).elim
end
end
end Go.Lift

