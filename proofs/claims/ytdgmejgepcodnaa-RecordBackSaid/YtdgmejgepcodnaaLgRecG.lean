/- Layer 39: what is read back. -/
import Derived.Test.YtdgmejgepcodnaaLgRecF
set_option linter.all false
set_option maxRecDepth 100000
namespace Go.Proofs.YtdgmejgepcodnaaLg
open Go Go.Lift Go.Proofs.YtdgmejgepcodnaaPx

def b1 (s : List UInt8) : Int × List UInt8 × Int := byteR s
def t1 (s : List UInt8) : List UInt8 × List UInt8 × Int := textS (b1 s).2.1 (b1 s).2.2 32
def m1 (s : List UInt8) : Int × List UInt8 × Int := numS (t1 s).2.1 (t1 s).2.2 1099511627776
def m2 (s : List UInt8) : Int × List UInt8 × Int := numS (m1 s).2.1 (m1 s).2.2 1099511627776
def t2 (s : List UInt8) : List UInt8 × List UInt8 × Int := textS (m2 s).2.1 (m2 s).2.2 32
def eE (s : List UInt8) : Int := endR (t2 s).2.1 (t2 s).2.2
def evE (s : List UInt8) : EvD := ((b1 s).1, (t1 s).1, Go.IntKind.wrap .i64 (m2 s).1, Go.IntKind.wrap .i64 (m1 s).1, (t2 s).1, ())
def zeroE : EvD := (0, [], 0, 0, [], ())

def getE (s : List UInt8) : EvD × Int × Unit :=
  if eE s = 0 then (if formL (evE s) = true then (evE s, 0, ()) else (zeroE, 2, ())) else (zeroE, eE s, ())

theorem byte_le (s : List UInt8) : 0 ≤ (byteR s).1 ∧ (byteR s).1 ≤ 255 := by
  cases s with
  | nil => exact ⟨by decide, by decide⟩
  | cons a l =>
    have := a.toNat_lt
    simp only [byteR]
    omega

theorem invs {s : List UInt8} (hs : s.length ≤ 1000000) : Inv8 (b1 s).2.1 (b1 s).2.2 ∧ Inv8 (t1 s).2.1 (t1 s).2.2 ∧ Inv8 (m1 s).2.1 (m1 s).2.2 ∧ Inv8 (m2 s).2.1 (m2 s).2.2 ∧ Inv8 (t2 s).2.1 (t2 s).2.2 := by
  have i1 : Inv8 (b1 s).2.1 (b1 s).2.2 := byteR_inv hs
  have i2 : Inv8 (t1 s).2.1 (t1 s).2.2 := text_inv i1
  have i3 : Inv8 (m1 s).2.1 (m1 s).2.2 := num_inv i2
  have i4 : Inv8 (m2 s).2.1 (m2 s).2.2 := num_inv i3
  exact ⟨i1, i2, i3, i4, text_inv i4⟩

theorem got_eq (N : Nat) (hN : 60 < N) {s : List UInt8} (hs : s.length ≤ 1000000) : record_Get N s = some (getE s) := by
  obtain ⟨i1, i2, i3, i4, i5⟩ := invs hs
  have h1 : field_Reader_Text N (rdr (b1 s).2.1 (b1 s).2.2) 32 = some ((t1 s).1, (rdr (t1 s).2.1 (t1 s).2.2, ())) := text_eq N (by omega) i1 (by decide)
  have h2 : field_Reader_Num N (rdr (t1 s).2.1 (t1 s).2.2) 1099511627776 = some ((m1 s).1, (rdr (m1 s).2.1 (m1 s).2.2, ())) := num_eq N (by omega) i2 _
  have h3 : field_Reader_Num N (rdr (m1 s).2.1 (m1 s).2.2) 1099511627776 = some ((m2 s).1, (rdr (m2 s).2.1 (m2 s).2.2, ())) := num_eq N (by omega) i3 _
  have h4 : field_Reader_Text N (rdr (m2 s).2.1 (m2 s).2.2) 32 = some ((t2 s).1, (rdr (t2 s).2.1 (t2 s).2.2, ())) := text_eq N (by omega) i4 (by decide)
  have h5 : field_Reader_End N (rdr (t2 s).2.1 (t2 s).2.2) = some (eE s, (rdr [] (eE s), ())) := end_eq N i5
  have h0 : field_Reader_Byte N (rdr s 0) = some ((b1 s).1, (rdr (b1 s).2.1 (b1 s).2.2, ())) := byte_eq N hs
  rw [record_Get, show ((true, (s, ((0 : Int), ()))) : RdrT.den) = rdr s 0 from rfl, h0]
  simp only [Option.bind_some]
  rw [h1]
  simp only [Option.bind_some]
  rw [h2]
  simp only [Option.bind_some]
  rw [h3]
  simp only [Option.bind_some]
  rw [h4]
  simp only [Option.bind_some]
  rw [h5]
  simp only [Option.bind_some, w64]
  rw [cond_t (decide_eq_true (show 0 ≤ (b1 s).1 ∧ (b1 s).1 ≤ 255 from byte_le s))]
  unfold getE
  by_cases he : eE s = 0
  · rw [cond_t (decide_eq_true he), if_pos he, form_eq N (by omega), Option.bind_some]
    change cond (formL (evE s)) _ _ = _
    cases hf : formL (evE s) with
    | true => rw [cond_true, if_pos rfl]; rfl
    | false => rw [cond_false, if_neg (by simp)]; rfl
  · rw [cond_f (decide_eq_false he), if_neg he]; rfl

theorem wrap_byte' (s : List UInt8) : Go.IntKind.wrap .i64 (b1 s).1 = (b1 s).1 := by
  have := byte_le s
  exact wrap_in ⟨by have := this.1; unfold b1; omega, by have := this.2; unfold b1; omega⟩

theorem rgot_eq (N : Nat) (hN : 60 < N) {s : List UInt8} (hs : s.length ≤ 1000000) : porterref39_Get N s = some (getE s) := by
  obtain ⟨i1, i2, i3, i4, i5⟩ := invs hs
  have h1 : porterref08_R_Text N (rf (b1 s).2.1 (b1 s).2.2) 32 = some ((t1 s).1, (rf (t1 s).2.1 (t1 s).2.2, ())) := rtext_eq N (by omega) i1 (by decide)
  have h2 : porterref08_R_Num N (rf (t1 s).2.1 (t1 s).2.2) 1099511627776 = some ((m1 s).1, (rf (m1 s).2.1 (m1 s).2.2, ())) := rnum_eq N (by omega) i2 _
  have h3 : porterref08_R_Num N (rf (m1 s).2.1 (m1 s).2.2) 1099511627776 = some ((m2 s).1, (rf (m2 s).2.1 (m2 s).2.2, ())) := rnum_eq N (by omega) i3 _
  have h4 : porterref08_R_Text N (rf (m2 s).2.1 (m2 s).2.2) 32 = some ((t2 s).1, (rf (t2 s).2.1 (t2 s).2.2, ())) := rtext_eq N (by omega) i4 (by decide)
  have h5 : porterref08_R_End N (rf (t2 s).2.1 (t2 s).2.2) = some (rf [] (eE s)) := rend_eq N i5
  have h0 : porterref08_R_Byte N (rf s 0) = some ((b1 s).1, (rf (b1 s).2.1 (b1 s).2.2, ())) := rbyte_eq N s
  rw [porterref39_Get, show ((s, ((0 : Int), ())) : RefT) = rf s 0 from rfl, h0]
  simp only [Option.bind_some]
  rw [h1]
  simp only [Option.bind_some]
  rw [h2]
  simp only [Option.bind_some]
  rw [h3]
  simp only [Option.bind_some]
  rw [h4]
  simp only [Option.bind_some]
  rw [h5]
  simp only [Option.bind_some, wrap_byte']
  rw [show (rf [] (eE s)).2.1 = eE s from rfl]
  unfold getE
  by_cases he : eE s = 0
  · rw [he, bne_self_eq_false, cond_false, if_pos rfl, rform_eq N (by omega), Option.bind_some]
    change cond (!formL (evE s)) _ _ = _
    cases hf : formL (evE s) with
    | true => rw [Bool.not_true, cond_false, if_pos rfl]; rfl
    | false => rw [Bool.not_false, cond_true, if_neg (by simp)]; rfl
  · rw [bne_iff_ne.2 he, cond_true, if_neg he]; rfl

/-! what is put is got, and what is got was put -/
theorem text_backM {s s' t : List UInt8} {e : Int} {m : Nat} (h : textS s e (m : Int) = (t, s', 0)) : e = 0 ∧ t.length ≤ m ∧ s = putL t.length ++ t ++ s' := by
  unfold textS textT at h
  rw [if_neg (show ¬ ((m : Nat) : Int) < 0 by omega)] at h
  obtain ⟨v, s1, f, hy⟩ : ∃ v s1 f, numS s e (m : Int) = (v, s1, f) := ⟨_, _, _, rfl⟩
  rw [hy] at h
  simp only at h
  by_cases hf : f = 0
  · subst hf
    rw [if_neg (by simp)] at h
    obtain ⟨he, n, rfl, _, hm, rfl⟩ := num_back hy
    by_cases hl : (s1.length : Int) < (n : Int)
    · rw [if_pos hl] at h
      cases h
    · rw [if_neg hl, Int.toNat_natCast] at h
      cases h
      have hn : (s1.take n).length = n := by rw [List.length_take]; omega
      exact ⟨he, by omega, by rw [hn, List.append_assoc, List.take_append_drop]⟩
  · rw [if_pos hf] at h
    cases h
    exact absurd rfl hf

theorem text_fwdM {t s' : List UInt8} {m : Nat} (hm : m < 1000000) (ht : t.length ≤ m) : textS (putL t.length ++ t ++ s') 0 (m : Int) = (t, s', 0) := by
  unfold textS textT
  rw [if_neg (show ¬ ((m : Nat) : Int) < 0 by omega), List.append_assoc, num_fwd (by omega) (by omega)]
  simp only
  rw [if_neg (by simp), if_neg (by simp only [List.length_append]; omega), Int.toNat_natCast, List.take_left, List.drop_left]

theorem text_fwd' {t s' : List UInt8} (ht : t.length ≤ 32) : textS (putL t.length ++ (t ++ s')) 0 32 = (t, s', 0) := by
  rw [← List.append_assoc]; exact text_fwd ht

theorem get_put {v : EvD} (h : formL v = true) : getE (encE v) = (v, 0, ()) := by
  have hF := form_of h
  obtain ⟨k, t, n, e, z, u⟩ := v
  cases u
  obtain ⟨hk, ht, hn, he, hz⟩ := hF
  simp only at hk ht hn he hz
  have hb : b1 (encE (k, t, n, e, z, ())) = (k, putL t.length ++ (t ++ (putL e.toNat ++ (putL n.toNat ++ (putL z.length ++ z)))), 0) := by
    unfold b1 encE
    simp only [List.append_assoc, List.cons_append, List.nil_append, byteR]
    have : (UInt8.ofNat k.toNat).toNat = k.toNat := by rw [UInt8.toNat_ofNat']; omega
    rw [this, show ((k.toNat : Nat) : Int) = k by omega]
  have h1 : t1 (encE (k, t, n, e, z, ())) = (t, putL e.toNat ++ (putL n.toNat ++ (putL z.length ++ z)), 0) := by
    unfold t1
    rw [hb]
    exact text_fwd' ht
  have h2 : m1 (encE (k, t, n, e, z, ())) = (e, putL n.toNat ++ (putL z.length ++ z), 0) := by
    unfold m1
    rw [h1]
    have := num_fwd (n := e.toNat) (s' := putL n.toNat ++ (putL z.length ++ z)) (most := 1099511627776) (by omega) (by omega)
    rw [show ((e.toNat : Nat) : Int) = e by omega] at this
    exact this
  have h3 : m2 (encE (k, t, n, e, z, ())) = (n, putL z.length ++ z, 0) := by
    unfold m2
    rw [h2]
    have := num_fwd (n := n.toNat) (s' := putL z.length ++ z) (most := 1099511627776) (by omega) (by omega)
    rw [show ((n.toNat : Nat) : Int) = n by omega] at this
    exact this
  have h4 : t2 (encE (k, t, n, e, z, ())) = (z, [], 0) := by
    unfold t2
    rw [h3]
    have := text_fwd (t := z) (s' := []) hz
    rw [List.append_nil] at this
    exact this
  have h5 : eE (encE (k, t, n, e, z, ())) = 0 := by
    unfold eE
    rw [h4]; rfl
  have h6 : evE (encE (k, t, n, e, z, ())) = (k, t, n, e, z, ()) := by
    unfold evE
    rw [hb, h1, h2, h3, h4]
    simp only
    rw [wrap_in (x := n) ⟨by omega, by omega⟩, wrap_in (x := e) ⟨by omega, by omega⟩]
  unfold getE
  rw [h5, if_pos rfl, h6, if_pos h]

theorem put_get {s : List UInt8} {v : EvD} (h : getE s = (v, 0, ())) : formL v = true ∧ s = encE v := by
  unfold getE at h
  by_cases he : eE s = 0
  · rw [if_pos he] at h
    by_cases hf : formL (evE s) = true
    · rw [if_pos hf] at h
      cases h
      refine ⟨hf, ?_⟩
      have hF := form_of hf
      have h5 : (t2 s).2.1 = [] ∧ (t2 s).2.2 = 0 := by
        unfold eE endR at he
        by_cases hn : (t2 s).2.1 = []
        · rw [if_pos hn] at he; exact ⟨hn, he⟩
        · rw [if_neg hn] at he; cases he
      have q4 : textS (m2 s).2.1 (m2 s).2.2 32 = ((t2 s).1, [], 0) := by rw [← h5.1, ← h5.2]; rfl
      obtain ⟨z2, l2, e4⟩ := text_back q4
      have q3 : numS (m1 s).2.1 (m1 s).2.2 1099511627776 = ((m2 s).1, (m2 s).2.1, 0) := by rw [← z2]; rfl
      obtain ⟨z1, n2, hn2, _, hm2, e3⟩ := num_back q3
      have q2 : numS (t1 s).2.1 (t1 s).2.2 1099511627776 = ((m1 s).1, (m1 s).2.1, 0) := by rw [← z1]; rfl
      obtain ⟨z0, n1, hn1, _, hm1, e2⟩ := num_back q2
      have q1 : textS (b1 s).2.1 (b1 s).2.2 32 = ((t1 s).1, (t1 s).2.1, 0) := by rw [← z0]; rfl
      obtain ⟨zb, l1, e1⟩ := text_back q1
      have w1 : Go.IntKind.wrap .i64 (m1 s).1 = (m1 s).1 := wrap_in ⟨by omega, by omega⟩
      have w2 : Go.IntKind.wrap .i64 (m2 s).1 = (m2 s).1 := wrap_in ⟨by omega, by omega⟩
      cases s with
      | nil =>
        have := hF.k.1
        exact absurd this (by show ¬ (1 : Int) ≤ 0; decide)
      | cons a l =>
        have hl : l = putL (t1 (a :: l)).1.length ++ (t1 (a :: l)).1 ++ (t1 (a :: l)).2.1 := e1
        rw [e2, e3, e4, List.append_nil] at hl
        unfold encE evE
        simp only
        rw [w1, w2, hn1, hn2, Int.toNat_natCast, Int.toNat_natCast]
        have hb : (b1 (a :: l)).1 = ((a.toNat : Nat) : Int) := rfl
        rw [hb, Int.toNat_natCast, UInt8.ofNat_toNat]
        simp only [List.append_assoc, List.cons_append, List.nil_append] at hl ⊢
        rw [← hl]
    · rw [if_neg hf] at h
      cases h
  · rw [if_neg he] at h
    have : eE s = 0 := (Prod.mk.inj (Prod.mk.inj h).2).1
    exact absurd this he

end Go.Proofs.YtdgmejgepcodnaaLg
