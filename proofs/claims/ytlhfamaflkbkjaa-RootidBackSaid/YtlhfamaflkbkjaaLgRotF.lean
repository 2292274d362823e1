/- Layer 29: what Put and Get give, beside the document's. -/
import Derived.Test.YtlhfamaflkbkjaaLgFldG
import Derived.Test.YtlhfamaflkbkjaaLgWrdF
set_option linter.all false
set_option maxRecDepth 100000
namespace Go.Proofs.YtlhfamaflkbkjaaLg
open Go Go.Lift Go.Proofs.YtlhfamaflkbkjaaPx

def badN (n : Int) : Bool := decide (n < 0) || decide (1099511627776 < n)

theorem good_nat {n : Int} (h : badN n = false) : ∃ k : Nat, n = (k : Int) ∧ k ≤ 1099511627776 := by
  have := Bool.or_eq_false_iff.1 h
  have h1 := of_decide_eq_false this.1
  have h2 := of_decide_eq_false this.2
  exact ⟨n.toNat, by omega, by omega⟩

theorem nat_good {k : Nat} (h : k ≤ 1099511627776) : badN (k : Int) = false := by
  unfold badN
  rw [decide_eq_false (by omega), decide_eq_false (by omega)]
  rfl

def putR (r : RootT.den) : List UInt8 × Int × Unit :=
  cond (wordL r.1) (cond (badN r.2.1 || (badN r.2.2.1 || badN r.2.2.2.1)) ([], 3, ())
    ([1] ++ (putL r.1.length ++ r.1) ++ (putL r.2.1.toNat ++ putL r.2.2.1.toNat ++ putL r.2.2.2.1.toNat), 0, ())) ([], 4, ())

theorem word_len {t : List UInt8} (h : wordL t = true) : t.length ≤ 32 := by
  unfold wordL at h
  have := of_decide_eq_true (Bool.and_eq_true _ _ ▸ h).1
  exact this.2

theorem nums_bad (N : Nat) (n : Int) (l : List Int) (o : List UInt8) (h : badN n = true) : rootid_nums N (n :: l) o = some ([], false) := by
  unfold badN at h
  rw [rootid_nums, h]
  rfl

theorem nums_good (N : Nat) (hN : 20 < N) {k : Nat} (hk : k ≤ 1099511627776) (l : List Int) {o : List UInt8} (ho : o.length ≤ 100) : rootid_nums N ((k : Int) :: l) o = rootid_nums N l (o ++ putL k) := by
  have h := nat_good hk
  have hl := putL_len k
  unfold badN at h
  rw [rootid_nums, h, cond_false, fnum_eq N hN (by omega)]
  simp only [Option.bind_some]
  rw [cond_t (decide_eq_true (by omega))]

theorem put_eq' (N : Nat) (hN : 60 < N) (r : RootT.den) : rootid_Put N r = some (putR r) := by
  obtain ⟨t, k, e, n, u⟩ := r
  cases u
  rw [rootid_Put, word_eq N (by omega)]
  simp only [Option.bind_some]
  unfold putR
  simp only
  cases hw : wordL t with
  | false => rfl
  | true =>
    have ht := word_len hw
    rw [Bool.not_true, cond_false, cond_true]
    cases hk : badN k with
    | true => rw [nums_bad N k _ _ hk]; rfl
    | false =>
      obtain ⟨k, rfl, hk'⟩ := good_nat hk
      have lk := putL_len k
      rw [nums_good N (by omega) hk' _ (by simp), List.nil_append]
      cases he : badN e with
      | true => rw [nums_bad N e _ _ he]; rfl
      | false =>
        obtain ⟨e, rfl, he'⟩ := good_nat he
        have le := putL_len e
        rw [nums_good N (by omega) he' _ (by omega)]
        cases hn : badN n with
        | true => rw [nums_bad N n _ _ hn]; rfl
        | false =>
          obtain ⟨n, rfl, hn'⟩ := good_nat hn
          have ln := putL_len n
          have lt := putL_len t.length
          rw [nums_good N (by omega) hn' _ (by rw [List.length_append]; omega), rootid_nums]
          simp only [Option.bind_some, Bool.not_true, cond_false, Bool.or_false, Int.toNat_natCast]
          rw [ftext_eq N (by omega) (by omega)]
          simp only [Option.bind_some]
          rw [cond_t (decide_eq_true ⟨by simp only [List.length_append]; omega, by simp only [List.length_append]; omega⟩)]

theorem rbad_eq (N : Nat) (n : Int) : porterref29_bad N n = some (badN n) := by
  rw [porterref29_bad]
  unfold badN
  by_cases h : n < 0
  · rw [cond_t (decide_eq_true h), decide_eq_true h]; rfl
  · rw [cond_f (decide_eq_false h), decide_eq_false h]; rfl

theorem one_byte : toStr ([(Go.IntKind.wrap Go.IntKind.u8 (1 : Int))] : List Int) = [1] := rfl

theorem rput_eq (N : Nat) (hN : 60 < N) (r : RootT.den) : porterref29_Put N r = some (putR r) := by
  obtain ⟨t, k, e, n, u⟩ := r
  cases u
  rw [porterref29_Put, refWord_eq N (by omega), one_byte]
  simp only [Option.bind_some]
  unfold putR
  simp only
  cases hw : wordL t with
  | false => rfl
  | true =>
    have ht := word_len hw
    rw [Bool.not_true, cond_false, cond_true, porterref29_Put_p1, porterref29_Put_p2, rbad_eq, rbad_eq, rbad_eq]
    simp only [Option.bind_some]
    cases hk : badN k with
    | true => rfl
    | false =>
      cases he : badN e with
      | true => rfl
      | false =>
        cases hn : badN n with
        | true => rfl
        | false =>
          obtain ⟨k, rfl, hk'⟩ := good_nat hk
          obtain ⟨e, rfl, he'⟩ := good_nat he
          obtain ⟨n, rfl, hn'⟩ := good_nat hn
          have lk := putL_len k
          have le := putL_len e
          have ln := putL_len n
          have lt := putL_len t.length
          have wn : ∀ m : Nat, m ≤ 1099511627776 → Go.IntKind.wrap .u64 (m : Int) = (m : Int) := fun m hm => wrap_u64_nat (by omega)
          simp only [cond_false, Bool.or_false, Int.toNat_natCast]
          rw [rtextp_eq N (by omega) (by omega), wn k hk', wn e he', wn n hn', refPutL N (by omega) (n := k) (by omega), refPutL N (by omega) (n := e) (by omega), refPutL N (by omega) (n := n) (by omega)]
          simp only [Option.bind_some]
          rw [cond_t (decide_eq_true (by simp only [List.length_append, List.length_cons, List.length_nil]; omega)), cond_t (decide_eq_true (by simp only [List.length_append, List.length_cons, List.length_nil]; omega)),
            cond_t (decide_eq_true (by simp only [List.length_append, List.length_cons, List.length_nil]; omega)), cond_t (decide_eq_true (by simp only [List.length_append, List.length_cons, List.length_nil]; omega))]
          simp only [List.append_assoc]

/-! Get -/
def failR (s : List UInt8) (e f : Int) : List UInt8 × Int := if e ≠ 0 then (s, e) else ([], f)

theorem fail_eq (N : Nat) (s : List UInt8) (e : Int) {f : Int} (hf : f ≠ 0) : field_Reader_Fail N (rdr s e) f = some ((), (rdr (failR s e f).1 (failR s e f).2, ())) := by
  unfold failR
  by_cases he : e = 0
  · subst he
    rw [if_neg (by simp)]; exact fail_on N s hf
  · rw [if_pos he]; exact fail_off N s he f
theorem rfail_eq (N : Nat) (s : List UInt8) (e : Int) {f : Int} (hf : f ≠ 0) : porterref08_R_Fail N (rf s e) f = some (rf (failR s e f).1 (failR s e f).2) := by
  unfold failR
  by_cases he : e = 0
  · subst he
    rw [if_neg (by simp)]; exact rfail_on N s hf
  · rw [if_pos he]; exact rfail_off N s he f
theorem fail_inv {s : List UInt8} {e : Int} (h : Inv8 s e) (f : Int) : Inv8 (failR s e f).1 (failR s e f).2 := by
  unfold failR
  by_cases he : e = 0
  · subst he
    rw [if_neg (by simp)]; exact inv_bad f
  · rw [if_pos he]; exact h

def byteR (s : List UInt8) : Int × List UInt8 × Int := match s with
  | [] => (0, [], 1)
  | a :: l => ((a.toNat : Int), l, 0)

theorem byte_eq (N : Nat) {s : List UInt8} (hs : s.length ≤ 1000000) : field_Reader_Byte N (rdr s 0) = some ((byteR s).1, (rdr (byteR s).2.1 (byteR s).2.2, ())) := by
  cases s with
  | nil => rfl
  | cons a l => exact byte_one N a l hs
theorem rbyte_eq (N : Nat) (s : List UInt8) : porterref08_R_Byte N (rf s 0) = some ((byteR s).1, (rf (byteR s).2.1 (byteR s).2.2, ())) := by
  cases s with
  | nil =>
    rw [porterref08_R_Byte, show (rf [] 0).2.1 = 0 from rfl, bne_self_eq_false, cond_false, show (rf [] 0).1 = [] from rfl, cond_t (beq_self_eq_true _), rfail_on N [] (by decide)]
    rfl
  | cons a l =>
    rw [porterref08_R_Byte, show (rf (a :: l) 0).2.1 = 0 from rfl, bne_self_eq_false, cond_false, show (rf (a :: l) 0).1 = a :: l from rfl, cond_f (by rfl),
      cond_t (inR_of (by omega) (by simp only [List.length_cons]; omega)), cond_t (decide_eq_true ⟨by omega, by simp only [List.length_cons]; omega⟩)]
    have ec : cut (a :: l) 1 (List.length (a :: l)) = l := by simp [cut]
    rw [ec]
    rfl
theorem byteR_inv {s : List UInt8} (hs : s.length ≤ 1000000) : Inv8 (byteR s).2.1 (byteR s).2.2 := by
  cases s with
  | nil => exact inv_bad 1
  | cons a l => exact ⟨by simp only [List.length_cons] at hs; simp only [byteR]; omega, fun h => absurd rfl h⟩

def endR (s : List UInt8) (e : Int) : Int := if s = [] then e else 2

theorem end_eq (N : Nat) {s : List UInt8} {e : Int} (h : Inv8 s e) : field_Reader_End N (rdr s e) = some (endR s e, (rdr [] (endR s e), ())) := by
  cases s with
  | nil =>
    rw [field_Reader_End, field_Reader_End_p1, show (rdr [] e).2.1 = [] from rfl, cond_f (by rfl), err_t]
    rfl
  | cons a l =>
    have he : e = 0 := Decidable.byContradiction fun he => by cases h.2 he
    subst he
    rw [field_Reader_End, field_Reader_End_p1, show (rdr (a :: l) 0).2.1 = a :: l from rfl, cond_t (decide_eq_true (by simp only [List.length_cons]; omega)), fail_on N _ (by decide)]
    rfl
theorem rend_eq (N : Nat) {s : List UInt8} {e : Int} (h : Inv8 s e) : porterref08_R_End N (rf s e) = some (rf [] (endR s e)) := by
  cases s with
  | nil =>
    rw [porterref08_R_End, show (rf [] e).1 = [] from rfl]
    rfl
  | cons a l =>
    have he : e = 0 := Decidable.byContradiction fun he => by cases h.2 he
    subst he
    rw [porterref08_R_End, show (rf (a :: l) 0).1 = a :: l from rfl, cond_t (by rfl), rfail_on N _ (by decide)]
    rfl

def g1R (s : List UInt8) : List UInt8 × Int := if (byteR s).1 = 1 then (byteR s).2 else failR (byteR s).2.1 (byteR s).2.2 2
def g2R (s : List UInt8) : List UInt8 × List UInt8 × Int := textS (g1R s).1 (g1R s).2 32
def g3R (s : List UInt8) : List UInt8 × Int := cond (wordL (g2R s).1) (g2R s).2 (failR (g2R s).2.1 (g2R s).2.2 4)
def n1R (s : List UInt8) : Int × List UInt8 × Int := numS (g3R s).1 (g3R s).2 1099511627776
def n2R (s : List UInt8) : Int × List UInt8 × Int := numS (n1R s).2.1 (n1R s).2.2 1099511627776
def n3R (s : List UInt8) : Int × List UInt8 × Int := numS (n2R s).2.1 (n2R s).2.2 1099511627776
def eR (s : List UInt8) : Int := endR (n3R s).2.1 (n3R s).2.2

def getR (s : List UInt8) : RootT.den × Int × Unit :=
  (if eR s = 0 then ((g2R s).1, Go.IntKind.wrap .i64 (n1R s).1, Go.IntKind.wrap .i64 (n2R s).1, Go.IntKind.wrap .i64 (n3R s).1, ()) else ([], 0, 0, 0, ()), eR s, ())

theorem g1_inv {s : List UInt8} (hs : s.length ≤ 1000000) : Inv8 (g1R s).1 (g1R s).2 := by
  unfold g1R
  split
  · exact byteR_inv hs
  · exact fail_inv (byteR_inv hs) 2
theorem g3_inv {s : List UInt8} (hs : s.length ≤ 1000000) : Inv8 (g3R s).1 (g3R s).2 := by
  have h := text_inv (most := 32) (g1_inv hs)
  unfold g3R g2R
  cases wordL (textS (g1R s).1 (g1R s).2 32).1
  · exact fail_inv h 4
  · exact h

theorem w64 (x : Int) : Go.RowKit.wrap64 x = Go.IntKind.wrap .i64 x := by
  unfold Go.RowKit.wrap64
  rw [Go.Proofs.YtlhfamaflkbkjaaPx.wrap64]

theorem got_eq (N : Nat) (hN : 60 < N) {s : List UInt8} (hs : s.length ≤ 1000000) : rootid_Get N s = some (getR s) := by
  have e1 : (cond (decide ((byteR s).1 = 1)) (some (rdr (byteR s).2.1 (byteR s).2.2)) ((field_Reader_Fail N (rdr (byteR s).2.1 (byteR s).2.2) 2).bind fun z => some z.2.1)) = some (rdr (g1R s).1 (g1R s).2) := by
    unfold g1R
    by_cases h : (byteR s).1 = 1
    · rw [cond_t (decide_eq_true h), if_pos h]
    · rw [cond_f (decide_eq_false h), if_neg h, fail_eq N _ _ (by decide)]; rfl
  have e3 : (cond (wordL (g2R s).1) (some (rdr (g2R s).2.1 (g2R s).2.2)) ((field_Reader_Fail N (rdr (g2R s).2.1 (g2R s).2.2) 4).bind fun z => some z.2.1)) = some (rdr (g3R s).1 (g3R s).2) := by
    unfold g3R
    cases wordL (g2R s).1
    · rw [cond_false, cond_false, fail_eq N _ _ (by decide)]; rfl
    · rfl
  have i1 := g1_inv hs
  have i3 := g3_inv hs
  have j1 := num_inv (most := 1099511627776) i3
  have j2 := num_inv (most := 1099511627776) j1
  have j3 := num_inv (most := 1099511627776) j2
  have t2 : field_Reader_Text N (rdr (g1R s).1 (g1R s).2) 32 = some ((g2R s).1, (rdr (g2R s).2.1 (g2R s).2.2, ())) := text_eq N (by omega) i1 (by decide)
  have m1 : field_Reader_Num N (rdr (g3R s).1 (g3R s).2) 1099511627776 = some ((n1R s).1, (rdr (n1R s).2.1 (n1R s).2.2, ())) := num_eq N (by omega) i3 _
  have m2 : field_Reader_Num N (rdr (n1R s).2.1 (n1R s).2.2) 1099511627776 = some ((n2R s).1, (rdr (n2R s).2.1 (n2R s).2.2, ())) := num_eq N (by omega) j1 _
  have m3 : field_Reader_Num N (rdr (n2R s).2.1 (n2R s).2.2) 1099511627776 = some ((n3R s).1, (rdr (n3R s).2.1 (n3R s).2.2, ())) := num_eq N (by omega) j2 _
  have m4 : field_Reader_End N (rdr (n3R s).2.1 (n3R s).2.2) = some (eR s, (rdr [] (eR s), ())) := end_eq N j3
  rw [rootid_Get, show ((true, (s, ((0 : Int), ()))) : RdrT.den) = rdr s 0 from rfl, byte_eq N hs]
  simp only [Option.bind_some]
  rw [e1]
  simp only [Option.bind_some]
  rw [t2]
  simp only [Option.bind_some]
  rw [word_eq N (by omega)]
  simp only [Option.bind_some]
  rw [e3]
  simp only [Option.bind_some]
  rw [m1]
  simp only [Option.bind_some]
  rw [m2]
  simp only [Option.bind_some]
  rw [m3]
  simp only [Option.bind_some]
  rw [m4]
  simp only [Option.bind_some, w64]
  rfl

theorem rgot_eq (N : Nat) (hN : 60 < N) {s : List UInt8} (hs : s.length ≤ 1000000) : porterref29_Get N s = some (getR s) := by
  have i1 := g1_inv hs
  have i3 := g3_inv hs
  have j1 := num_inv (most := 1099511627776) i3
  have j2 := num_inv (most := 1099511627776) j1
  have j3 := num_inv (most := 1099511627776) j2
  have t2 : porterref08_R_Text N (rf (g1R s).1 (g1R s).2) 32 = some ((g2R s).1, (rf (g2R s).2.1 (g2R s).2.2, ())) := rtext_eq N (by omega) i1 (by decide)
  have m1 : porterref08_R_Num N (rf (g3R s).1 (g3R s).2) 1099511627776 = some ((n1R s).1, (rf (n1R s).2.1 (n1R s).2.2, ())) := rnum_eq N (by omega) i3 _
  have m2 : porterref08_R_Num N (rf (n1R s).2.1 (n1R s).2.2) 1099511627776 = some ((n2R s).1, (rf (n2R s).2.1 (n2R s).2.2, ())) := rnum_eq N (by omega) j1 _
  have m3 : porterref08_R_Num N (rf (n2R s).2.1 (n2R s).2.2) 1099511627776 = some ((n3R s).1, (rf (n3R s).2.1 (n3R s).2.2, ())) := rnum_eq N (by omega) j2 _
  have m4 : porterref08_R_End N (rf (n3R s).2.1 (n3R s).2.2) = some (rf [] (eR s)) := rend_eq N j3
  have p1 : ∀ k0, porterref29_Get_p1 N (([] : List UInt8), ((0 : Int), ((0 : Int), ((0 : Int), ())))) (byteR s).1 (rf (byteR s).2.1 (byteR s).2.2) k0 = k0 (rf (g1R s).1 (g1R s).2) := fun k0 => by
    rw [porterref29_Get_p1]
    unfold g1R
    by_cases h : (byteR s).1 = 1
    · rw [h, bne_self_eq_false, cond_false, if_pos rfl]
    · rw [bne_iff_ne.2 h, cond_true, if_neg h, rfail_eq N _ _ (by decide)]; rfl
  have p2 : ∀ k0, porterref29_Get_p2 N (([] : List UInt8), ((0 : Int), ((0 : Int), ((0 : Int), ())))) (g2R s).1 (rf (g2R s).2.1 (g2R s).2.2) k0 = k0 (rf (g3R s).1 (g3R s).2) := fun k0 => by
    rw [porterref29_Get_p2, refWord_eq N (by omega)]
    simp only [Option.bind_some]
    unfold g3R
    cases wordL (g2R s).1
    · rw [Bool.not_false, cond_true, cond_false, rfail_eq N _ _ (by decide)]; rfl
    · rfl
  rw [porterref29_Get, show ((s, ((0 : Int), ())) : RefT) = rf s 0 from rfl, rbyte_eq N]
  simp only [Option.bind_some]
  rw [p1, t2]
  simp only [Option.bind_some]
  rw [p2, m1]
  simp only [Option.bind_some]
  rw [m2]
  simp only [Option.bind_some]
  rw [m3]
  simp only [Option.bind_some]
  rw [m4]
  simp only [Option.bind_some]
  rw [show (rf [] (eR s)).2.1 = eR s from rfl]
  unfold getR
  by_cases he : eR s = 0
  · rw [he, bne_self_eq_false, cond_false, if_pos rfl]
  · rw [bne_iff_ne.2 he, cond_true, if_neg he]

/-! what is put is got, and what is got was put -/
theorem num_back {s s' : List UInt8} {e most v : Int} (h : numS s e most = (v, s', 0)) : e = 0 ∧ ∃ n : Nat, v = (n : Int) ∧ n < 18446744073709551616 ∧ (n : Int) ≤ most ∧ s = putL n ++ s' := by
  unfold numS at h
  split at h
  · rename_i he
    cases h
    exact absurd rfl he
  · rename_i he
    split at h
    · rename_i hf
      exact absurd (Prod.mk.inj (Prod.mk.inj h).2).2 hf
    · rename_i hf
      split at h
      · cases h
      · rename_i hm
        cases h
        have hf' : (takeL s).2.2 = 0 := by simpa using hf
        have := Go.Proofs.YtlhfamaflkbkjaaPx.take_ok (s := s) (n := (takeL s).1) (k := (takeL s).2.1) (by rw [← hf'])
        exact ⟨by simpa using he, (takeL s).1, rfl, this.1, by omega, by rw [this.2.2.2, List.take_append_drop]⟩

theorem num_fwd {n : Nat} {s' : List UInt8} {most : Int} (hn : n < 18446744073709551616) (hm : (n : Int) ≤ most) : numS (putL n ++ s') 0 most = ((n : Int), s', 0) := by
  unfold numS
  rw [if_neg (by simp), take_put hn]
  simp only
  rw [if_neg (by simp), if_neg (by omega), List.drop_left]

theorem text_back {s s' t : List UInt8} {e : Int} (h : textS s e 32 = (t, s', 0)) : e = 0 ∧ t.length ≤ 32 ∧ s = putL t.length ++ t ++ s' := by
  unfold textS textT at h
  rw [if_neg (show ¬ (32 : Int) < 0 by decide)] at h
  obtain ⟨v, s1, f, hy⟩ : ∃ v s1 f, numS s e 32 = (v, s1, f) := ⟨_, _, _, rfl⟩
  rw [hy] at h
  simp only at h
  by_cases hf : f = 0
  · subst hf
    rw [if_neg (by simp)] at h
    obtain ⟨he, n, rfl, _, hm, rfl⟩ := num_back hy
    by_cases hl : (s1.length : Int) < (n : Int)
    · rw [if_pos hl] at h
      cases h
    · rw [if_neg hl, Int.toNat_natCast] at h
      cases h
      have hn : (s1.take n).length = n := by rw [List.length_take]; omega
      exact ⟨he, by omega, by rw [hn, List.append_assoc, List.take_append_drop]⟩
  · rw [if_pos hf] at h
    cases h
    exact absurd rfl hf

theorem text_fwd {t s' : List UInt8} (ht : t.length ≤ 32) : textS (putL t.length ++ t ++ s') 0 32 = (t, s', 0) := by
  unfold textS textT
  rw [if_neg (show ¬ (32 : Int) < 0 by decide), List.append_assoc, num_fwd (by omega) (by omega)]
  simp only
  rw [if_neg (by simp), if_neg (by simp only [List.length_append]; omega), Int.toNat_natCast, List.take_left, List.drop_left]

theorem get_put {t : List UInt8} {k e n : Nat} (hw : wordL t = true) (hk : k ≤ 1099511627776) (he : e ≤ 1099511627776) (hn : n ≤ 1099511627776) :
    getR ([1] ++ (putL t.length ++ t) ++ (putL k ++ putL e ++ putL n)) = ((t, (k : Int), (e : Int), (n : Int), ()), 0, ()) := by
  have ht := word_len hw
  have b1 : g1R ([1] ++ (putL t.length ++ t) ++ (putL k ++ putL e ++ putL n)) = (putL t.length ++ t ++ (putL k ++ putL e ++ putL n), 0) := by
    unfold g1R
    have hb : byteR ([1] ++ (putL t.length ++ t) ++ (putL k ++ putL e ++ putL n)) = (1, putL t.length ++ t ++ (putL k ++ putL e ++ putL n), 0) := by
      rw [List.append_assoc]
      rfl
    rw [hb, if_pos rfl]
  have b2 : g2R ([1] ++ (putL t.length ++ t) ++ (putL k ++ putL e ++ putL n)) = (t, putL k ++ putL e ++ putL n, 0) := by
    unfold g2R
    rw [b1]
    exact text_fwd ht
  have b3 : g3R ([1] ++ (putL t.length ++ t) ++ (putL k ++ putL e ++ putL n)) = (putL k ++ putL e ++ putL n, 0) := by
    unfold g3R
    rw [b2, hw]
    rfl
  have c1 : n1R ([1] ++ (putL t.length ++ t) ++ (putL k ++ putL e ++ putL n)) = ((k : Int), putL e ++ putL n, 0) := by
    unfold n1R
    rw [b3, List.append_assoc]
    exact num_fwd (by omega) (by omega)
  have c2 : n2R ([1] ++ (putL t.length ++ t) ++ (putL k ++ putL e ++ putL n)) = ((e : Int), putL n, 0) := by
    unfold n2R
    rw [c1]
    exact num_fwd (by omega) (by omega)
  have c3 : n3R ([1] ++ (putL t.length ++ t) ++ (putL k ++ putL e ++ putL n)) = ((n : Int), [], 0) := by
    unfold n3R
    rw [c2]
    have := num_fwd (n := n) (s' := []) (most := 1099511627776) (by omega) (by omega)
    rw [List.append_nil] at this
    exact this
  have c4 : eR ([1] ++ (putL t.length ++ t) ++ (putL k ++ putL e ++ putL n)) = 0 := by
    unfold eR
    rw [c3]
    rfl
  unfold getR
  rw [c4, if_pos rfl, b2, c1, c2, c3]
  simp only
  rw [wrap_in (x := (k : Int)) (by unfold I64; omega), wrap_in (x := (e : Int)) (by unfold I64; omega), wrap_in (x := (n : Int)) (by unfold I64; omega)]

theorem fail_zero' {s : List UInt8} {e f : Int} (hf : f ≠ 0) : (failR s e f).2 ≠ 0 := by
  unfold failR
  by_cases he : e = 0
  · subst he
    rw [if_neg (by simp)]; exact hf
  · rw [if_pos he]; exact he

theorem put_get {s : List UInt8} (h : eR s = 0) : ∃ t, ∃ k e n : Nat, wordL t = true ∧ k ≤ 1099511627776 ∧ e ≤ 1099511627776 ∧ n ≤ 1099511627776 ∧ s = [1] ++ (putL t.length ++ t) ++ (putL k ++ putL e ++ putL n) := by
  have h3 : (n3R s).2.1 = [] ∧ (n3R s).2.2 = 0 := by
    unfold eR endR at h
    by_cases hn : (n3R s).2.1 = []
    · rw [if_pos hn] at h; exact ⟨hn, h⟩
    · rw [if_neg hn] at h; cases h
  have q3 : numS (n2R s).2.1 (n2R s).2.2 1099511627776 = ((n3R s).1, [], 0) := by
    rw [← h3.1, ← h3.2]; rfl
  obtain ⟨z2, n, _, _, hn, e3⟩ := num_back q3
  have q2 : numS (n1R s).2.1 (n1R s).2.2 1099511627776 = ((n2R s).1, (n2R s).2.1, 0) := by
    rw [← z2]; rfl
  obtain ⟨z1, e, _, _, he, e2⟩ := num_back q2
  have q1 : numS (g3R s).1 (g3R s).2 1099511627776 = ((n1R s).1, (n1R s).2.1, 0) := by
    rw [← z1]; rfl
  obtain ⟨z0, k, _, _, hk, e1⟩ := num_back q1
  have hw : wordL (g2R s).1 = true := by
    cases hw : wordL (g2R s).1 with
    | true => rfl
    | false =>
      unfold g3R at z0
      rw [hw] at z0
      exact absurd z0 (fail_zero' (by decide))
  have g3 : g3R s = (g2R s).2 := by
    unfold g3R
    rw [hw]; rfl
  rw [g3] at z0 e1
  have qt : textS (g1R s).1 (g1R s).2 32 = ((g2R s).1, (g2R s).2.1, 0) := by
    rw [← z0]; rfl
  obtain ⟨zt, _, et⟩ := text_back qt
  have hb : (byteR s).1 = 1 := Decidable.byContradiction fun hb => by
    unfold g1R at zt
    rw [if_neg hb] at zt
    exact absurd zt (fail_zero' (by decide))
  have g1 : g1R s = (byteR s).2 := by
    unfold g1R
    rw [if_pos hb]
  rw [g1] at zt et
  refine ⟨(g2R s).1, k, e, n, hw, by omega, by omega, by omega, ?_⟩
  cases s with
  | nil => cases hb
  | cons a l =>
    have ha : a = 1 := by
      have : ((a.toNat : Nat) : Int) = 1 := hb
      apply UInt8.toNat_inj.1
      show a.toNat = 1
      omega
    have hl : l = putL (g2R (a :: l)).1.length ++ (g2R (a :: l)).1 ++ (g2R (a :: l)).2.1 := et
    rw [e1, e2, e3, List.append_nil] at hl
    rw [List.append_assoc, List.append_assoc (putL k)]
    rw [← hl, ha]
    rfl

end Go.Proofs.YtlhfamaflkbkjaaLg
