/- Layer 8: the laws. -/
import Derived.Test.YtjknlcknfnfgbaaLgFldF
set_option linter.all false
set_option maxRecDepth 100000
namespace Go.Proofs.YtjknlcknfnfgbaaLg
open Go Go.Lift Go.Proofs.YtjknlcknfnfgbaaPx

abbrev ActT := Int × (Int × (Int × (Int × Unit)))

theorem does_eq (N : Nat) (hN : 20 < N) {s : List UInt8} {e : Int} (h : Inv8 s e) {a : ActT} (ha : a.2.2.1 < 9223372036854775808) :
    ∃ s' e', porterlaw08_does N (rdr s e) (rf s e) a = some ((rf s' e', (true, ())), (rdr s' e', ())) ∧ Inv8 s' e' := by
  rw [porterlaw08_does]
  by_cases h0 : a.1 = 0
  · obtain ⟨b, s', e', h1, h2, h3⟩ := byte_both N h
    refine ⟨s', e', ?_, h3⟩
    rw [cond_t (beq_iff_eq.2 h0), h1, h2]
    simp only [Option.bind_some, beq_self_eq_true]
  · rw [cond_f (beq_eq_false_iff_ne.2 h0)]
    by_cases h1 : a.1 = 1
    · refine ⟨_, _, ?_, num_inv (most := a.2.1) h⟩
      rw [cond_t (beq_iff_eq.2 h1), num_eq N hN h, rnum_eq N hN h]
      simp only [Option.bind_some, beq_self_eq_true]
    · rw [cond_f (beq_eq_false_iff_ne.2 h1)]
      by_cases h2 : a.1 = 2
      · refine ⟨_, _, ?_, text_inv (most := a.2.2.1) h⟩
        rw [cond_t (beq_iff_eq.2 h2), text_eq N hN h ha, rtext_eq N hN h ha]
        simp only [Option.bind_some, beq_self_eq_true]
      · rw [cond_f (beq_eq_false_iff_ne.2 h2)]
        by_cases h3 : a.1 = 3
        · obtain ⟨s', e', k1, k2, k3⟩ := fail_both N h a.2.2.2.1
          refine ⟨s', e', ?_, k3⟩
          rw [cond_t (beq_iff_eq.2 h3), k1, k2]
          rfl
        · rw [cond_f (beq_eq_false_iff_ne.2 h3)]
          by_cases h4 : a.1 = 4
          · obtain ⟨s', e', k1, k2, k3⟩ := end_both N h
            refine ⟨s', e', ?_, k3⟩
            rw [cond_t (beq_iff_eq.2 h4), k1, k2]
            simp only [Option.bind_some]
            rw [show (rf s' e').2.1 = e' from rfl, beq_self_eq_true]
          · rw [cond_f (beq_eq_false_iff_ne.2 h4)]
            exact ⟨s, e, rfl, h⟩

theorem plays_loop (N : Nat) (hN : 60 ≤ N) (l : List ActT) (hl : ∀ a ∈ l, a.2.2.1 < 9223372036854775808) (hlen : l.length ≤ 40) (k0 : Bool → Option Bool) (k1 : Option Bool) {s : List UInt8} (h : s.length ≤ 1000000) :
    porterlaw08_FieldPlays_p3 N l (rdr s 0) (rf s 0) 0 k0 k1 = k1 := by
  rw [porterlaw08_FieldPlays_p3]
  have h := iter_eq (step := fun (v : (RdrT.den × RefT × Int)) r => porterlaw08_FieldPlays_s3 N l v.1 v.2.1 v.2.2 (fun r_ x6 i => (r (r_, x6, i))) k0 k1)
    (I := fun v => ∃ s e, ∃ i : Nat, v = (rdr s e, rf s e, (i : Int)) ∧ Inv8 s e ∧ i ≤ l.length) (m := fun v => l.length - v.2.2.toNat) (R := fun _ => k1)
    (by
      rintro v r ⟨s, e, i, rfl, hI, hi⟩ hr
      simp only
      rw [porterlaw08_FieldPlays_s3]
      by_cases hlt : i < l.length
      · have w1 : Go.IntKind.wrap .i64 ((i : Int) + 1) = ((i + 1 : Nat) : Int) := wrap_succ (by omega)
        obtain ⟨s', e', k, hI'⟩ := does_eq N (by omega) hI (hl _ (getD_mem l ((0 : Int), ((0 : Int), ((0 : Int), ((0 : Int), ())))) i hlt))
        rw [cond_t (decide_eq_true (by omega)), porterlaw08_FieldPlays_p4, cond_t (inR_nat hlt), Int.toNat_natCast, k]
        simp only [Option.bind_some]
        rw [porterlaw08_FieldPlays_p5, Bool.not_true, cond_false, show (rdr s' e').2.1 = s' from rfl, show (rf s' e').1 = s' from rfl, bne_self_eq_false, cond_false, err_t]
        simp only [Option.bind_some]
        rw [show (rf s' e').2.1 = e' from rfl, bne_self_eq_false, cond_false, w1, hr _ ⟨s', e', i + 1, rfl, hI', hlt⟩ (by simp only [Int.toNat_natCast]; omega)]
      · rw [cond_f (decide_eq_false (by omega))]) N (rdr s 0, rf s 0, (0 : Int)) ⟨s, 0, 0, rfl, ⟨h, fun h => absurd rfl h⟩, by omega⟩ (by simp only [Int.toNat_zero]; omega)
  exact h

theorem plays_law (k : Nat) (s : List UInt8) (l : List ActT) (hl : ∀ a ∈ l, a.2.2.1 < 9223372036854775808) : porterlaw08_FieldPlays (k + 100) s l = some true := by
  have hw := works8 (k + 70)
  rw [porterlaw08_FieldPlays, porterlaw08_FieldPlays_p1, porterlaw08_FieldPlays_p2, hw]
  simp only [Option.bind_some]
  by_cases hs : s.length ≤ 500
  · rw [cond_f (decide_eq_false (by omega))]
    by_cases hlen : l.length ≤ 40
    · rw [decide_eq_false (by omega), cond_false]
      exact plays_loop (k + 100) (by omega) l hl hlen _ _ (by omega)
    · rw [decide_eq_true (by omega), cond_true]
  · rw [cond_t (decide_eq_true (by omega)), cond_true]

theorem numS_bad (s : List UInt8) {e : Int} (he : e ≠ 0) (most : Int) : numS s e most = (0, s, e) := by
  unfold numS
  rw [if_pos he]

theorem textS_bad (s : List UInt8) {e : Int} (he : e ≠ 0) (most : Int) : textS s e most = ([], s, e) := by
  unfold textS textT
  rw [numS_bad s he, if_pos he]

theorem end_nil (N : Nat) (e : Int) : field_Reader_End N (rdr [] e) = some (e, (rdr [] e, ())) := by
  rw [field_Reader_End, field_Reader_End_p1, show (rdr [] e).2.1 = [] from rfl, cond_f (by rfl), err_t]
  rfl

theorem stays_loop (N : Nat) (hN : 60 ≤ N) (l : List ActT) (hl : ∀ a ∈ l, a.2.2.1 < 9223372036854775808) (hlen : l.length ≤ 40) {e : Int} (he : e ≠ 0) (k0 : Bool → Option Bool) (k1 : RdrT.den → Option Bool) :
    porterlaw08_FieldStays_p3 N e l (rdr [] e) 0 k0 k1 = k1 (rdr [] e) := by
  rw [porterlaw08_FieldStays_p3]
  have h := iter_eq (step := fun (v : (RdrT.den × Int)) r => porterlaw08_FieldStays_s3 N e l v.1 v.2 (fun r_ i => (r (r_, i))) k0 k1)
    (I := fun v => ∃ i : Nat, v = (rdr [] e, (i : Int)) ∧ i ≤ l.length) (m := fun v => l.length - v.2.toNat) (R := fun _ => k1 (rdr [] e))
    (by
      rintro v r ⟨i, rfl, hi⟩ hr
      simp only
      rw [porterlaw08_FieldStays_s3]
      by_cases hlt : i < l.length
      · have w1 : Go.IntKind.wrap .i64 ((i : Int) + 1) = ((i + 1 : Nat) : Int) := wrap_succ (by omega)
        have hm := hl _ (getD_mem l ((0 : Int), ((0 : Int), ((0 : Int), ((0 : Int), ())))) i hlt)
        rw [cond_t (decide_eq_true (by omega)), porterlaw08_FieldStays_p4, cond_t (inR_nat hlt), Int.toNat_natCast, fail_off N [] he]
        simp only [Option.bind_some]
        rw [porterlaw08_FieldStays_p5, byte_bad N [] he]
        simp only [Option.bind_some]
        rw [bne_self_eq_false, cond_false, cond_t (inR_nat hlt), Int.toNat_natCast, num_eq N (by omega) (inv_bad e), numS_bad [] he]
        simp only [Option.bind_some]
        rw [bne_self_eq_false, cond_false, cond_t (inR_nat hlt), text_eq N (by omega) (inv_bad e) hm, textS_bad [] he]
        simp only [Option.bind_some]
        rw [beq_self_eq_true, Bool.not_true, cond_false, show (rdr [] e).2.1 = [] from rfl, cond_f (by rfl), end_nil]
        simp only [Option.bind_some]
        rw [bne_self_eq_false, cond_false, err_t]
        simp only [Option.bind_some]
        rw [bne_self_eq_false, cond_false, w1, hr _ ⟨i + 1, rfl, hlt⟩ (by simp only [Int.toNat_natCast]; omega)]
      · rw [cond_f (decide_eq_false (by omega))]) N (rdr [] e, (0 : Int)) ⟨0, rfl, by omega⟩ (by simp only [Int.toNat_zero]; omega)
  exact h

theorem stays_law (k : Nat) (s : List UInt8) (e : Int) (l : List ActT) (hl : ∀ a ∈ l, a.2.2.1 < 9223372036854775808) : porterlaw08_FieldStays (k + 100) s e l = some true := by
  have hw := works8 (k + 70)
  rw [porterlaw08_FieldStays, porterlaw08_FieldStays_p1, porterlaw08_FieldStays_p2, hw]
  simp only [Option.bind_some]
  by_cases hs : s.length ≤ 500
  · rw [cond_f (decide_eq_false (by omega))]
    by_cases hlen : l.length ≤ 40
    · rw [cond_f (decide_eq_false (by omega))]
      by_cases he : e = 0
      · rw [beq_iff_eq.2 he, cond_true]
      · have h1 := fail_on (k + 100) s he
        unfold rdr at h1
        rw [beq_eq_false_iff_ne.2 he, cond_false, h1]
        simp only [Option.bind_some]
        have h2 := stays_loop (k + 100) (by omega) l hl hlen he (fun x61 => some x61) (fun r_ => (field_Reader_Err (k + 100) r_).bind fun y1 => cond (y1.1 == e) (some true) (some false))
        unfold rdr at h2
        rw [h2]
        have h3 := err_t (k + 100) [] e
        unfold rdr at h3
        rw [h3]
        simp only [Option.bind_some, beq_self_eq_true, cond_true]
    · rw [cond_t (decide_eq_true (by omega)), cond_true]
  · rw [cond_t (decide_eq_true (by omega)), cond_true]

/-! fields, one behind the other -/
def encL (l : List (List UInt8)) : List UInt8 := l.flatMap fun t => putL t.length ++ t
def encN (l : List Nat) : List UInt8 := l.flatMap putL

theorem encL_cons (t : List UInt8) (l : List (List UInt8)) : encL (t :: l) = putL t.length ++ t ++ encL l := by simp [encL]
theorem encN_cons (n : Nat) (l : List Nat) : encN (n :: l) = putL n ++ encN l := by simp [encN]

theorem ftext_eq (N : Nat) (hN : 20 < N) {t : List UInt8} (ht : t.length ≤ 1000000) : field_Text N t = some (putL t.length ++ t) := by
  have := putL_len t.length
  rw [field_Text, wrap_nat ht, put_eq N hN (by omega)]
  simp only [Option.bind_some]
  rw [cond_t (decide_eq_true (by omega))]

theorem rtextp_eq (N : Nat) (hN : 20 < N) {t : List UInt8} (ht : t.length ≤ 1000000) : porterref08_Text N t = some (putL t.length ++ t) := by
  have := putL_len t.length
  rw [porterref08_Text, wrap_nat ht, refPutL N (by omega) (by omega)]
  simp only [Option.bind_some]
  rw [cond_t (decide_eq_true (by omega))]

theorem fnum_eq (N : Nat) (hN : 20 < N) {n : Nat} (hn : n < 18446744073709551616) : field_Num N (n : Int) = some (putL n) := by
  rw [field_Num, put_eq N hN hn]
  rfl

theorem text_read (N : Nat) (hN : 20 < N) {t r : List UInt8} (ht : t.length ≤ 200) (hr : (putL t.length ++ t ++ r).length ≤ 1000000) :
    field_Reader_Text N (rdr (putL t.length ++ t ++ r) 0) 200 = some (t, (rdr r 0, ())) := by
  have hk := take_put (n := t.length) (by omega) (t ++ r)
  rw [← List.append_assoc] at hk
  have hn : numS (putL t.length ++ t ++ r) 0 200 = ((t.length : Int), t ++ r, 0) := by
    unfold numS
    rw [if_neg (by simp), hk]
    simp only
    rw [if_neg (by simp), if_neg (by omega), List.append_assoc, List.drop_left]
  have hs : textS (putL t.length ++ t ++ r) 0 200 = (t, r, 0) := by
    unfold textS textT
    rw [if_neg (show ¬ (200 : Int) < 0 by decide), hn]
    simp only
    rw [if_neg (by simp), if_neg (by simp only [List.length_append]; omega), Int.toNat_natCast, List.take_left, List.drop_left]
  rw [text_eq N hN ⟨hr, fun h => absurd rfl h⟩ (by decide), hs]

theorem num_read (N : Nat) (hN : 20 < N) {n : Nat} {r : List UInt8} (hn : n < 18446744073709551616) (hr : (putL n ++ r).length ≤ 1000000) :
    field_Reader_Num N (rdr (putL n ++ r) 0) 18446744073709551615 = some ((n : Int), (rdr r 0, ())) := by
  have hk := take_put hn r
  have hs : numS (putL n ++ r) 0 18446744073709551615 = ((n : Int), r, 0) := by
    unfold numS
    rw [if_neg (by simp), hk]
    simp only
    rw [if_neg (by simp), if_neg (by omega), List.drop_left]
  rw [num_eq N hN ⟨hr, fun h => absurd rfl h⟩, hs]

/-- the texts put: one is too long, or all are put -/
theorem puts_loop (N : Nat) (hN : 60 ≤ N) (l : List (List UInt8)) (n : List Int) (hlen : l.length ≤ 12) (k0 : Bool → Option Bool) (k1 : List UInt8 → Option Bool) (hw : porterlaw08_works N = some true) :
    porterlaw08_FieldBack_p3 N l n [] 0 k0 k1 = if ∀ t ∈ l, t.length ≤ 200 then k1 (encL l) else k0 true := by
  rw [porterlaw08_FieldBack_p3]
  have h := iter_eq (step := fun (v : (List UInt8 × Int)) r => porterlaw08_FieldBack_s3 N l n v.1 v.2 (fun s i => (r (s, i))) k0 k1)
    (I := fun v => ∃ i : Nat, v.2 = (i : Int) ∧ i ≤ l.length ∧ v.1.length ≤ 300 * i) (m := fun v => l.length - v.2.toNat)
    (R := fun v => if ∀ t ∈ l.drop v.2.toNat, t.length ≤ 200 then k1 (v.1 ++ encL (l.drop v.2.toNat)) else k0 true)
    (by
      rintro ⟨s, i⟩ r ⟨i, rfl, hi, hs⟩ hr
      simp only at hs ⊢
      rw [porterlaw08_FieldBack_s3, Int.toNat_natCast]
      by_cases hlt : i < l.length
      · have w1 : Go.IntKind.wrap .i64 ((i : Int) + 1) = ((i + 1 : Nat) : Int) := wrap_succ (by omega)
        have hd := drop_cons l [] i hlt
        rw [cond_t (decide_eq_true (by omega)), cond_t (inR_nat hlt), hd]
        generalize l.getD i [] = t at *
        by_cases ht : t.length ≤ 200
        · have hp := putL_len t.length
          rw [cond_f (decide_eq_false (by omega)), cond_t (inR_nat hlt), ftext_eq N (by omega) (by omega), rtextp_eq N (by omega) (by omega)]
          simp only [Option.bind_some]
          rw [cond_t (inR_nat hlt), beq_self_eq_true, Bool.not_true, cond_false, cond_t (inR_nat hlt), cond_t (decide_eq_true (by simp only [List.length_append]; omega)), w1,
            hr _ ⟨i + 1, rfl, hlt, by simp only [List.length_append]; omega⟩ (by simp only [Int.toNat_natCast]; omega), Int.toNat_natCast]
          by_cases ha : ∀ t ∈ l.drop (i + 1), t.length ≤ 200
          · rw [if_pos ha, if_pos (fun u hu => by
              rcases List.mem_cons.1 hu with rfl | hu
              · exact ht
              · exact ha u hu), encL_cons]
            simp only [List.append_assoc]
          · rw [if_neg ha, if_neg (fun hb => ha (fun u hu => hb u (List.mem_cons_of_mem _ hu)))]
        · rw [cond_t (decide_eq_true (by omega)), hw, if_neg (fun hb => ht (hb t (List.mem_cons_self ..)))]
          rfl
      · rw [cond_f (decide_eq_false (by omega)), drop_nil' l (by omega), if_pos (fun t ht => by cases ht)]
        simp [encL]) N ([], (0 : Int)) ⟨0, rfl, by omega, by simp⟩ (by simp only [Int.toNat_zero]; omega)
  rw [h]
  simp only [Int.toNat_zero, List.drop_zero, List.nil_append]

theorem cast_getD (ns : List Nat) (i : Nat) : (ns.map Int.ofNat).getD i 0 = ((ns.getD i 0 : Nat) : Int) := by
  rw [List.getD_eq_getElem?_getD, List.getElem?_map, List.getD_eq_getElem?_getD]
  cases ns[i]? <;> rfl

theorem putn_loop (N : Nat) (hN : 60 ≤ N) (l : List (List UInt8)) (ns : List Nat) (hns : ∀ n ∈ ns, n < 18446744073709551616) (hlen : ns.length ≤ 12) (k0 : Bool → Option Bool) (k1 : List UInt8 → Option Bool) {s : List UInt8} (hs : s.length ≤ 4000) :
    porterlaw08_FieldBack_p4 N l (ns.map Int.ofNat) s 0 k0 k1 = k1 (s ++ encN ns) := by
  rw [porterlaw08_FieldBack_p4]
  have h := iter_eq (step := fun (v : (List UInt8 × Int)) r => porterlaw08_FieldBack_s4 N l (ns.map Int.ofNat) v.1 v.2 (fun s i => (r (s, i))) k0 k1)
    (I := fun v => ∃ i : Nat, v.2 = (i : Int) ∧ i ≤ ns.length ∧ v.1.length ≤ 4000 + 10 * i) (m := fun v => ns.length - v.2.toNat)
    (R := fun v => k1 (v.1 ++ encN (ns.drop v.2.toNat)))
    (by
      rintro ⟨s, i⟩ r ⟨i, rfl, hi, hs⟩ hr
      simp only at hs ⊢
      rw [porterlaw08_FieldBack_s4, Int.toNat_natCast, List.length_map, cast_getD]
      by_cases hlt : i < ns.length
      · have w1 : Go.IntKind.wrap .i64 ((i : Int) + 1) = ((i + 1 : Nat) : Int) := wrap_succ (by omega)
        have hm := hns _ (getD_mem ns 0 i hlt)
        rw [drop_cons ns 0 i hlt, cond_t (decide_eq_true (by omega)), cond_t (inR_nat hlt)]
        generalize ns.getD i 0 = n at *
        have hp := putL_len n
        rw [fnum_eq N (by omega) hm, refPutL N (by omega) hm]
        simp only [Option.bind_some]
        rw [cond_t (inR_nat hlt), beq_self_eq_true, Bool.not_true, cond_false, cond_t (inR_nat hlt), cond_t (decide_eq_true (by omega)), w1,
          hr _ ⟨i + 1, rfl, hlt, by simp only [List.length_append]; omega⟩ (by simp only [Int.toNat_natCast]; omega), Int.toNat_natCast, encN_cons]
        simp only [List.append_assoc]
      · rw [cond_f (decide_eq_false (by omega)), drop_nil' ns (by omega)]
        simp [encN]) N (s, (0 : Int)) ⟨0, rfl, by omega, by simpa using hs⟩ (by simp only [Int.toNat_zero]; omega)
  rw [h]
  simp only [Int.toNat_zero, List.drop_zero]

theorem gets_loop (N : Nat) (hN : 60 ≤ N) (l : List (List UInt8)) (n : List Int) (hlen : l.length ≤ 12) (hl : ∀ t ∈ l, t.length ≤ 200) (k0 : Bool → Option Bool) (k1 : RdrT.den → Option Bool) {r0 : List UInt8} (h0 : (encL l ++ r0).length ≤ 1000000) :
    porterlaw08_FieldBack_p5 N l n (rdr (encL l ++ r0) 0) 0 k0 k1 = k1 (rdr r0 0) := by
  rw [porterlaw08_FieldBack_p5]
  have h := iter_eq (step := fun (v : (RdrT.den × Int)) r => porterlaw08_FieldBack_s5 N l n v.1 v.2 (fun r_ i => (r (r_, i))) k0 k1)
    (I := fun v => ∃ i : Nat, v = (rdr (encL (l.drop i) ++ r0) 0, (i : Int)) ∧ i ≤ l.length ∧ (encL (l.drop i) ++ r0).length ≤ 1000000) (m := fun v => l.length - v.2.toNat)
    (R := fun _ => k1 (rdr r0 0))
    (by
      rintro v r ⟨i, rfl, hi, hs⟩ hr
      simp only at hs ⊢
      rw [porterlaw08_FieldBack_s5]
      by_cases hlt : i < l.length
      · have w1 : Go.IntKind.wrap .i64 ((i : Int) + 1) = ((i + 1 : Nat) : Int) := wrap_succ (by omega)
        have ht := hl _ (getD_mem l [] i hlt)
        have hd := drop_cons l [] i hlt
        rw [hd, encL_cons] at hs ⊢
        rw [List.append_assoc] at hs ⊢
        rw [cond_t (decide_eq_true (by omega)), text_read N (by omega) ht hs]
        simp only [Option.bind_some]
        rw [cond_t (inR_nat hlt), Int.toNat_natCast, beq_self_eq_true, Bool.not_true, cond_false, w1,
          hr _ ⟨i + 1, rfl, hlt, by simp only [List.length_append] at hs ⊢; omega⟩ (by simp only [Int.toNat_natCast]; omega)]
      · rw [cond_f (decide_eq_false (by omega)), drop_nil' l (by omega)]
        rfl) N (rdr (encL l ++ r0) 0, (0 : Int)) ⟨0, rfl, by omega, h0⟩ (by simp only [Int.toNat_zero]; omega)
  exact h

theorem getn_loop (N : Nat) (hN : 60 ≤ N) (ns : List Nat) (hns : ∀ n ∈ ns, n < 18446744073709551616) (hlen : ns.length ≤ 12) (k0 : Bool → Option Bool) (k1 : RdrT.den → Option Bool) {r0 : List UInt8} (h0 : (encN ns ++ r0).length ≤ 1000000) :
    porterlaw08_FieldBack_p6 N (ns.map Int.ofNat) (rdr (encN ns ++ r0) 0) 0 k0 k1 = k1 (rdr r0 0) := by
  rw [porterlaw08_FieldBack_p6]
  have h := iter_eq (step := fun (v : (RdrT.den × Int)) r => porterlaw08_FieldBack_s6 N (ns.map Int.ofNat) v.1 v.2 (fun r_ i => (r (r_, i))) k0 k1)
    (I := fun v => ∃ i : Nat, v = (rdr (encN (ns.drop i) ++ r0) 0, (i : Int)) ∧ i ≤ ns.length ∧ (encN (ns.drop i) ++ r0).length ≤ 1000000) (m := fun v => ns.length - v.2.toNat)
    (R := fun _ => k1 (rdr r0 0))
    (by
      rintro v r ⟨i, rfl, hi, hs⟩ hr
      simp only at hs ⊢
      rw [porterlaw08_FieldBack_s6, List.length_map, Int.toNat_natCast, cast_getD]
      by_cases hlt : i < ns.length
      · have w1 : Go.IntKind.wrap .i64 ((i : Int) + 1) = ((i + 1 : Nat) : Int) := wrap_succ (by omega)
        have hm := hns _ (getD_mem ns 0 i hlt)
        rw [drop_cons ns 0 i hlt, encN_cons, List.append_assoc] at hs ⊢
        rw [cond_t (decide_eq_true (by omega)), num_read N (by omega) hm hs]
        simp only [Option.bind_some]
        rw [cond_t (inR_nat hlt), bne_self_eq_false, cond_false, w1,
          hr _ ⟨i + 1, rfl, hlt, by simp only [List.length_append] at hs ⊢; omega⟩ (by simp only [Int.toNat_natCast]; omega)]
      · rw [cond_f (decide_eq_false (by omega)), drop_nil' ns (by omega)]
        rfl) N (rdr (encN ns ++ r0) 0, (0 : Int)) ⟨0, rfl, by omega, h0⟩ (by simp only [Int.toNat_zero]; omega)
  exact h

theorem encL_len : ∀ l : List (List UInt8), (∀ t ∈ l, t.length ≤ 200) → (encL l).length ≤ 210 * l.length
  | [], _ => by simp [encL]
  | t :: l, h => by
    have ih := encL_len l (fun u hu => h u (List.mem_cons_of_mem _ hu))
    have ht := h t (List.mem_cons_self ..)
    have hp := putL_len t.length
    rw [encL_cons]
    simp only [List.length_append, List.length_cons]
    omega

theorem encN_len : ∀ l : List Nat, (encN l).length ≤ 10 * l.length
  | [] => by simp [encN]
  | n :: l => by
    have ih := encN_len l
    have hp := putL_len n
    rw [encN_cons]
    simp only [List.length_append, List.length_cons]
    omega

theorem back_law (k : Nat) (l : List (List UInt8)) (ns : List Nat) (hns : ∀ n ∈ ns, n < 18446744073709551616) : porterlaw08_FieldBack (k + 100) l (ns.map Int.ofNat) = some true := by
  have hw : porterlaw08_works (k + 100) = some true := works8 (k + 70)
  rw [porterlaw08_FieldBack, porterlaw08_FieldBack_p1, porterlaw08_FieldBack_p2, hw, List.length_map]
  simp only [Option.bind_some]
  by_cases hl : l.length ≤ 12
  · rw [cond_f (decide_eq_false (by omega))]
    by_cases hn : ns.length ≤ 12
    · rw [decide_eq_false (by omega), cond_false, puts_loop (k + 100) (by omega) l _ hl _ _ hw]
      by_cases ha : ∀ t ∈ l, t.length ≤ 200
      · have h1 := encL_len l ha
        have h2 := encN_len ns
        rw [if_pos ha, putn_loop (k + 100) (by omega) l ns hns hn _ _ (by omega), cond_t (decide_eq_true (by simp only [List.length_append]; omega))]
        have h3 := gets_loop (k + 100) (by omega) l (ns.map Int.ofNat) hl ha (fun x43 => some x43) (fun r_ => porterlaw08_FieldBack_p6 (k + 100) (ns.map Int.ofNat) r_ (0 : Int)
            (fun x44 => some x44)
            (fun r_1 => cond ((((List.length r_1.2.1) : Nat) : Int) == (1 : Int))
              ((field_Reader_Byte (k + 100) r_1).bind fun y =>
                cond (y.1 == (120 : Int))
                ((field_Reader_End (k + 100) y.2.1).bind fun y1 =>
                  cond (y1.1 == (0 : Int))
                  (some true)
                  (some false))
                (some false))
              (some false))) (r0 := encN ns ++ [120]) (by simp only [List.length_append, List.length_cons, List.length_nil]; omega)
        rw [List.append_assoc]
        unfold rdr at h3
        rw [h3]
        have h4 := getn_loop (k + 100) (by omega) ns hns hn (fun x44 => some x44) (fun r_1 => cond ((((List.length r_1.2.1) : Nat) : Int) == (1 : Int))
              ((field_Reader_Byte (k + 100) r_1).bind fun y =>
                cond (y.1 == (120 : Int))
                ((field_Reader_End (k + 100) y.2.1).bind fun y1 =>
                  cond (y1.1 == (0 : Int))
                  (some true)
                  (some false))
                (some false))
              (some false)) (r0 := [120]) (by simp only [List.length_append, List.length_cons, List.length_nil]; omega)
        unfold rdr at h4
        rw [h4]
        rfl
      · rw [if_neg ha]
    · rw [decide_eq_true (by omega), cond_true]
  · rw [cond_t (decide_eq_true (by omega)), cond_true]

/-! as the laws' arguments come -/
theorem act_of {l : List ActT} (h : ∀ a ∈ l, Wf (.pair (.int .i64) (.pair (.int .u64) (.pair (.int .i64) (.pair (.int .i64) .unit)))) a) : ∀ a ∈ l, a.2.2.1 < 9223372036854775808 := fun a ha => by
  have := (h a ha).2.2.1
  have hb := i64_of this
  unfold I64 at hb
  omega

theorem nats_of : ∀ {n : List Int}, (∀ x ∈ n, Wf (.int .u64) x) → ∃ ns : List Nat, n = ns.map Int.ofNat ∧ ∀ m ∈ ns, m < 18446744073709551616
  | [], _ => ⟨[], rfl, fun m h => by cases h⟩
  | x :: n, h => by
    obtain ⟨ns, rfl, h2⟩ := nats_of (fun y hy => h y (List.mem_cons_of_mem _ hy))
    have hb := Go.bounds_u64 (h x (List.mem_cons_self ..))
    refine ⟨x.toNat :: ns, ?_, fun m hm => ?_⟩
    · rw [List.map_cons, show Int.ofNat x.toNat = x from Int.toNat_of_nonneg hb.1]
    · rcases List.mem_cons.1 hm with rfl | hm
      · omega
      · exact h2 m hm

theorem back_any (l : List (List UInt8)) {n : List Int} (hn : ∀ x ∈ n, Wf (.int .u64) x) : porterlaw08_FieldBack 100 l n = some true := by
  obtain ⟨ns, rfl, h⟩ := nats_of hn
  exact back_law 0 l ns h

end Go.Proofs.YtjknlcknfnfgbaaLg
