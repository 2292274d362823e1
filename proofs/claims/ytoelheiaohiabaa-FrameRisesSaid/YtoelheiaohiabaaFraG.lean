/- The laws of the layer frame. -/
import Derived.Test.YtoelheiaohiabaaFraF
set_option linter.all false
namespace Go.Proofs.YtoelheiaohiabaaLf
open Go Go.Lift Go.Proofs.YtoelheiaohiabaaPx

theorem works_eq (k : Nat) : porterlaw42_works (k + 60) = some true := by kernel_rfl

abbrev Fr : Type := Int × (Int × (List UInt8 × Unit))
def zeroF : Fr := (0, 0, [], ())
def mkF (s : List UInt8) : Fr := ((num (s.take 8) : Int), (((s.getD 8 0).toNat : Nat) : Int), (s.drop 10).take (s.getD 9 0).toNat, ())
def good (s : List UInt8) : Bool := decide (s.length = 128 ∧ (s.getD 9 0).toNat ≤ 110 ∧ 1 ≤ num (s.take 8) ∧ num (s.take 8) < 9223372036854775808 ∧ blk (num (s.take 8)) (s.getD 8 0).toNat ((s.drop 10).take (s.getD 9 0).toNat) = s)

theorem take8 {s : List UInt8} (hl : s.length = 128) : num (s.take 8) < 9223372036854775808 ↔ (s.getD 7 0).toNat ≤ 127 := by
  have h := num_take_succ s (show 7 < s.length by omega)
  have h7 := num_take_lt s 7
  simp only [Nat.reduceAdd, Nat.reducePow] at h h7
  omega

theorem decode_eq (k : Nat) (s : List UInt8) : frame_decode (k + 20) s = some (cond (good s) (mkF s) zeroF) := by
  simp only [frame_decode, frame_decode_p1]
  by_cases hl : s.length = 128
  · rw [cond_f (by rw [hl]; rfl), cond_t (inR_of (by omega) (by omega)), wrap64_byte]
    by_cases h9 : 110 < (s.getD 9 0).toNat
    · rw [cond_t (dec_t (by omega)), good, dec_f (by omega)]; rfl
    · have hw : IntKind.wrap .i64 ((10 : Int) + (((s.getD 9 0).toNat : Nat) : Int)) = ((10 + (s.getD 9 0).toNat : Nat) : Int) := by rw [wrap_in (by unfold I64; omega)]; omega
      have hy := wrap_i64 (num (s.take 8) : Int)
      rw [cond_f (dec_f (by omega)), cond_t (dec_t (by omega)), cut_take, number_eq _ (by rw [List.length_take]; omega) (by omega), Option.bind_some, cond_t (inR_of (by omega) (by omega)), wrap64_byte, hw, cond_t (dec_t (by omega)), cond_t (dec_t (by omega)), Int.toNat_natCast, cut_mid, put_eq _ hy, Option.bind_some]
      have h8 := u8_lt (s.getD 8 0)
      have htl : ((s.drop 10).take (s.getD 9 0).toNat).length = (s.getD 9 0).toNat := by rw [List.length_take, List.length_drop]; omega
      have hnl := num_take_lt s 8
      simp only [Nat.reducePow] at hnl
      by_cases hn : 1 ≤ num (s.take 8) ∧ num (s.take 8) < 9223372036854775808
      · have hwn : IntKind.wrap .i64 (num (s.take 8) : Int) = (num (s.take 8) : Int) := wrap_in (by unfold I64; omega)
        rw [hwn]
        simp only [putR]
        rw [cond_f (dec_f (by omega)), cond_f (dec_f (by omega))]
        dsimp only
        rw [cond_f (by rfl), Int.toNat_natCast, Int.toNat_natCast]
        by_cases hb : blk (num (s.take 8)) (s.getD 8 0).toNat ((s.drop 10).take (s.getD 9 0).toNat) = s
        · rw [hb, beq_self_eq_true, good, dec_t ⟨hl, by omega, hn.1, hn.2, hb⟩]; rfl
        · rw [beq_eq_false_iff_ne.2 hb, good, dec_f (fun h => hb h.2.2.2.2)]; rfl
      · have hneg : IntKind.wrap .i64 (num (s.take 8) : Int) < 1 := by rw [wrap64]; omega
        simp only [putR]
        rw [cond_t (b := decide (_ ∨ _)) (dec_t (Or.inl hneg)), good, dec_f (fun h => hn ⟨h.2.2.1, h.2.2.2.1⟩)]; rfl
  · rw [cond_t (by rw [bne_iff_ne]; omega), good, dec_f (fun h => hl h.1)]; rfl

theorem mk_ne {s : List UInt8} (h : good s = true) : mkF s ≠ zeroF := by
  intro e
  have e1 := congrArg Prod.fst e
  simp only [good, decide_eq_true_eq] at h
  simp only [mkF, zeroF] at e1
  omega

theorem get_eq (k : Nat) (s : List UInt8) : frame_Get (k + 20) s = some (cond (good s) (mkF s, true, ()) (zeroF, false, ())) := by
  simp only [frame_Get, decode_eq, Option.bind_some]
  have ha : eqAll (T.pair (T.int .i64) (T.pair (T.int .i64) (T.pair T.str T.unit))) = true := rfl
  cases hg : good s with
  | true =>
    have : eqD (T.pair (T.int .i64) (T.pair (T.int .i64) (T.pair T.str T.unit))) (mkF s) ((0 : Int), ((0 : Int), (([] : List UInt8), ()))) = false := by
      rw [Bool.eq_false_iff]; intro h; exact mk_ne hg ((eqD_iff _ _ _ ha).1 h)
    simp only [cond_true]
    rw [this]; rfl
  | false => simp only [cond_false]; rfl

theorem good_iff {s : List UInt8} (hl : s.length = 128) (h9 : (s.getD 9 0).toNat ≤ 110) : good s = true ↔ ((s.getD 7 0).toNat ≤ 127 ∧ 1 ≤ num (s.take 8) ∧ s.drop 120 = s.take 8 ∧ ∀ i, 10 + (s.getD 9 0).toNat ≤ i → i < 120 → s.getD i 0 = 0) := by
  rw [good, decide_eq_true_eq, blk_of hl h9, take8 hl]
  constructor
  · rintro ⟨_, _, h1, h2, h3, h4⟩; exact ⟨h2, h1, h3, h4⟩
  · rintro ⟨h2, h1, h3, h4⟩; exact ⟨hl, h9, h1, h2, h3, h4⟩

theorem loop_zero {N : Nat} {s : List UInt8} {n long : Int} (i : Nat) {k0 : Int → Int → List UInt8 → Bool → Option (Int × Int × List UInt8 × Bool × Unit)} {k1 : Option (Int × Int × List UInt8 × Bool × Unit)}
    (hs : s.length = 128) (h : ∀ j, i ≤ j → j < 120 → s.getD j 0 = 0) (hi : i ≤ 120) (hN : 120 < N) : porterref42_Get_p3 N s n long (i : Int) k0 k1 = k1 := by
  simp only [porterref42_Get_p3]
  rw [iter_eq (I := fun (v : Int) => ∃ j : Nat, v = (j : Int) ∧ i ≤ j ∧ j ≤ 120) (m := fun v => 120 - v.toNat) (R := fun _ => k1) ?_ N (i : Int) ⟨i, rfl, by omega, hi⟩ (by simp; omega)]
  rintro v r ⟨j, rfl, h1, h2⟩ hr
  simp only [porterref42_Get_s3, Int.toNat_natCast] at *
  by_cases hlt : j < 120
  · rw [cond_t (dec_t (by omega)), cond_t (inR_nat (by omega)), h j h1 hlt, cond_f (by rfl), wrap_succ (by omega)]
    exact hr _ ⟨j + 1, rfl, by omega, by omega⟩ (by omega)
  · rw [cond_f (dec_f (by omega))]

theorem loop_bad {N : Nat} {s : List UInt8} {n long : Int} (i j : Nat) {k0 : Int → Int → List UInt8 → Bool → Option (Int × Int × List UInt8 × Bool × Unit)} {k1 : Option (Int × Int × List UInt8 × Bool × Unit)}
    (hs : s.length = 128) (hij : i ≤ j) (hj : j < 120) (hne : s.getD j 0 ≠ 0) (hN : 120 < N) : porterref42_Get_p3 N s n long (i : Int) k0 k1 = k0 0 0 [] false := by
  simp only [porterref42_Get_p3]
  rw [iter_eq (I := fun (v : Int) => ∃ i : Nat, v = (i : Int) ∧ i ≤ j) (m := fun v => 120 - v.toNat) (R := fun _ => k0 0 0 [] false) ?_ N (i : Int) ⟨i, rfl, hij⟩ (by simp; omega)]
  rintro v r ⟨i, rfl, h1⟩ hr
  simp only [porterref42_Get_s3, Int.toNat_natCast] at *
  rw [cond_t (dec_t (by omega)), cond_t (inR_nat (by omega))]
  by_cases hz : s.getD i 0 = 0
  · have : i ≠ j := fun e => hne (e ▸ hz)
    rw [hz, cond_f (by rfl), wrap_succ (by omega)]
    exact hr _ ⟨i + 1, rfl, by omega⟩ (by omega)
  · rw [cond_t]
    rw [bne_iff_ne]
    intro e
    apply hz
    have : (s.getD i 0).toNat = (0 : UInt8).toNat := by
      have e2 : (0 : UInt8).toNat = 0 := rfl
      omega
    exact UInt8.toNat_inj.1 this

theorem refGet_eq (N : Nat) (s : List UInt8) (hN : 120 < N) : porterref42_Get N s = some (cond (good s) ((mkF s).1, (mkF s).2.1, (mkF s).2.2.1, true, ()) (0, 0, [], false, ())) := by
  simp only [porterref42_Get, porterref42_Get_p1, porterref42_Get_p2]
  by_cases hl : s.length = 128
  case neg =>
    have hgf : good s = false := dec_f (fun h => hl h.1)
    rw [cond_t (by rw [bne_iff_ne]; omega), hgf]; rfl
  have hc : cut s 120 s.length = s.drop 120 := cut_all s 120
  rw [cond_f (by rw [hl]; rfl), cond_t (dec_t (by omega)), cond_t (dec_t (by omega)), cut_take, hc]
  by_cases h9 : (s.getD 9 0).toNat ≤ 110
  case neg =>
    have hgf : good s = false := by rw [good, dec_f (fun h => h9 h.2.1)]
    rw [hgf]
    cases hb : (s.take 8 == s.drop 120) with
    | false => rfl
    | true =>
      rw [Bool.not_true, cond_false, cond_t (inR_of (by omega) (by omega))]
      by_cases h7 : 127 < (s.getD 7 0).toNat
      · rw [cond_t (dec_t (by omega))]; rfl
      · rw [cond_f (dec_f (by omega)), cond_t (inR_of (by omega) (by omega)), cond_t (dec_t (by omega))]; rfl
  have hgi := good_iff hl h9
  by_cases hm : s.take 8 = s.drop 120
  case neg =>
    have hgf : good s = false := by rw [Bool.eq_false_iff]; intro h; exact hm (hgi.1 h).2.2.1.symm
    rw [hgf, beq_eq_false_iff_ne.2 hm]; rfl
  rw [beq_iff_eq.2 hm, Bool.not_true, cond_false, cond_t (inR_of (by omega) (by omega))]
  by_cases h7 : (s.getD 7 0).toNat ≤ 127
  case neg =>
    have hgf : good s = false := by rw [Bool.eq_false_iff]; intro h; exact h7 (hgi.1 h).1
    rw [hgf, cond_t (dec_t (by omega))]; rfl
  have hw : IntKind.wrap .i64 ((10 : Int) + (((s.getD 9 0).toNat : Nat) : Int)) = ((10 + (s.getD 9 0).toNat : Nat) : Int) := by rw [wrap_in (by unfold I64; omega)]; omega
  have hn := (take8 hl).2 h7
  rw [cond_f (dec_f (by omega)), cond_t (inR_of (by omega) (by omega)), cond_f (dec_f (by omega)), cond_t (dec_t (by omega)), refNumber_eq N (by rw [List.length_take]; omega) hn (by omega), Option.bind_some, cond_t (inR_of (by omega) (by omega)), wrap64_byte, wrap64_byte, hw]
  by_cases hz : ∀ i, 10 + (s.getD 9 0).toNat ≤ i → i < 120 → s.getD i 0 = 0
  case neg =>
    have hgf : good s = false := by rw [Bool.eq_false_iff]; intro h; exact hz (hgi.1 h).2.2.2
    simp only [Classical.not_forall] at hz
    obtain ⟨j, h1, h2, h3⟩ := hz
    rw [hgf, loop_bad _ j hl h1 h2 h3 hN]; rfl
  rw [loop_zero _ hl hz (by omega) hN]
  by_cases h0 : num (s.take 8) = 0
  · have hgf : good s = false := by rw [Bool.eq_false_iff]; intro h; have := (hgi.1 h).2.1; omega
    rw [hgf, h0]; rfl
  · have hgt : good s = true := hgi.2 ⟨h7, by omega, hm.symm, hz⟩
    rw [hgt, cond_f (by rw [beq_eq_false_iff_ne]; omega), cond_t (inR_of (by omega) (by omega)), cond_t (dec_t (by omega)), cond_t (dec_t (by omega)), Int.toNat_natCast, cut_mid]; rfl

theorem I64_of {m : Int} (h : I64 m) : -9223372036854775808 ≤ m ∧ m ≤ 9223372036854775807 := by unfold I64 at h; omega

theorem framePuts_true (k : Nat) {f : Fr} {s : List UInt8} (h1 : I64 f.1) : porterlaw42_FramePuts (k + 200) f s = some true := by
  have hw : porterlaw42_works (k + 200) = some true := works_eq (k + 140)
  have hp : frame_Put (k + 200) f = some (putR f) := put_eq (k + 180) h1
  have hg : frame_Get (k + 200) s = _ := get_eq (k + 180) s
  obtain ⟨m, kd, t, u⟩ := f
  have hr := refPut_eq (k + 200) (m := m) (kd := kd) (t := t) h1 (by omega)
  simp only [porterlaw42_FramePuts, porterlaw42_FramePuts_p1, porterlaw42_FramePuts_p2, hw, hp, hr, hg, refGet_eq (k + 200) s (by omega), Option.bind_some]
  have ha : eqAll (T.pair (T.int .i64) (T.pair (T.int .i64) (T.pair T.str T.unit))) = true := rfl
  have main : (cond ((putR (m, kd, t, u)).1 == (putR (m, kd, t, ())).1) (cond ((putR (m, kd, t, u)).2.1 == (putR (m, kd, t, ())).2.1) (cond (eqD (T.pair (T.int .i64) (T.pair (T.int .i64) (T.pair T.str T.unit))) (cond (good s) (mkF s, true, ()) (zeroF, false, ())).1 ((cond (good s) ((mkF s).1, (mkF s).2.1, (mkF s).2.2.1, true, ()) (0, 0, [], false, ())).1, (cond (good s) ((mkF s).1, (mkF s).2.1, (mkF s).2.2.1, true, ()) (0, 0, [], false, ())).2.1, (cond (good s) ((mkF s).1, (mkF s).2.1, (mkF s).2.2.1, true, ()) (0, 0, [], false, ())).2.2.1, ())) (cond ((cond (good s) (mkF s, true, ()) (zeroF, false, ())).2.1 == (cond (good s) ((mkF s).1, (mkF s).2.1, (mkF s).2.2.1, true, ()) (0, 0, [], false, ())).2.2.2.1) (some true) (some false)) (some false)) (some false)) (some false)) = some true := by
    rw [beq_self_eq_true, cond_true, beq_self_eq_true, cond_true]
    cases good s with
    | true => simp only [cond_true]; rw [cond_t ((eqD_iff _ _ _ ha).2 rfl)]; rfl
    | false => rfl
  by_cases ht : 300 < t.length
  · rw [cond_t (dec_t (by omega))]; rfl
  rw [cond_f (dec_f (by omega))]
  by_cases hs : 300 < s.length
  · rw [cond_t (dec_t (by omega))]
  rw [cond_f (dec_f (by omega))]
  exact main

theorem good_blk {m kd : Nat} {t : List UInt8} (hm : 1 ≤ m) (hm2 : m < 9223372036854775808) (hk : kd ≤ 255) (ht : t.length ≤ 110) : good (blk m kd t) = true ∧ mkF (blk m kd t) = ((m : Int), (kd : Int), t, ()) := by
  have e9 : ((blk m kd t).getD 9 0).toNat = t.length := by rw [blk_9, u8_toNat]; omega
  have e8 : ((blk m kd t).getD 8 0).toNat = kd := by rw [blk_8, u8_toNat]; omega
  have en : num ((blk m kd t).take 8) = m := by rw [blk_take, num_le 8 m (by simp only [Nat.reducePow]; omega)]
  constructor
  · rw [good, decide_eq_true_eq, e9, e8, en, blk_text]
    exact ⟨blk_length ht, ht, hm, hm2, rfl⟩
  · rw [mkF, e9, e8, en, blk_text]

/-- what Put tells, in two ways -/
theorem putR_ok {f : Fr} (h1 : I64 f.1) : ((putR f).2.1 = 0 ∧ ∃ m kd : Nat, f = ((m : Int), (kd : Int), f.2.2.1, ()) ∧ 1 ≤ m ∧ m < 9223372036854775808 ∧ kd ≤ 255 ∧ f.2.2.1.length ≤ 110 ∧ (putR f).1 = blk m kd f.2.2.1) ∨ ((putR f).2.1 = 7 ∨ (putR f).2.1 = 3) := by
  obtain ⟨m, kd, t, u⟩ := f
  have h1 := I64_of h1
  dsimp only at h1
  simp only [putR]
  by_cases hc : m < 1 ∨ kd < 0 ∨ 255 < kd
  · rw [cond_t (dec_t hc)]; exact Or.inr (Or.inl rfl)
  · rw [cond_f (dec_f hc)]
    by_cases ht : 110 < t.length
    · rw [cond_t (dec_t ht)]; exact Or.inr (Or.inr rfl)
    · rw [cond_f (dec_f ht)]
      exact Or.inl ⟨rfl, m.toNat, kd.toNat, by rw [Int.toNat_of_nonneg (by omega), Int.toNat_of_nonneg (by omega)], by omega, by omega, by omega, by omega, rfl⟩

theorem putR_blk {m kd : Nat} {t : List UInt8} (h1 : 1 ≤ m) (hk : kd ≤ 255) (ht : t.length ≤ 110) : putR ((m : Int), (kd : Int), t, ()) = (blk m kd t, 0, ()) := by
  simp only [putR]
  rw [cond_f (dec_f (by omega)), cond_f (dec_f (by omega)), Int.toNat_natCast, Int.toNat_natCast]

theorem put_mk {s : List UInt8} (h : good s = true) : putR (mkF s) = (s, 0, ()) := by
  have h8 := u8_lt (s.getD 8 0)
  simp only [good, decide_eq_true_eq] at h
  obtain ⟨hl, h9, h1, h2, h3⟩ := h
  have htl : ((s.drop 10).take (s.getD 9 0).toNat).length ≤ 110 := by rw [List.length_take]; omega
  exact (putR_blk h1 (by omega) htl).trans (by rw [h3])

theorem mk_I64 {s : List UInt8} : I64 (cond (good s) (mkF s, true, ()) (zeroF, false, ())).1.1 := by
  cases h : good s with
  | true =>
    simp only [good, decide_eq_true_eq] at h
    simp only [cond_true, mkF]
    unfold I64; omega
  | false => simp only [cond_false, zeroF]; unfold I64; omega

theorem frameBack_true (k : Nat) {f : Fr} {s : List UInt8} (h1 : I64 f.1) : porterlaw42_FrameBack (k + 200) f s = some true := by
  have hw : porterlaw42_works (k + 200) = some true := works_eq (k + 140)
  have hp : ∀ {f : Fr}, I64 f.1 → frame_Put (k + 200) f = some (putR f) := fun h1 => put_eq (k + 180) h1
  have hg : ∀ s, frame_Get (k + 200) s = _ := get_eq (k + 180)
  simp only [porterlaw42_FrameBack, porterlaw42_FrameBack_p1, porterlaw42_FrameBack_p2, porterlaw42_FrameBack_p3, porterlaw42_FrameBack_p4, hw, hp h1, hg, hp mk_I64, Option.bind_some]
  have ha : eqAll (T.pair (T.int .i64) (T.pair (T.int .i64) (T.pair T.str T.unit))) = true := rfl
  have tail : (cond (!(cond (good s) (mkF s, true, ()) (zeroF, false, ())).2.1) (some true) (cond ((putR (cond (good s) (mkF s, true, ()) (zeroF, false, ())).1).2.1 == 0) (cond ((putR (cond (good s) (mkF s, true, ()) (zeroF, false, ())).1).1 == s) (some true) (some false)) (some false))) = some true := by
    cases h : good s with
    | false => rfl
    | true =>
      simp only [cond_true]
      rw [put_mk h, Bool.not_true, cond_false]
      dsimp only
      rw [beq_self_eq_true, beq_self_eq_true]; rfl
  by_cases ht : 300 < f.2.2.1.length
  · rw [cond_t (dec_t (by omega))]; rfl
  rw [cond_f (dec_f (by omega))]
  by_cases hs : 300 < s.length
  · rw [cond_t (dec_t (by omega))]
  rw [cond_f (dec_f (by omega))]
  rw [tail]
  rcases putR_ok h1 with ⟨h0, m, kd, hf, h2, h3, h4, h5, h6⟩ | h | h
  · obtain ⟨g1, g2⟩ := good_blk h2 h3 h4 h5
    rw [h0, h6, g1]
    simp only [cond_true]
    rw [g2, blk_length h5]
    have : eqD (T.pair (T.int .i64) (T.pair (T.int .i64) (T.pair T.str T.unit))) ((m : Int), (kd : Int), f.2.2.1, ()) f = true := (eqD_iff _ _ _ ha).2 hf.symm
    rw [this]; rfl
  · rw [h]; rfl
  · rw [h]; rfl
end Go.Proofs.YtoelheiaohiabaaLf
