/- The laws of the layer frame on torn writes. -/
import Derived.Test.YtoelheiaohiabaaFraG
set_option linter.all false
namespace Go.Proofs.YtoelheiaohiabaaLf
open Go Go.Lift Go.Proofs.YtoelheiaohiabaaPx

theorem torn_drop {s old : List UInt8} {k : Nat} (hs : s.length = 128) (ho : old.length = 128) (hk : k ≤ 128) :
    (s.take k ++ old.drop k).drop 120 = (s.drop 120).take (k - 120) ++ (old.drop 120).drop (k - 120) := by
  have hl : (s.take k).length = k := by rw [List.length_take]; omega
  rw [List.drop_append, hl, List.drop_drop, List.drop_drop, List.drop_take]
  by_cases h : k ≤ 120
  · rw [show k - 120 = 0 by omega, show k + (120 - k) = 120 by omega]
  · rw [show 120 - k = 0 by omega, show k + 0 = k by omega, show 120 + (k - 120) = k by omega]

theorem torn_same {s old : List UInt8} {k : Nat} (hs : s.length = 128) (ho : old.length = 128) (hk : k ≤ 128) (hne : s.drop 120 ≠ old.drop 120) (h : (s.take k ++ old.drop k).drop 120 = s.drop 120) : s.take k ++ old.drop k = s := by
  rw [torn_drop hs ho hk] at h
  by_cases h120 : k ≤ 120
  · rw [show k - 120 = 0 by omega, List.take_zero, List.drop_zero, List.nil_append] at h
    exact absurd h.symm hne
  · have h8 : ((s.drop 120).take (k - 120)).length = k - 120 := by rw [List.length_take, List.length_drop]; omega
    have h2 := congrArg (List.drop (k - 120)) h
    rw [List.drop_append_of_le_length (by omega), List.drop_of_length_le (by omega), List.nil_append, List.drop_drop, List.drop_drop, show 120 + (k - 120) = k by omega] at h2
    rw [h2, List.take_append_drop]

theorem mix {M O : List UInt8} {j : Nat} (hM : M.length = 8) (hO : O.length = 8) (hj : j ≤ 8) (h1 : num M < 9223372036854775808) (h2 : num O < 9223372036854775808) :
    num (M.take j ++ O.drop j) < 9223372036854775808 ∧ (num O ≤ num M → num (M.take j ++ O.drop j) ≤ num M) := by
  have e1 : num M = num (M.take j) + 256 ^ j * num (M.drop j) := by
    have := num_append (M.take j) (M.drop j)
    rw [List.take_append_drop, List.length_take, Nat.min_eq_left (by omega)] at this; exact this
  have e2 : num O = num (O.take j) + 256 ^ j * num (O.drop j) := by
    have := num_append (O.take j) (O.drop j)
    rw [List.take_append_drop, List.length_take, Nat.min_eq_left (by omega)] at this; exact this
  have e3 : num (M.take j ++ O.drop j) = num (M.take j) + 256 ^ j * num (O.drop j) := by
    rw [num_append, List.length_take, Nat.min_eq_left (by omega)]
  have h3 := num_take_lt M j
  have h4 := num_take_lt O j
  have h5 := num_lt (M.drop j)
  have h6 := num_lt (O.drop j)
  rw [List.length_drop, hM] at h5
  rw [List.length_drop, hO] at h6
  rw [e3]
  generalize num (M.take j) = a at *
  generalize num (O.take j) = b at *
  generalize num (M.drop j) = c at *
  generalize num (O.drop j) = d at *
  obtain rfl | rfl | rfl | rfl | rfl | rfl | rfl | rfl | rfl : j = 0 ∨ j = 1 ∨ j = 2 ∨ j = 3 ∨ j = 4 ∨ j = 5 ∨ j = 6 ∨ j = 7 ∨ j = 8 := by omega
  all_goals (simp only [Nat.reducePow, Nat.reduceSub] at *; omega)

theorem tail_eq (N : Nat) {s : List UInt8} (hs : s.length = 128) (hN : 8 < N) : frame_Tail N s = some (cond (decide (num (s.drop 120) < 9223372036854775808)) ((num (s.drop 120) : Int), true, ()) (0, false, ())) := by
  have h8 : (s.drop 120).length = 8 := by rw [List.length_drop]; omega
  have hlt := num_lt (s.drop 120)
  rw [h8] at hlt
  simp only [Nat.reducePow] at hlt
  simp only [frame_Tail]
  rw [cond_f (by rw [hs]; rfl), cond_t (dec_t (by omega)), cut_all, number_eq N h8 hN, Option.bind_some, wrap64]
  by_cases h : num (s.drop 120) < 9223372036854775808
  · have e : ((num (s.drop 120) : Int) + 9223372036854775808) % 18446744073709551616 - 9223372036854775808 = (num (s.drop 120) : Int) := by omega
    rw [e, cond_f (dec_f (by omega)), dec_t h, cond_true]
  · rw [cond_t (dec_t (by omega)), dec_f h, cond_false]

theorem last {s : List UInt8} (hs : s.length = 128) : num (s.drop 120) < 9223372036854775808 ↔ (s.getD 127 0).toNat ≤ 127 := by
  have h8 : (s.drop 120).length = 8 := by rw [List.length_drop]; omega
  have h := num_take_succ (s.drop 120) (show 7 < (s.drop 120).length by omega)
  have h7 := num_take_lt (s.drop 120) 7
  rw [List.take_of_length_le (by omega), getD_drop] at h
  simp only [Nat.reduceAdd, Nat.reducePow] at h h7
  omega

theorem kEq {keep : Int} (h0 : 0 ≤ keep) (h1 : keep ≤ 255) : Int.tmod (IntKind.wrap .i64 keep) 129 = ((keep.toNat % 129 : Nat) : Int) := by
  rw [wrap_in (by unfold I64; omega), Int.tmod_eq_emod_of_nonneg h0]; omega

theorem cut_end {s : List UInt8} {n : Nat} (hs : s.length = n) (i : Nat) : cut s i n = s.drop i := by rw [← hs]; exact cut_all s i

theorem frameTorn_true (k : Nat) {f : Fr} {old : List UInt8} {keep : Int} (h1 : I64 f.1) (hk0 : 0 ≤ keep) (hk1 : keep ≤ 255) : porterlaw42_FrameTorn (k + 200) f old keep = some true := by
  have hw : porterlaw42_works (k + 200) = some true := works_eq (k + 140)
  have hp : frame_Put (k + 200) f = some (putR f) := put_eq (k + 180) h1
  have hg : ∀ s, frame_Get (k + 200) s = _ := get_eq (k + 180)
  have ha : eqAll (T.pair (T.int .i64) (T.pair (T.int .i64) (T.pair T.str T.unit))) = true := rfl
  have hkb : keep.toNat % 129 ≤ 128 := by omega
  simp only [porterlaw42_FrameTorn, porterlaw42_FrameTorn_p1, porterlaw42_FrameTorn_p2, hw, hp, hg, Option.bind_some, kEq hk0 hk1, Int.toNat_natCast, cut_take]
  generalize keep.toNat % 129 = c at *
  by_cases ho : old.length = 128
  case neg => rw [cond_t (by rw [bne_iff_ne]; omega)]
  rw [cond_f (by rw [ho]; rfl)]
  rcases putR_ok h1 with ⟨h0, m, kd, hf, h2, h3, h4, h5, h6⟩ | h | h
  case inr.inl => rw [h]; rfl
  case inr.inr => rw [h]; rfl
  have hbl := blk_length (m := m) (k := kd) h5
  rw [h0, h6]
  generalize hs : blk m kd f.2.2.1 = s at *
  simp only [cut_all]
  rw [hbl, ho]
  by_cases he : s.drop 120 = old.drop 120
  · rw [cond_f (by rfl), cond_f (by rfl), cond_t (dec_t (by omega)), cond_t (dec_t (by omega)), he, beq_self_eq_true (List.drop 120 old)]; rfl
  rw [cond_f (by rfl), cond_f (by rfl), cond_t (dec_t (by omega)), cond_t (dec_t (by omega)), beq_eq_false_iff_ne.2 he, cond_false, cond_t (dec_t (by omega)), cond_t (dec_t (by omega)), cond_t (dec_t (by rw [List.length_take, List.length_drop]; omega))]
  cases hgd : good (s.take c ++ old.drop c) with
  | false => rfl
  | true =>
    simp only [cond_true, Bool.not_true, cond_false]
    by_cases hm : (mkF (s.take c ++ old.drop c)).1 = f.1
    case neg => rw [cond_t (by rw [bne_iff_ne]; exact hm)]
    have hf1 : f.1 = (m : Int) := by rw [hf]
    have hgd2 := hgd
    simp only [good, decide_eq_true_eq] at hgd2
    obtain ⟨tl, t9, _, _, tb⟩ := hgd2
    have tb2 := ((blk_of tl t9).1 tb).1
    have hn : num ((s.take c ++ old.drop c).take 8) = m := by
      rw [hf1] at hm
      have hm2 : ((num ((s.take c ++ old.drop c).take 8) : Nat) : Int) = (m : Int) := hm
      omega
    have ht8 : ((s.take c ++ old.drop c).take 8) = le 8 m := by
      have := le_num ((s.take c ++ old.drop c).take 8)
      rw [hn, List.length_take, Nat.min_eq_left (by omega)] at this
      exact this.symm
    have hsd : s.drop 120 = le 8 m := by rw [← hs]; exact blk_drop120 h5
    have hsame := torn_same hbl ho hkb he (by rw [tb2, ht8, hsd])
    rw [hsame]
    have hgb := good_blk h2 h3 h4 h5
    rw [hs] at hgb
    have hmk : mkF s = f := by rw [hgb.2, ← hf]
    rw [hmk, bne_self_eq_false, cond_false, beq_self_eq_true, cond_true, eqD_self ha, cond_true]

theorem frameRises_true (k : Nat) {f : Fr} {old : List UInt8} {keep : Int} (h1 : I64 f.1) (hk0 : 0 ≤ keep) (hk1 : keep ≤ 255) : porterlaw42_FrameRises (k + 200) f old keep = some true := by
  have hw : porterlaw42_works (k + 200) = some true := works_eq (k + 140)
  have hp : frame_Put (k + 200) f = some (putR f) := put_eq (k + 180) h1
  have hkb : keep.toNat % 129 ≤ 128 := by omega
  simp only [porterlaw42_FrameRises, porterlaw42_FrameRises_p1, porterlaw42_FrameRises_p2, porterlaw42_FrameRises_p3, porterlaw42_FrameRises_p4, hw, hp, Option.bind_some, kEq hk0 hk1, Int.toNat_natCast, cut_take]
  generalize keep.toNat % 129 = c at *
  by_cases ho : old.length = 128
  case neg =>
    rw [cond_t (by rw [bne_iff_ne]; omega), cond_true]
    simp only [frame_Tail]
    rw [cond_t (by rw [bne_iff_ne]; omega)]; rfl
  have htl := tail_eq (k + 200) ho (by omega)
  rw [cond_f (by rw [ho]; rfl), cond_t (inR_of (by omega) (by omega))]
  by_cases h127 : 127 < (old.getD 127 0).toNat
  · rw [cond_t (dec_t (by omega)), htl, dec_f (by rw [last ho]; omega)]; rfl
  have hon : num (old.drop 120) < 9223372036854775808 := (last ho).2 (by omega)
  rw [cond_f (dec_f (by omega))]
  rcases putR_ok h1 with ⟨h0, m, kd, hf, h2, h3, h4, h5, h6⟩ | h | h
  case inr.inl => rw [h]; rfl
  case inr.inr => rw [h]; rfl
  have hbl := blk_length (m := m) (k := kd) h5
  have hsd := blk_drop120 (m := m) (k := kd) h5
  rw [h0, h6]
  generalize hs : blk m kd f.2.2.1 = s at *
  have hf1 : f.1 = (m : Int) := by rw [hf]
  have hsn : num (s.drop 120) = m := by rw [hsd, num_le 8 m (by simp only [Nat.reducePow]; omega)]
  have htn : (s.take c ++ old.drop c).length = 128 := by rw [List.length_append, List.length_take, List.length_drop]; omega
  have h8 : (s.drop 120).length = 8 := by rw [List.length_drop]; omega
  have h8o : (old.drop 120).length = 8 := by rw [List.length_drop]; omega
  have h8t : ((s.take c ++ old.drop c).drop 120).length = 8 := by rw [List.length_drop]; omega
  have hmx := mix (j := c - 120) h8 h8o (by omega) (by omega) hon
  rw [← torn_drop hbl ho hkb, hsn] at hmx
  simp only [cut_all]
  rw [hbl, ho, cond_f (by rfl), cond_f (by rfl), cond_t (dec_t (by omega)), cond_t (dec_t (by omega)), cond_t (dec_t (by rw [List.length_take, List.length_drop]; omega)), tail_eq (k + 200) htn (by omega), htl, dec_t hmx.1, dec_t hon]
  simp only [Option.bind_some, cond_true, porterlaw42_FrameRises_p5, porterlaw42_FrameRises_p6]
  rw [Bool.not_true, cond_false, cond_false, htn, cond_t (dec_t (by omega)), cut_end htn, refNumber_eq _ h8t hmx.1 (by omega), Option.bind_some, bne_self_eq_false, cond_false, ho, cond_t (dec_t (by omega)), cut_end ho, refNumber_eq _ h8o hon (by omega), Option.bind_some, bne_self_eq_false, cond_false, hf1]
  by_cases hgt : m < num (old.drop 120)
  · rw [cond_t (dec_t (by omega))]
  rw [cond_f (dec_f (by omega)), cond_t (dec_t (by have := hmx.2 (by omega); omega))]
  by_cases hte : num ((s.take c ++ old.drop c).drop 120) = m
  case neg => rw [cond_t (by rw [bne_iff_ne]; omega)]
  rw [cond_f (by rw [hte]; exact bne_self_eq_false _)]
  by_cases hwe : num (old.drop 120) = m
  · rw [hwe, beq_self_eq_true]; rfl
  rw [cond_f (by rw [beq_eq_false_iff_ne]; omega)]
  have hsame := torn_same hbl ho hkb (fun e => hwe (by rw [← e]; exact hsn)) (num_inj (by omega) (by rw [hte, hsn]))
  rw [hsame, beq_self_eq_true]; rfl
end Go.Proofs.YtoelheiaohiabaaLf
