/- The layer quote: what stands in quotes is well-formed. -/
import Derived.Test.YtpnjnnhedadjgaaDoorQuoT
set_option linter.all false
namespace Go.Proofs.YtpnjnnhedadjgaaDoorLf
open Go Go.Lift Go.Lib Go.Proofs.YtpnjnnhedadjgaaDoorPx

theorem rl_ascii {q : List UInt8} {i : Nat} (h : (q.getD i 0).toNat < 128) : rl q i = 1 := by rw [rl, if_pos h]

/-- a well-formed unit stays one, wherever it stands -/
theorem rl_same {s q : List UInt8} {i p : Nat} (hi : i < s.length) (hr : 0 < rl s i) (hp : p + unitL s i ≤ q.length) (hb : ∀ j, j < unitL s i → q.getD (p + j) 0 = s.getD (i + j) 0) : rl q p = rl s i ∧ rl s i = unitL s i := by
  have hu := unitL_pos hi
  have e0 : q.getD p 0 = s.getD i 0 := hb 0 (by omega)
  by_cases ha : (s.getD i 0).toNat < 128
  · rw [rl_ascii ha, rl_ascii (by rw [e0]; exact ha), unit_ascii ha]; exact ⟨rfl, rfl⟩
  have hq : rl s i = unitL s i ∧ unitL s i ≠ 1 := by
    rw [rl, if_neg ha] at hr ⊢
    by_cases h1 : unitL s i = 1
    · rw [if_pos h1] at hr; omega
    · rw [if_neg h1]; exact ⟨rfl, h1⟩
  have hs1 := u8_lt (s.getD i 0)
  have hs2 := u8_lt (s.getD (i + 1) 0)
  have hs3 := u8_lt (s.getD (i + 2) 0)
  have hs4 := u8_lt (s.getD (i + 3) 0)
  have hq2 := u8_lt (q.getD (p + 1) 0)
  have hq3 := u8_lt (q.getD (p + 2) 0)
  have hq4 := u8_lt (q.getD (p + 3) 0)
  have cs := rl_cases (n := s.length - i) hs1 hs2 hs3 hs4 (by omega)
  have cq := rl_cases (n := q.length - p) hs1 hq2 hq3 hq4 (by omega)
  have us : unitL s i = (decodeN (s.length - i) (s.getD i 0).toNat (s.getD (i + 1) 0).toNat (s.getD (i + 2) 0).toNat (s.getD (i + 3) 0).toNat).2 := by unfold unitL; rw [rune_N]
  have uq : unitL q p = (decodeN (q.length - p) (s.getD i 0).toNat (q.getD (p + 1) 0).toNat (q.getD (p + 2) 0).toNat (q.getD (p + 3) 0).toNat).2 := by unfold unitL; rw [rune_N, e0]
  rw [← us] at cs
  rw [← uq] at cq
  have key : unitL q p = unitL s i := by
    obtain ⟨s2, s3, s4, s1⟩ := cs
    obtain ⟨q2, q3, q4, q1⟩ := cq
    rcases s1 with h | h | h | h
    · exact absurd h hq.2
    · have b1 := hb 1 (by omega)
      rw [b1] at q2
      have := s2.1 h
      rw [h]; exact q2.2 ⟨this.1, this.2.1, by omega, this.2.2.2⟩
    · have b1 := hb 1 (by omega)
      have b2 := hb 2 (by omega)
      rw [b1, b2] at q3
      have := s3.1 h
      rw [h]; exact q3.2 ⟨this.1, this.2.1, by omega, this.2.2.2⟩
    · have b1 := hb 1 (by omega)
      have b2 := hb 2 (by omega)
      have b3 := hb 3 (by omega)
      rw [b1, b2, b3] at q4
      have := s4.1 h
      rw [h]; exact q4.2 ⟨this.1, this.2.1, by omega, this.2.2.2⟩
  have hqa : ¬ (q.getD p 0).toNat < 128 := by rw [e0]; exact ha
  constructor
  · rw [rl, if_neg hqa, key, if_neg hq.2, hq.1]
  · exact hq.1

theorem textS_length {s : List UInt8} : ∀ (n i : Nat), s.length - i ≤ n → (textS s i).length ≤ 4 * (s.length - i)
  | n, i, h => by
    by_cases hi : i < s.length
    · have hu := unitL_pos hi
      have hp := piece_length hi
      cases n with
      | zero => omega
      | succ n =>
        rw [textS_step hi, List.length_append]
        have := textS_length (s := s) n (i + unitL s i) (by omega)
        omega
    · rw [textS_end (by omega)]; simp

theorem hd_ok : ∀ n, n < 16 → 32 ≤ (hd n).toNat ∧ (hd n).toNat < 127 ∧ (hd n).toNat ≠ 34 ∧ (hd n).toNat ≠ 92 := by decide

/-- one unit of the quoted text, as the law looks at it -/
theorem safe_one (N : Nat) {q : List UInt8} {p n : Nat} {rec : Int → Option Bool} {k0 : Bool → Option Bool} {k1 : Int → Option Bool} (hp : p + 1 < q.length) (hq : q.length ≤ 10000) (hN : 8 < N)
    (hr : 0 < rl q p) (h1 : 32 ≤ (q.getD p 0).toNat) (h2 : (q.getD p 0).toNat ≠ 127) (h3 : (q.getD p 0).toNat ≠ 34) (hn : n = if (q.getD p 0).toNat = 92 then 2 else rl q p) :
    porterlaw10_QuoteSafe_s3 N q (p : Int) rec k0 k1 = rec ((p + n : Nat) : Int) := by
  have hn2 : n ≤ 10 := by
    rw [hn]; split
    · omega
    · rw [rl]; split
      · omega
      · split
        · omega
        · have := rl_cases (n := q.length - p) (u8_lt (q.getD p 0)) (u8_lt (q.getD (p + 1) 0)) (u8_lt (q.getD (p + 2) 0)) (u8_lt (q.getD (p + 3) 0)) (by omega)
          have uq : unitL q p = (decodeN (q.length - p) (q.getD p 0).toNat (q.getD (p + 1) 0).toNat (q.getD (p + 2) 0).toNat (q.getD (p + 3) 0).toNat).2 := by unfold unitL; rw [rune_N]
          rw [← uq] at this
          omega
  simp only [porterlaw10_QuoteSafe_s3, porterlaw10_QuoteSafe_p4, porterlaw10_QuoteSafe_p5, porterlaw10_QuoteSafe_p6]
  rw [wrap_in (x := (q.length : Int) - 1) (by unfold I64; omega), cond_t (dec_t (by omega)), refRune_eq N (by omega) (by omega) hN, Option.bind_some, cond_f (by rw [beq_eq_false_iff_ne]; omega), cond_t (inR_nat (by omega)), Int.toNat_natCast, cond_f (dec_f (by omega)), cond_t (inR_nat (by omega)), cond_f (by rw [beq_eq_false_iff_ne]; omega), cond_t (inR_nat (by omega))]
  have h34 : ((((q.getD p 0).toNat : Nat) : Int) == 34) = false := by rw [beq_eq_false_iff_ne]; omega
  rw [h34, cond_false, cond_t (inR_nat (by omega))]
  by_cases h92 : (q.getD p 0).toNat = 92
  · rw [if_pos h92] at hn
    rw [cond_t (by rw [beq_iff_eq]; omega), hn]
    congr 1
    rw [wrap_in (by unfold I64; omega)]; omega
  · rw [if_neg h92] at hn
    rw [cond_f (by rw [beq_eq_false_iff_ne]; omega), ← hn]
    congr 1
    rw [wrap_in (by unfold I64; omega)]; omega

theorem safe_law (k : Nat) {s : List UInt8} : porterlaw10_QuoteSafe (k + 5000) s = some true := by
  have hw : porterlaw10_works (k + 5000) = some true := works_eq (k + 4940)
  simp only [porterlaw10_QuoteSafe, hw]
  by_cases hs : 500 < s.length
  · rw [cond_t (dec_t (by omega))]; rfl
  rw [cond_f (dec_f (by omega)), text_eq _ (by omega) (by omega), Option.bind_some]
  have htl := textS_length s.length 0 (by omega) (s := s)
  generalize hqd : (34 :: (textS s 0 ++ [34]) : List UInt8) = q
  have hql : q.length = (textS s 0).length + 2 := by rw [← hqd]; simp
  have hlast : q.getD (q.length - 1) 0 = 34 := by
    rw [hql, ← hqd, show (textS s 0).length + 2 - 1 = (textS s 0).length + 1 by omega, List.getD_cons_succ, List.getD_eq_getElem?_getD, List.getElem?_append_right (by omega)]; simp
  have hfirst : q.getD 0 0 = 34 := by rw [← hqd]; rfl
  have hw1 : IntKind.wrap .i64 ((q.length : Int) - 1) = ((q.length - 1 : Nat) : Int) := by rw [wrap_in (by unfold I64; omega)]; omega
  simp only [porterlaw10_QuoteSafe_p1, porterlaw10_QuoteSafe_p2]
  rw [hw1, cond_f (dec_f (by omega)), cond_t (inR_of (by omega) (by omega)), hfirst, cond_f (by rfl), cond_t (inR_nat (by omega)), Int.toNat_natCast, hlast, cond_f (by rfl)]
  simp only [porterlaw10_QuoteSafe_p3]
  -- at a place of the quoted text: what is left is the rest of the text, behind some bytes of a piece that are safe alone
  rw [iter_eq (I := fun (v : Int) => ∃ (p i : Nat) (h : List UInt8), v = (p : Int) ∧ 1 ≤ p ∧ p ≤ q.length ∧ i ≤ s.length ∧ q.drop p = h ++ (textS s i ++ [34]) ∧ h.length ≤ 2 ∧ ∀ x ∈ h, 32 ≤ x.toNat ∧ x.toNat < 127 ∧ x.toNat ≠ 34 ∧ x.toNat ≠ 92) (m := fun v => q.length - v.toNat) (R := fun _ => some true) ?_ (k + 5000) 1 ⟨1, 0, [], rfl, by omega, by omega, by omega, by rw [← hqd]; rfl, by simp, by simp⟩ (by simp; omega)]
  rintro v r ⟨p, i, h, rfl, hp1, hp, hi, hd', hhl, hh⟩ hr
  rw [Int.toNat_natCast] at hr
  have hlen : q.length - p = h.length + ((textS s i).length + 1) := by
    have := congrArg List.length hd'
    rw [List.length_drop, List.length_append, List.length_append] at this; simpa using this
  have hg : ∀ j, q.getD (p + j) 0 = (h ++ (textS s i ++ [34])).getD j 0 := by intro j; rw [← hd', getD_drop8]
  cases h with
  | cons x h' =>
    have hx := hh x (by simp)
    have h0 : q.getD p 0 = x := by have := hg 0; simpa using this
    have hpl : p + 1 < q.length := by simp at hlen; omega
    rw [safe_one (k + 5000) (n := 1) hpl (by omega) (by omega) (by rw [rl_ascii (by rw [h0]; omega)]; omega) (by rw [h0]; omega) (by rw [h0]; omega) (by rw [h0]; omega) (by rw [h0, if_neg hx.2.2.2, rl_ascii (by rw [h0]; omega)])]
    exact hr _ ⟨p + 1, i, h', rfl, by omega, by omega, hi, by rw [← List.drop_drop, hd']; rfl, by simp at hhl; omega, fun y hy => hh y (by simp [hy])⟩ (by rw [Int.toNat_natCast]; omega)
  | nil =>
    rw [List.nil_append] at hd' hg
    simp only [List.length_nil, Nat.zero_add] at hlen
    by_cases hlt : i < s.length
    · have hu := unitL_pos hlt
      have hb := u8_lt (s.getD i 0)
      rw [textS_step hlt, List.append_assoc] at hd' hg
      rw [textS_step hlt, List.length_append] at hlen
      by_cases hesc : ((s.getD i 0).toNat == 34 || (s.getD i 0).toNat == 92) = true
      · have hpc : piece s i = [92, s.getD i 0] := by unfold piece; rw [hesc]; rfl
        rw [hpc] at hd' hg hlen
        have h0 : q.getD p 0 = 92 := by have := hg 0; simpa using this
        rw [safe_one (k + 5000) (n := 2) (by simp at hlen; omega) (by omega) (by omega) (by rw [rl_ascii (by rw [h0]; decide)]; omega) (by rw [h0]; decide) (by rw [h0]; decide) (by rw [h0]; decide) (by rw [h0]; rfl)]
        exact hr _ ⟨p + 2, i + unitL s i, [], rfl, by omega, by simp at hlen; omega, hu.2, by rw [← List.drop_drop, hd']; rfl, by simp, by simp⟩ (by rw [Int.toNat_natCast]; simp at hlen; omega)
      · rw [Bool.not_eq_true] at hesc
        cases hsf : safeL s i with
        | true =>
          have hpc : piece s i = (s.drop i).take (unitL s i) := by unfold piece; rw [hesc, hsf]; rfl
          have hsf' := hsf
          rw [safeL, decide_eq_true_eq] at hsf'
          have hne : (s.getD i 0).toNat ≠ 34 ∧ (s.getD i 0).toNat ≠ 92 := by
            rw [Bool.or_eq_false_iff, beq_eq_false_iff_ne, beq_eq_false_iff_ne] at hesc; exact hesc
          rw [hpc] at hd' hg hlen
          have hpcl : ((s.drop i).take (unitL s i)).length = unitL s i := by rw [List.length_take, List.length_drop]; omega
          rw [hpcl] at hlen
          have hbytes : ∀ j, j < unitL s i → q.getD (p + j) 0 = s.getD (i + j) 0 := by
            intro j hj
            rw [hg j, List.getD_eq_getElem?_getD, List.getElem?_append_left (by rw [hpcl]; exact hj), List.getElem?_take_of_lt hj, List.getElem?_drop, ← List.getD_eq_getElem?_getD]
          have h0 : q.getD p 0 = s.getD i 0 := hbytes 0 (by omega)
          have hsame := rl_same hlt hsf'.1 (by omega) hbytes
          rw [safe_one (k + 5000) (n := unitL s i) (by omega) (by omega) (by omega) (by rw [hsame.1]; exact hsf'.1) (by rw [h0]; exact hsf'.2.1) (by rw [h0]; exact hsf'.2.2) (by rw [h0]; exact hne.1) (by rw [h0, if_neg hne.2, hsame.1, hsame.2])]
          refine hr _ ⟨p + unitL s i, i + unitL s i, [], rfl, by omega, by omega, hu.2, ?_, by simp, by simp⟩ (by rw [Int.toNat_natCast]; omega)
          rw [← List.drop_drop, hd', List.drop_append_of_le_length (by omega), List.drop_of_length_le (by omega)]
        | false =>
          have hpc : piece s i = [92, 120, hd ((s.getD i 0).toNat / 16), hd ((s.getD i 0).toNat % 16)] := by unfold piece; rw [hesc, hsf]; rfl
          rw [hpc] at hd' hg hlen
          have h0 : q.getD p 0 = 92 := by have := hg 0; simpa using this
          rw [safe_one (k + 5000) (n := 2) (by simp at hlen; omega) (by omega) (by omega) (by rw [rl_ascii (by rw [h0]; decide)]; omega) (by rw [h0]; decide) (by rw [h0]; decide) (by rw [h0]; decide) (by rw [h0]; rfl)]
          refine hr _ ⟨p + 2, i + unitL s i, [hd ((s.getD i 0).toNat / 16), hd ((s.getD i 0).toNat % 16)], rfl, by omega, by simp at hlen; omega, hu.2, by rw [← List.drop_drop, hd']; rfl, by simp, ?_⟩ (by rw [Int.toNat_natCast]; simp at hlen; omega)
          intro x hx
          simp only [List.mem_cons, List.mem_nil_iff, or_false] at hx
          rcases hx with rfl | rfl
          · exact hd_ok _ (by omega)
          · exact hd_ok _ (by omega)
    · rw [textS_end (by omega)] at hlen
      have hpe : p = q.length - 1 := by simp at hlen; omega
      simp only [porterlaw10_QuoteSafe_s3]
      rw [hw1, cond_f (dec_f (by omega)), cond_t (by rw [beq_iff_eq]; omega)]; rfl
end Go.Proofs.YtpnjnnhedadjgaaDoorLf
