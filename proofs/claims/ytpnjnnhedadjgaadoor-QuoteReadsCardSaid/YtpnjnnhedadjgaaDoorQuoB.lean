/- The layer quote: what was written in quotes is read again. -/
import Derived.Test.YtpnjnnhedadjgaaDoorQuoS
set_option linter.all false
namespace Go.Proofs.YtpnjnnhedadjgaaDoorLf
open Go Go.Lift Go.Lib Go.Proofs.YtpnjnnhedadjgaaDoorPx

theorem dig_hd16 (N : Nat) : ∀ m, m < 16 → quote_digit N (((hd m).toNat : Nat) : Int) = some ((m : Int), true, ()) := by
  intro m hm
  obtain rfl | rfl | rfl | rfl | rfl | rfl | rfl | rfl | rfl | rfl | rfl | rfl | rfl | rfl | rfl | rfl : m = 0 ∨ m = 1 ∨ m = 2 ∨ m = 3 ∨ m = 4 ∨ m = 5 ∨ m = 6 ∨ m = 7 ∨ m = 8 ∨ m = 9 ∨ m = 10 ∨ m = 11 ∨ m = 12 ∨ m = 13 ∨ m = 14 ∨ m = 15 := by omega
  all_goals kernel_rfl

theorem nib : ∀ a b : Fin 16, bitsOp .or .u8 (shlI .u8 (bitsOp .or .u8 (shlI .u8 (0 : Int) 4) (a.1 : Int)) 4) (b.1 : Int) = ((16 * a.1 + b.1 : Nat) : Int) := by decide +kernel

theorem iter_succ {σ β : Type} (step : σ → (σ → Option β) → Option β) (n : Nat) (x : σ) : iter step (n + 1) x = step x (iter step n) := rfl

theorem esc1 (N : Nat) {c : UInt8} {r : List UInt8} (h : c.toNat = 34 ∨ c.toNat = 92) : quote_escape N (c :: r) = some (((c.toNat : Nat) : Int), 1, 0, ()) := by
  have hne : ((c :: r) == ([] : List UInt8)) = false := rfl
  simp only [quote_escape, quote_escape_p1, quote_escape_p2, hne, cond_false, List.getD_cons_zero]
  have hin : inR (0 : Int) (c :: r).length = true := inR_of (by omega) (by simp)
  simp only [hin, cond_true]
  rcases h with h | h
  · rw [cond_t (by rw [beq_iff_eq]; omega)]
  · rw [cond_f (by rw [beq_eq_false_iff_ne]; omega), cond_t (by rw [beq_iff_eq]; omega)]

theorem esc3 (k : Nat) {n : Nat} {r : List UInt8} (hn : n < 256) : quote_escape (k + 10) (120 :: hd (n / 16) :: hd (n % 16) :: r) = some ((n : Int), 3, 0, ()) := by
  have hne : ((120 :: hd (n / 16) :: hd (n % 16) :: r) == ([] : List UInt8)) = false := rfl
  have hl : ((120 :: hd (n / 16) :: hd (n % 16) :: r) : List UInt8).length = r.length + 3 := rfl
  have hb := nib ⟨n / 16, by omega⟩ ⟨n % 16, by omega⟩
  dsimp only at hb
  rw [show 16 * (n / 16) + n % 16 = n by omega] at hb
  have g1 : List.getD (120 :: hd (n / 16) :: hd (n % 16) :: r) (Int.toNat 1) 0 = hd (n / 16) := rfl
  have g2 : List.getD (120 :: hd (n / 16) :: hd (n % 16) :: r) (Int.toNat 2) 0 = hd (n % 16) := rfl
  have w1 : IntKind.wrap .i64 ((1 : Int) + 1) = 2 := by kernel_rfl
  have w2 : IntKind.wrap .i64 ((2 : Int) + 1) = 3 := by kernel_rfl
  simp only [quote_escape, quote_escape_p1, quote_escape_p2, hne, cond_false, List.getD_cons_zero, hl]
  have hin : inR (0 : Int) (r.length + 3) = true := inR_of (by omega) (by omega)
  simp only [hin, cond_true]
  rw [cond_f (by rfl), cond_f (by rfl), cond_f (by rfl)]
  simp only [quote_escape_p3]
  rw [show k + 10 = (k + 9) + 1 from rfl, iter_succ]
  simp only [quote_escape_s3, hl, g1]
  rw [cond_t (by rfl), cond_f (by rw [beq_eq_false_iff_ne]; omega), cond_t (inR_of (by omega) (by omega)), dig_hd16 _ _ (by omega), Option.bind_some, Bool.not_true, cond_false, w1]
  rw [show k + 9 = (k + 8) + 1 from rfl, iter_succ]
  simp only [hl, g2]
  rw [cond_t (by rfl), cond_f (by rw [beq_eq_false_iff_ne]; omega), cond_t (inR_of (by omega) (by omega)), dig_hd16 _ _ (by omega), Option.bind_some, Bool.not_true, cond_false, w2, hb]
  rw [show k + 8 = (k + 7) + 1 from rfl, iter_succ]
  simp only []
  rw [cond_f (by rfl)]

theorem rune_drop (X : List UInt8) (F i : Nat) : runeAt (X.drop F) i = runeAt X (F + i) := by
  rw [rune_N, rune_N, getD_drop8, getD_drop8, getD_drop8, getD_drop8, List.length_drop, show X.length - F - i = X.length - (F + i) by omega]
  rfl

theorem unsafe_unit {s : List UInt8} {i : Nat} (h : safeL s i = false) : unitL s i = 1 := by
  by_cases ha : (s.getD i 0).toNat < 128
  · exact unit_ascii ha
  · rcases Nat.lt_or_ge 1 (unitL s i) with h1 | h1
    · have : safeL s i = true := dec_t ⟨by rw [rl, if_neg ha, if_neg (by omega)]; omega, by omega, by omega⟩
      rw [this] at h; cases h
    · rcases Nat.lt_or_ge i s.length with hi | hi
      · have := unitL_pos hi; omega
      · exfalso; rw [List.getD_eq_getElem?_getD, List.getElem?_eq_none hi] at ha; exact ha (by decide)

theorem take_add' (s : List UInt8) (i n : Nat) : ofStr (s.take i) ++ ofStr ((s.drop i).take n) = ofStr (s.take (i + n)) := by
  rw [← ofStr_append, List.take_add]
theorem take_one (s : List UInt8) {i : Nat} (h : i < s.length) : ofStr (s.take i) ++ [(((s.getD i 0).toNat : Nat) : Int)] = ofStr (s.take (i + 1)) := by
  rw [take_succ s 0 i h, ofStr_append]; rfl

theorem body_eq (k : Nat) {s a b X : List UInt8} {F : Nat} (hs : s.length ≤ 1000) (hX : X.length ≤ 20000) (hF : F ≤ X.length) (hd0 : X.drop F = textS s 0 ++ 34 :: b) :
    quote_body (k + 30000) X (F : Int) = some (s, ((F + (textS s 0).length + 1 : Nat) : Int), (0, 0, ()), ()) := by
  have hul : (X.drop F).length = X.length - F := List.length_drop ..
  have hul2 : X.length - F = (textS s 0).length + (b.length + 1) := by rw [← hul, hd0, List.length_append]; rfl
  simp only [quote_body, quote_body_p1]
  rw [cond_t (dec_t (by omega)), Int.toNat_natCast, cut_all]
  rw [iter_eq (I := fun (v : List Int × Int × (List UInt8 × Nat)) => ∃ (idx i nx : Nat) (h : List UInt8), v = (ofStr (s.take i), (nx : Int), (X.drop F, idx)) ∧ i ≤ s.length ∧ idx ≤ X.length - F ∧ (X.drop F).drop idx = h ++ (textS s i ++ 34 :: b) ∧ (∀ x ∈ h, x.toNat < 128) ∧ (h = [] → nx ≤ F + idx) ∧ (h ≠ [] → nx = F + idx + h.length)) (m := fun v => X.length - F - v.2.2.2) (R := fun _ => some (s, ((F + (textS s 0).length + 1 : Nat) : Int), (0, 0, ()), ())) ?_ (k + 30000) ([], (F : Int), (X.drop F, 0)) ⟨0, 0, F, [], rfl, by omega, by omega, hd0, by simp, fun _ => by omega, fun h => absurd rfl h⟩ (by dsimp only; omega)]
  rintro v r ⟨idx, i, nx, h, rfl, hi, hix, hd', hh, hn0, hn1⟩ hr
  dsimp only at hr ⊢
  have hlen : X.length - F - idx = h.length + ((textS s i).length + (b.length + 1)) := by
    have := congrArg List.length hd'
    rw [List.length_drop, hul, List.length_append, List.length_append] at this; exact this
  have hidx : idx < (X.drop F).length := by omega
  have hg : ∀ j, (X.drop F).getD (idx + j) 0 = (h ++ (textS s i ++ 34 :: b)).getD j 0 := by intro j; rw [← hd', getD_drop8 (X.drop F) idx j]
  have hg2 : ∀ j, X.getD (F + idx + j) 0 = (h ++ (textS s i ++ 34 :: b)).getD j 0 := by intro j; rw [← hg j, getD_drop8, Nat.add_assoc]
  have hw : IntKind.wrap .i64 ((idx : Int) + (F : Int)) = ((F + idx : Nat) : Int) := by rw [wrap_in (by unfold I64; omega)]; omega
  have hw1 : IntKind.wrap .i64 (((F + idx : Nat) : Int) + 1) = ((F + idx + 1 : Nat) : Int) := wrap_succ (by omega)
  have hti : (s.take i).length ≤ 1000 := by rw [List.length_take]; omega
  simp only [quote_body_s1, hw, hw1]
  rw [cond_t (dec_t hidx)]
  cases h with
  | cons x h' =>
    have h0 : (X.drop F).getD idx 0 = x := by have := hg 0; simpa using this
    have hx := hh x (by simp)
    have := hn1 (by simp)
    rw [cond_t (dec_t (by simp at this; omega)), rune_ascii (by rw [h0]; exact hx)]
    refine hr _ ⟨idx + 1, i, nx, h', rfl, hi, by omega, by rw [← List.drop_drop, hd']; rfl, fun y hy => hh y (by simp [hy]), fun e => ?_, fun e => ?_⟩ (by dsimp only; omega)
    · subst e; simp at this; omega
    · simp at this; omega
  | nil =>
    have hnx := hn0 rfl
    rw [List.nil_append] at hd' hg hg2
    rw [cond_f (dec_f (by omega))]
    by_cases hlt : i < s.length
    · have hu := unitL_pos hlt
      have hb := u8_lt (s.getD i 0)
      rw [textS_step hlt, List.append_assoc] at hd' hg hg2
      rw [textS_step hlt, List.length_append] at hlen
      have hcut : ∀ (p r' : List UInt8), piece s i = 92 :: p → (X.drop F).getD idx 0 = 92 ∧ cut X (F + idx + 1) X.length = p ++ (textS s (i + unitL s i) ++ 34 :: b) := by
        intro p r' hp
        rw [hp] at hd' hg
        refine ⟨by have := hg 0; simpa using this, ?_⟩
        rw [cut_all, show F + idx + 1 = F + (idx + 1) by omega, ← List.drop_drop, ← List.drop_drop, hd']; rfl
      by_cases hesc : ((s.getD i 0).toNat == 34 || (s.getD i 0).toNat == 92) = true
      · have hpc : piece s i = [92, s.getD i 0] := by unfold piece; rw [hesc]; rfl
        obtain ⟨h0, hc⟩ := hcut [s.getD i 0] [] hpc
        have hq : (s.getD i 0).toNat = 34 ∨ (s.getD i 0).toNat = 92 := by simpa using hesc
        have hu1 : unitL s i = 1 := unit_ascii (by omega)
        rw [hpc] at hlen hd'
        rw [rune_ascii (by rw [h0]; decide), h0, cond_f (by rfl), cond_t (by rfl), cond_t (dec_t (by simp at hlen; omega)), Int.toNat_natCast, hc, List.cons_append, esc1 _ hq, Option.bind_some, cond_f (by rfl), cond_f (by rfl), cond_t (dec_t (by rw [ofStr_length]; omega)), take_one s hlt]
        refine hr _ ⟨idx + 1, i + 1, F + idx + 2, [s.getD i 0], ?_, by omega, by simp at hlen; omega, by rw [← List.drop_drop, hd', hu1]; rfl, ?_, fun e => (by cases e), fun _ => rfl⟩ (by dsimp only; simp at hlen; omega)
        · dsimp only
          rw [wrap_in (by unfold I64; omega)]
          congr 2
        · intro y hy; rw [List.mem_singleton] at hy; rw [hy]; omega
      · rw [Bool.not_eq_true] at hesc
        cases hsf : safeL s i with
        | true =>
          have hpc : piece s i = (s.drop i).take (unitL s i) := by unfold piece; rw [hesc, hsf]; rfl
          have hsf' := hsf
          rw [safeL, decide_eq_true_eq] at hsf'
          have hne : (s.getD i 0).toNat ≠ 34 ∧ (s.getD i 0).toNat ≠ 92 := by
            rw [Bool.or_eq_false_iff, beq_eq_false_iff_ne, beq_eq_false_iff_ne] at hesc; exact hesc
          have hpcl : ((s.drop i).take (unitL s i)).length = unitL s i := by rw [List.length_take, List.length_drop]; omega
          rw [hpc] at hd' hg2 hlen
          rw [hpcl] at hlen
          have hbytes : ∀ j, j < unitL s i → X.getD (F + idx + j) 0 = s.getD (i + j) 0 := by
            intro j hj
            rw [hg2 j, List.getD_eq_getElem?_getD, List.getElem?_append_left (by rw [hpcl]; exact hj), List.getElem?_take_of_lt hj, List.getElem?_drop, ← List.getD_eq_getElem?_getD]
          have h0 : X.getD (F + idx) 0 = s.getD i 0 := hbytes 0 (by omega)
          have hsame := rl_same (q := X) (p := F + idx) hlt hsf'.1 (by omega) hbytes
          have hself := rl_same (s := X) (q := X) (i := F + idx) (p := F + idx) (by omega) (by rw [hsame.1]; exact hsf'.1) (by have := unitL_pos (s := X) (i := F + idx) (by omega); omega) (fun j _ => rfl)
          have hux : unitL X (F + idx) = unitL s i := by rw [← hself.2, hsame.1, hsame.2]
          have hsx : safeL X (F + idx) = true := dec_t ⟨by rw [hsame.1]; exact hsf'.1, by rw [h0]; exact hsf'.2.1, by rw [h0]; exact hsf'.2.2⟩
          have hrx : (runeAt (X.drop F) idx).2 = unitL s i := by rw [rune_drop]; exact hux
          have hru : (runeAt X (F + idx)).1 ≠ 34 ∧ (runeAt X (F + idx)).1 ≠ 92 := by
            by_cases hasc : (X.getD (F + idx) 0).toNat < 128
            · rw [rune_ascii hasc, h0]; exact hne
            · have := (rune_high (s := X) (i := F + idx) (by omega) (by omega)).1; omega
          have hcm : cut X (F + idx) (F + idx + unitL s i) = (s.drop i).take (unitL s i) := by
            rw [cut_mid, ← List.drop_drop, hd', List.take_append_of_le_length (by omega), List.take_of_length_le (by omega)]
          have hw2 : IntKind.wrap .i64 (((F + idx : Nat) : Int) + ((unitL s i : Nat) : Int)) = ((F + idx + unitL s i : Nat) : Int) := by rw [wrap_in (by unfold I64; omega)]; omega
          rw [hrx, rune_drop, cond_f (by rw [beq_eq_false_iff_ne]; omega), cond_f (by rw [beq_eq_false_iff_ne]; omega), plain_eq _ (by omega), Option.bind_some, hsx, cond_true, unit_eq _ (by omega), Option.bind_some, hux, hw2, cond_t (dec_t (by omega)), cond_t (dec_t (by omega)), Int.toNat_natCast, Int.toNat_natCast, hcm, cond_t (dec_t (by rw [ofStr_length, ofStr_length, hpcl]; omega)), take_add']
          refine hr _ ⟨idx + unitL s i, i + unitL s i, nx, [], rfl, hu.2, by omega, ?_, by simp, fun _ => by omega, fun e => absurd rfl e⟩ (by dsimp only; omega)
          rw [← List.drop_drop, hd', List.drop_append_of_le_length (by omega), List.drop_of_length_le (by omega)]
        | false =>
          have hpc : piece s i = [92, 120, hd ((s.getD i 0).toNat / 16), hd ((s.getD i 0).toNat % 16)] := by unfold piece; rw [hesc, hsf]; rfl
          obtain ⟨h0, hc⟩ := hcut [120, hd ((s.getD i 0).toNat / 16), hd ((s.getD i 0).toNat % 16)] [] hpc
          have hu1 : unitL s i = 1 := unsafe_unit hsf
          have he3 := esc3 (k + 29990) (n := (s.getD i 0).toNat) (r := textS s (i + unitL s i) ++ 34 :: b) hb
          rw [hpc] at hlen hd'
          rw [rune_ascii (by rw [h0]; decide), h0, cond_f (by rfl), cond_t (by rfl), cond_t (dec_t (by simp at hlen; omega)), Int.toNat_natCast, hc, List.cons_append, List.cons_append, List.cons_append, List.nil_append]
          rw [show k + 29990 + 10 = k + 30000 from rfl] at he3
          rw [he3, Option.bind_some, cond_f (by rfl), cond_f (by rfl), cond_t (dec_t (by rw [ofStr_length]; omega)), take_one s hlt]
          refine hr _ ⟨idx + 1, i + 1, F + idx + 4, [120, hd ((s.getD i 0).toNat / 16), hd ((s.getD i 0).toNat % 16)], ?_, by omega, by simp at hlen; omega, by rw [← List.drop_drop, hd', hu1]; rfl, ?_, fun e => (by cases e), fun _ => rfl⟩ (by dsimp only; simp at hlen; omega)
          · dsimp only
            rw [wrap_in (by unfold I64; omega)]
            congr 2
          · intro y hy
            simp only [List.mem_cons, List.mem_nil_iff, or_false] at hy
            have k1 := hd_ok ((s.getD i 0).toNat / 16) (by omega)
            have k2 := hd_ok ((s.getD i 0).toNat % 16) (by omega)
            rcases hy with rfl | rfl | rfl
            · decide
            · omega
            · omega
    · have hie : i = s.length := by omega
      rw [textS_end (by omega)] at hd' hg hlen
      have h0 : (X.drop F).getD idx 0 = 34 := by have := hg 0; simpa using this
      rw [rune_ascii (by rw [h0]; decide), h0, cond_t (by rfl), toStr_ofStr, hie, List.take_length]
      simp at hlen
      rw [show F + idx + 1 = F + (textS s 0).length + 1 by omega]

theorem back_law (k : Nat) {a s b : List UInt8} : porterlaw10_QuoteBack (k + 30000) a s b = some true := by
  have hw : porterlaw10_works (k + 30000) = some true := works_eq (k + 29940)
  simp only [porterlaw10_QuoteBack, porterlaw10_QuoteBack_p1, porterlaw10_QuoteBack_p2, hw]
  by_cases ha : 100 < a.length
  · rw [cond_t (dec_t (by omega))]; rfl
  rw [cond_f (dec_f (by omega))]
  by_cases hs : 500 < s.length
  · rw [cond_t (dec_t (by omega))]; rfl
  rw [cond_f (dec_f (by omega))]
  by_cases hb : 100 < b.length
  · rw [cond_t (dec_t (by omega))]; rfl
  rw [cond_f (dec_f (by omega)), text_eq _ (by omega) (by omega), Option.bind_some]
  have htl := textS_length s.length 0 (by omega) (s := s)
  generalize hX : a ++ (34 :: (textS s 0 ++ [34])) ++ b = X
  have hXl : X.length = a.length + ((textS s 0).length + 2) + b.length := by rw [← hX]; simp; omega
  have h34 : X.getD a.length 0 = 34 := by
    rw [← hX, List.append_assoc, List.getD_eq_getElem?_getD, List.getElem?_append_right (by omega), Nat.sub_self]; rfl
  have hdr : X.drop (a.length + 1) = textS s 0 ++ 34 :: b := by
    rw [← hX, List.append_assoc, ← List.drop_drop, List.drop_append_of_le_length (by omega), List.drop_length]; simp
  have hw1 : IntKind.wrap .i64 ((a.length : Int) + 1) = ((a.length + 1 : Nat) : Int) := wrap_succ (by omega)
  have hbd := body_eq (a := a) k (F := a.length + 1) (by omega) (by omega) (by omega) hdr
  have hread : quote_Read (k + 30000) X (a.length : Int) = some (s, ((a.length + 1 + (textS s 0).length + 1 : Nat) : Int), (0, 0, ()), ()) := by
    simp only [quote_Read, quote_Read_p1, quote_Read_p2]
    rw [cond_f (dec_f (by omega)), cond_f (dec_f (by omega)), cond_f (by rw [beq_eq_false_iff_ne]; omega), cond_t (inR_nat (by omega)), Int.toNat_natCast, h34, cond_f (by rfl), hw1, hbd]; rfl
  rw [cond_t (dec_t (by simp; omega)), cond_t (dec_t (by simp; omega)), hread, Option.bind_some, beq_self_eq_true, cond_true]
  rw [cond_t (by rw [beq_iff_eq, wrap_in (by unfold I64; simp; omega)]; simp; omega)]
  rfl
end Go.Proofs.YtpnjnnhedadjgaaDoorLf
