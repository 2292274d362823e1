/- Layer 6: the laws on opening. -/
import Derived.Test.YtkccmmbomlpgnaaDoorLgBoxF
set_option linter.all false
set_option maxRecDepth 100000
namespace Go.Proofs.YtkccmmbomlpgnaaDoorLg
open Go Go.Lift Go.Proofs.YtkccmmbomlpgnaaDoorPx

theorem nonce_eq (N : Nat) (s : List UInt8) : box_Nonce N s = some (if s.length < 16 then [] else s.take 16) := by
  unfold box_Nonce
  by_cases h : s.length < 16
  · rw [cond_t (dec_t (by omega)), if_pos h]
  · rw [cond_f (dec_f (by omega)), cond_t (dec_t (by omega)), cut_take, if_neg h]

/-- what opening gives, in all lengths -/
theorem open_any (k : Nat) {key s : List UInt8} (hk : 2200 ≤ k) (hl : key.length ≤ 30000) (h2 : s.length ≤ 2000 ∨ 4144 < s.length) : ∃ y, box_Open (k + 100) key s = some y ∧ porterref06_Open (k + 100) key s = some y ∧ (y.2.1 = 0 ∨ y.1 = []) := by
  by_cases h1 : s.length < 48
  · obtain ⟨a, b⟩ := open_short (k + 100) (key := key) h1
    exact ⟨_, a, b, .inr rfl⟩
  by_cases h3 : 4144 < s.length
  · obtain ⟨a, b⟩ := open_long (k + 100) (key := key) h3
    exact ⟨_, a, b, .inr rfl⟩
  · refine ⟨_, open_eq k hk hl (by omega) (by omega), refOpen_eq k hk hl (by omega) (by omega), ?_⟩
    cases fits (k + 100) key s
    · exact .inr rfl
    · exact .inl rfl

theorem fits_seal (k : Nat) {key nonce text : List UInt8} (hk : 2200 ≤ k) (hl : key.length ≤ 30000) (hn : nonce.length = 16) (ht : text.length ≤ 1900) :
    fits (k + 100) key (sealL (k + 100) key nonce text) = true ∧ openT (k + 100) key (sealL (k + 100) key nonce text) = text := by
  have h1 := bodyL_length k (key := key) (nonce := nonce) (text := text) (by omega) hl hn
  have h2 := sealL_length k (key := key) (nonce := nonce) (text := text) (by omega) hl hn (by omega)
  have e1 : (sealL (k + 100) key nonce text).take ((sealL (k + 100) key nonce text).length - 32) = bodyL (k + 100) key nonce text := by
    rw [h2]
    unfold sealL
    rw [List.take_append_of_le_length (by omega), List.take_of_length_le (by omega)]
  have e2 : (sealL (k + 100) key nonce text).drop ((sealL (k + 100) key nonce text).length - 32) = boxTag (k + 100) key (bodyL (k + 100) key nonce text) := by
    rw [h2]
    unfold sealL
    rw [List.drop_append_of_le_length (by omega), List.drop_of_length_le (by omega)]; rfl
  have e3 : (sealL (k + 100) key nonce text).take 16 = nonce := by
    unfold sealL bodyL
    rw [List.append_assoc, List.take_append_of_le_length (by omega), List.take_of_length_le (by omega)]
  constructor
  · unfold fits
    rw [e1, e2, beq_self_eq_true]
  · unfold openT
    rw [e1, e3]
    have : (bodyL (k + 100) key nonce text).drop 16 = hidden (k + 100) key nonce text := by
      unfold bodyL
      rw [List.drop_append_of_le_length (by omega), List.drop_of_length_le (by omega)]; rfl
    rw [this, hidden_back k (by omega) hl (by omega)]

theorem opens_law {k : Nat} {key s : List UInt8} (hk : 2200 ≤ k) (hw : porterlaw06_works (k + 100) = some true) : porterlaw06_BoxOpens (k + 100) key s = some true := by
  unfold porterlaw06_BoxOpens porterlaw06_BoxOpens_p1 porterlaw06_BoxOpens_p2
  rw [hw]
  by_cases h1 : 100 < key.length
  · rw [cond_t (dec_t (by omega))]; rfl
  rw [cond_f (dec_f (by omega))]
  by_cases hbig : 300 < s.length ∧ s.length ≤ 4144
  · rw [cond_t (dec_t (by omega)), cond_t (dec_t (by omega))]; rfl
  obtain ⟨y, ha, hb, _⟩ := open_any k (key := key) (s := s) hk (by omega) (by omega)
  rw [ha, hb, nonce_eq]
  by_cases h3 : 300 < s.length
  · rw [cond_t (dec_t (by omega)), cond_f (dec_f (by omega))]
    cases decide ((4300 : Int) < (((List.length s) : Nat) : Int)) with
    | true => rfl
    | false =>
      dsimp only
      rw [cond_false, Option.bind_some, Option.bind_some, Option.bind_some, beq_self_eq_true, cond_true, beq_self_eq_true, cond_true]
      by_cases h16 : s.length < 16
      · rw [if_pos h16, cond_t (dec_t (by omega))]; rfl
      · rw [if_neg h16, cond_f (dec_f (by omega)), cond_t (dec_t (by omega)), cond_t (dec_t (by omega)), cut_take, beq_self_eq_true]; rfl
  · rw [cond_f (dec_f (by omega))]
    cases decide ((4300 : Int) < (((List.length s) : Nat) : Int)) with
    | true => rfl
    | false =>
      dsimp only
      rw [cond_false, Option.bind_some, Option.bind_some, Option.bind_some, beq_self_eq_true, cond_true, beq_self_eq_true, cond_true]
      by_cases h16 : s.length < 16
      · rw [if_pos h16, cond_t (dec_t (by omega))]; rfl
      · rw [if_neg h16, cond_f (dec_f (by omega)), cond_t (dec_t (by omega)), cond_t (dec_t (by omega)), cut_take, beq_self_eq_true]; rfl

theorem nonceX_length : ([48, 49, 50, 51, 52, 53, 54, 55, 56, 57, 97, 98, 99, 100, 101, 102] : List UInt8).length = 16 := rfl

theorem back_law {k : Nat} {key text s : List UInt8} (hk : 2200 ≤ k) (hw : porterlaw06_works (k + 100) = some true) : porterlaw06_BoxBack (k + 100) key text s = some true := by
  unfold porterlaw06_BoxBack porterlaw06_BoxBack_p1 porterlaw06_BoxBack_p2
  rw [hw]
  by_cases h1 : 100 < key.length
  · rw [cond_t (dec_t (by omega))]; rfl
  rw [cond_f (dec_f (by omega))]
  by_cases h2 : 500 < text.length
  · rw [cond_t (dec_t (by omega))]; rfl
  rw [cond_f (dec_f (by omega))]
  by_cases h3 : 500 < s.length
  · rw [show decide ((500 : Int) < (((List.length s) : Nat) : Int)) = true from dec_t (by omega)]; rfl
  rw [show decide ((500 : Int) < (((List.length s) : Nat) : Int)) = false from dec_f (by omega)]
  dsimp only
  have hsl := sealL_length k (key := key) (nonce := [48, 49, 50, 51, 52, 53, 54, 55, 56, 57, 97, 98, 99, 100, 101, 102]) (text := text) (by omega) (by omega) nonceX_length (by omega)
  obtain ⟨f1, f2⟩ := fits_seal k (key := key) (nonce := [48, 49, 50, 51, 52, 53, 54, 55, 56, 57, 97, 98, 99, 100, 101, 102]) (text := text) hk (by omega) nonceX_length (by omega)
  rw [cond_false, seal_eq k hk (by omega) nonceX_length (by omega), Option.bind_some]
  dsimp only
  rw [open_eq k hk (by omega) (by omega) (by omega), f1, cond_true, Option.bind_some, f2]
  unfold porterlaw06_BoxBack_p3 porterlaw06_BoxBack_p4
  have hwl : IntKind.wrap .i64 ((text.length : Int) + 48) = ((48 + text.length : Nat) : Int) := by rw [wrap_in (by unfold I64; omega)]; omega
  dsimp only
  rw [bne_self_eq_false, cond_false, beq_self_eq_true, Bool.not_true, cond_false, hwl, hsl, bne_self_eq_false, cond_false]
  by_cases g1 : s.length < 48
  · rw [(open_short (k + 100) (key := key) g1).1]; rfl
  rw [open_eq k hk (by omega) (by omega) (by omega), Option.bind_some]
  cases hf : fits (k + 100) key s with
  | false => rfl
  | true =>
    rw [cond_true]
    dsimp only
    have ho := openT_length k (key := key) (s := s) (by omega) (by omega) (by omega)
    rw [bne_self_eq_false, nonce_eq, if_neg (by omega)]
    simp only [cond_false, Option.bind_some]
    rw [seal_eq k hk (by omega) (by rw [List.length_take]; omega) (by omega)]
    simp only [Option.bind_some, beq_self_eq_true, cond_true]
    rw [again_fits k hk (by omega) (by omega) (by omega), hf]; rfl

theorem refBoxTexts (k : Nat) {key s : List UInt8} (hk : 2200 ≤ k) (hl : key.length ≤ 30000) (h1 : 48 ≤ s.length) (h2 : s.length ≤ 2000) : porterref06_Texts (k + 100) key s = some (textsL (k + 100) key (frameL [[116, 97, 103]]) ++ textsL (k + 100) (tagK (k + 100) key) (s.take (s.length - 32))) := by
  have h4 := tagK_length k (key := key) (by omega) hl
  have h5 : (s.take (s.length - 32)).length ≤ 2000 := by rw [List.length_take]; omega
  unfold porterref06_Texts porterref06_Texts_p1 porterref06_Texts_p2
  rw [cond_f (dec_f (by omega)), show decide ((4144 : Int) < (((List.length s) : Nat) : Int)) = false from dec_f (by omega)]
  dsimp only
  rw [cond_false, refFrameN k (by simp) (by rw [tagFrame]; omega), Option.bind_some, texts_eq k (by omega) hl (by rw [tagFrame]; omega), Option.bind_some, refParts_eq k (by omega) hl (by simp) (by rw [tagFrame]; omega), Option.bind_some, wlen h1 (by omega), cond_t (dec_t (by omega)), Int.toNat_natCast, cut_take]
  show ((porterref04_Texts (k + 100) (tagK (k + 100) key) (s.take (s.length - 32))).bind _) = _
  rw [texts_eq k (by omega) (by omega) (by omega), Option.bind_some, cond_t (by rfl)]
  rfl

theorem other_law {k : Nat} {key m text : List UInt8} (hk : 2200 ≤ k) (hw : porterlaw06_works (k + 100) = some true) : porterlaw06_BoxOther (k + 100) key m text = some true := by
  unfold porterlaw06_BoxOther porterlaw06_BoxOther_p1 porterlaw06_BoxOther_p2
  rw [hw]
  by_cases h1 : ¬ key.length = 32
  · rw [cond_t (by rw [bne_iff_ne]; omega)]; rfl
  replace h1 := Classical.not_not.1 h1
  rw [cond_f (by simp [h1])]
  by_cases h2 : ¬ m.length = 32
  · rw [cond_t (by rw [bne_iff_ne]; omega)]; rfl
  replace h2 := Classical.not_not.1 h2
  rw [cond_f (by simp [h2])]
  by_cases h3 : key = m
  · rw [cond_t (by simpa using h3)]; rfl
  rw [cond_f (by simpa using h3)]
  by_cases h4 : 500 < text.length
  · rw [show decide ((500 : Int) < (((List.length text) : Nat) : Int)) = true from dec_t (by omega)]; rfl
  rw [show decide ((500 : Int) < (((List.length text) : Nat) : Int)) = false from dec_f (by omega)]
  dsimp only
  have hsl := sealL_length k (key := key) (nonce := [48, 49, 50, 51, 52, 53, 54, 55, 56, 57, 97, 98, 99, 100, 101, 102]) (text := text) (by omega) (by omega) nonceX_length (by omega)
  obtain ⟨f1, f2⟩ := fits_seal k (key := key) (nonce := [48, 49, 50, 51, 52, 53, 54, 55, 56, 57, 97, 98, 99, 100, 101, 102]) (text := text) hk (by omega) nonceX_length (by omega)
  rw [cond_false, seal_eq k hk (by omega) nonceX_length (by omega), Option.bind_some]
  dsimp only
  generalize hs : sealL (k + 100) key [48, 49, 50, 51, 52, 53, 54, 55, 56, 57, 97, 98, 99, 100, 101, 102] text = s at hsl f1 f2 ⊢
  rw [open_eq k hk (by omega) (by omega) (by omega), Option.bind_some]
  unfold porterlaw06_BoxOther_p3 porterlaw06_BoxOther_p4
  cases hf : fits (k + 100) m s with
  | false =>
    simp only [cond_false, beq_self_eq_true, cond_true, Option.bind_some, hw]
  | true =>
    have e1 : boxTag (k + 100) key (s.take (s.length - 32)) = boxTag (k + 100) m (s.take (s.length - 32)) := by
      unfold fits at f1 hf
      rw [beq_iff_eq] at f1 hf
      rw [← f1, hf]
    have ht1 := tagK_length k (key := key) (by omega) (by omega)
    have ht2 := tagK_length k (key := m) (by omega) (by omega)
    have hb : (s.take (s.length - 32)).length ≤ 2000 := by rw [List.length_take]; omega
    have hfr := tagFrame
    have r1 := refBoxTexts k (key := key) (s := s) hk (by omega) (by omega) (by omega)
    have r2 := refBoxTexts k (key := m) (s := s) hk (by omega) (by omega) (by omega)
    have s1 := textsL_small k (t := key) (u := frameL [[116, 97, 103]]) (by omega) (by omega) (by omega)
    have s2 := textsL_small k (t := tagK (k + 100) key) (u := s.take (s.length - 32)) (by omega) (by omega) (by omega)
    have s3 := textsL_small k (t := m) (u := frameL [[116, 97, 103]]) (by omega) (by omega) (by omega)
    have s4 := textsL_small k (t := tagK (k + 100) m) (u := s.take (s.length - 32)) (by omega) (by omega) (by omega)
    have hcl : ∃ L : List (List UInt8) × List (List UInt8), porterref06_Texts (k + 100) key s = some L.1 ∧ porterref06_Texts (k + 100) m s = some L.2 ∧ (L.1.length + L.2.length) * 16 ≤ 70368744177664 ∧ porterref03_Clash (k + 100) (L.1 ++ L.2) = some true := by
      refine ⟨(_, _), r1, r2, by simp [textsL], ?_⟩
      have hL : ∀ p ∈ (textsL (k + 100) key (frameL [[116, 97, 103]]) ++ textsL (k + 100) (tagK (k + 100) key) (s.take (s.length - 32))) ++ (textsL (k + 100) m (frameL [[116, 97, 103]]) ++ textsL (k + 100) (tagK (k + 100) m) (s.take (s.length - 32))), p.length ≤ 30000 :=
        List.forall_mem_append.2 ⟨List.forall_mem_append.2 ⟨s1, s2⟩, List.forall_mem_append.2 ⟨s3, s4⟩⟩
      have hlen : ((textsL (k + 100) key (frameL [[116, 97, 103]]) ++ textsL (k + 100) (tagK (k + 100) key) (s.take (s.length - 32))) ++ (textsL (k + 100) m (frameL [[116, 97, 103]]) ++ textsL (k + 100) (tagK (k + 100) m) (s.take (s.length - 32)))).length ≤ 500 := by simp [textsL]
      rcases tag_apart k (by omega) ht1 ht2 (by omega) (by omega) (show tagL (k + 100) (tagK (k + 100) key) (s.take (s.length - 32)) = tagL (k + 100) (tagK (k + 100) m) (s.take (s.length - 32)) from e1) with ⟨g1, g2⟩ | ⟨g0, _⟩
      · exact clash_mem (by omega) hlen hL (List.mem_append_left _ (List.mem_append_right _ (outer_mem _ _ _))) (List.mem_append_right _ (List.mem_append_right _ (outer_mem _ _ _))) g1 g2
      · rcases tag_apart k (by omega) h1 h2 (by omega) (by omega) (show tagL (k + 100) key (frameL [[116, 97, 103]]) = tagL (k + 100) m (frameL [[116, 97, 103]]) from g0) with ⟨g1, g2⟩ | ⟨g1, _⟩
        · exact clash_mem (by omega) hlen hL (List.mem_append_left _ (List.mem_append_left _ (outer_mem _ _ _))) (List.mem_append_right _ (List.mem_append_left _ (outer_mem _ _ _))) g1 g2
        · exact absurd g1 h3
    clear s1 s2 s3 s4 r1 r2 e1
    obtain ⟨L, q1, q2, q3, q4⟩ := hcl
    have z8 : ((0 : Int) == 8) = false := rfl
    simp only [q1, q2, q4, decide_eq_true q3, z8, cond_false, beq_self_eq_true, cond_true, Option.bind_some]
end Go.Proofs.YtkccmmbomlpgnaaDoorLg
