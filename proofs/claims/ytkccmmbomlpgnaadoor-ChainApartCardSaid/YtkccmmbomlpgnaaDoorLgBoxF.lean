/- Layer 6: boxes. -/
import Derived.Test.YtkccmmbomlpgnaaDoorLgStrF
set_option linter.all false
set_option maxRecDepth 100000
namespace Go.Proofs.YtkccmmbomlpgnaaDoorLg
open Go Go.Lift Go.Proofs.YtkccmmbomlpgnaaDoorPx

/-! ## which texts clash -/
theorem tag_apart (k : Nat) {a b s t : List UInt8} (hk : 600 ≤ k) (ha : a.length = 32) (hb : b.length = 32) (hs : s.length ≤ 29900) (ht : t.length ≤ 29900) (h : tagL (k + 100) a s = tagL (k + 100) b t) :
    (outerL (k + 100) a s ≠ outerL (k + 100) b t ∧ sumL (k + 100) (outerL (k + 100) a s) = sumL (k + 100) (outerL (k + 100) b t)) ∨
    (a = b ∧ ((innerL (k + 100) a s ≠ innerL (k + 100) b t ∧ sumL (k + 100) (innerL (k + 100) a s) = sumL (k + 100) (innerL (k + 100) b t)) ∨ s = t)) := by
  by_cases ho : outerL (k + 100) a s = outerL (k + 100) b t
  · right
    have hm1 := maskL_length k (key := a) 92 hk (by omega)
    have hm2 := maskL_length k (key := b) 92 hk (by omega)
    obtain ⟨e1, e2⟩ := List.append_inj (show maskL (k + 100) a 92 ++ sumL (k + 100) (innerL (k + 100) a s) = maskL (k + 100) b 92 ++ sumL (k + 100) (innerL (k + 100) b t) from ho) (by rw [hm1, hm2])
    have hkk : ∀ q : List UInt8, q.length = 32 → key64 (k + 100) q = q ++ List.replicate 32 0 := by
      intro q hq
      unfold key64 key1
      rw [if_neg (by omega), hq]
    have k1 := key64_length k (key := a) hk (by omega)
    have k2 := key64_length k (key := b) hk (by omega)
    have e3 : key64 (k + 100) a = key64 (k + 100) b := by
      have := congrArg (fun z => xorL z (List.replicate 64 92)) e1
      unfold maskL at this
      rw [xorL_back, xorL_back, k1, k2, List.length_replicate, List.take_of_length_le (by omega), List.take_of_length_le (by omega)] at this
      exact this
    have e4 : a = b := by
      rw [hkk a ha, hkk b hb] at e3
      exact (List.append_inj e3 (by omega)).1
    refine ⟨e4, ?_⟩
    by_cases hi : innerL (k + 100) a s = innerL (k + 100) b t
    · right
      subst e4
      exact List.append_cancel_left hi
    · exact .inl ⟨hi, e2⟩
  · exact .inl ⟨ho, h⟩

theorem clash_mem {k : Nat} {l : List (List UInt8)} {p q : List UInt8} (hk : 600 ≤ k) (hl : l.length ≤ 500) (hs : ∀ p ∈ l, p.length ≤ 30000) (hp : p ∈ l) (hq : q ∈ l) (hne : p ≠ q) (he : sumL (k + 100) p = sumL (k + 100) q) : porterref03_Clash (k + 100) l = some true := by
  obtain ⟨i, hi, rfl⟩ := List.mem_iff_getElem.1 hp
  obtain ⟨j, hj, rfl⟩ := List.mem_iff_getElem.1 hq
  have gi : l.getD i [] = l[i] := by simp [List.getD, hi]
  have gj : l.getD j [] = l[j] := by simp [List.getD, hj]
  rcases Nat.lt_trichotomy i j with h | h | h
  · refine clash_yes hk hl hs hj h ?_
    unfold bad
    rw [gi, gj, Bool.and_eq_true]
    exact ⟨beq_iff_eq.2 he, by simpa using hne⟩
  · subst h; exact absurd rfl hne
  · refine clash_yes hk hl hs hi h ?_
    unfold bad
    rw [gi, gj, Bool.and_eq_true]
    exact ⟨beq_iff_eq.2 he.symm, by simpa using hne.symm⟩

noncomputable def textsL (N : Nat) (key s : List UInt8) : List (List UInt8) := [innerL N key s, outerL N key s]
theorem inner_mem (N : Nat) (key s : List UInt8) : innerL N key s ∈ textsL N key s := List.mem_cons_self
theorem outer_mem (N : Nat) (key s : List UInt8) : outerL N key s ∈ textsL N key s := List.mem_cons_of_mem _ List.mem_cons_self
theorem two_mem {P : List UInt8 → Prop} {a b : List UInt8} (ha : P a) (hb : P b) : ∀ p ∈ [a, b], P p := by
  intro p hp
  rcases List.mem_cons.1 hp with rfl | hp
  · exact ha
  · rw [List.mem_singleton.1 hp]; exact hb
theorem textsL_small (k : Nat) {t u : List UInt8} (hk : 600 ≤ k) (ht : t.length ≤ 30000) (hu : u.length ≤ 29000) : ∀ p ∈ textsL (k + 100) t u, p.length ≤ 30000 := by
  have a1 := innerL_length k (key := t) (text := u) hk ht
  have a2 := outerL_length k (key := t) (text := u) hk ht (by omega)
  exact two_mem (P := fun p => p.length ≤ 30000) (by omega) (by omega)

/-! ## boxes -/
noncomputable def hideK (N : Nat) (key : List UInt8) : List UInt8 := tagL N key (frameL [[104, 105, 100, 101]])
noncomputable def tagK (N : Nat) (key : List UInt8) : List UInt8 := tagL N key (frameL [[116, 97, 103]])
noncomputable def boxTag (N : Nat) (key body : List UInt8) : List UInt8 := tagL N (tagK N key) body
noncomputable def hidden (N : Nat) (key nonce text : List UInt8) : List UInt8 := xorL text (takeL N (hideK N key) nonce text.length)
noncomputable def bodyL (N : Nat) (key nonce text : List UInt8) : List UInt8 := nonce ++ hidden N key nonce text
noncomputable def sealL (N : Nat) (key nonce text : List UInt8) : List UInt8 := bodyL N key nonce text ++ boxTag N key (bodyL N key nonce text)

theorem hideFrame : (frameL [[104, 105, 100, 101]]).length = 12 := by rw [frameL_length]; rfl
theorem tagFrame : (frameL [[116, 97, 103]]).length = 11 := by rw [frameL_length]; rfl

theorem hideK_length (k : Nat) {key : List UInt8} (hk : 600 ≤ k) (hl : key.length ≤ 30000) : (hideK (k + 100) key).length = 32 := tagL_length k hk hl (by rw [hideFrame]; omega)
theorem tagK_length (k : Nat) {key : List UInt8} (hk : 600 ≤ k) (hl : key.length ≤ 30000) : (tagK (k + 100) key).length = 32 := tagL_length k hk hl (by rw [tagFrame]; omega)
theorem boxTag_length (k : Nat) {key body : List UInt8} (hk : 600 ≤ k) (hl : key.length ≤ 30000) (hb : body.length ≤ 29900) : (boxTag (k + 100) key body).length = 32 := tagL_length k hk (by rw [tagK_length k hk hl]; omega) hb
theorem hidden_length (k : Nat) {key nonce text : List UInt8} (hk : 600 ≤ k) (hl : key.length ≤ 30000) (hn : nonce.length ≤ 1000) : (hidden (k + 100) key nonce text).length = text.length := by
  unfold hidden; rw [xorL_length, takeL_length k _ hk (by rw [hideK_length k hk hl]; omega) hn, Nat.min_self]
theorem hidden_back (k : Nat) {key nonce text : List UInt8} (hk : 600 ≤ k) (hl : key.length ≤ 30000) (hn : nonce.length ≤ 1000) : hidden (k + 100) key nonce (hidden (k + 100) key nonce text) = text := by
  have h := hidden_length k (text := text) hk hl hn
  have ht := takeL_length k (key := hideK (k + 100) key) (nonce := nonce) text.length hk (by rw [hideK_length k hk hl]; omega) hn
  show xorL (hidden (k + 100) key nonce text) (takeL (k + 100) (hideK (k + 100) key) nonce (hidden (k + 100) key nonce text).length) = text
  rw [h]
  unfold hidden
  rw [xorL_back, ht, Nat.min_self, List.take_length]
theorem bodyL_length (k : Nat) {key nonce text : List UInt8} (hk : 600 ≤ k) (hl : key.length ≤ 30000) (hn : nonce.length = 16) : (bodyL (k + 100) key nonce text).length = 16 + text.length := by
  unfold bodyL; rw [List.length_append, hidden_length k hk hl (by omega), hn]
theorem sealL_length (k : Nat) {key nonce text : List UInt8} (hk : 600 ≤ k) (hl : key.length ≤ 30000) (hn : nonce.length = 16) (ht : text.length ≤ 2000) : (sealL (k + 100) key nonce text).length = 48 + text.length := by
  unfold sealL; rw [List.length_append, bodyL_length k hk hl hn, boxTag_length k hk hl (by rw [bodyL_length k hk hl hn]; omega)]; omega

theorem hideKey_eq (k : Nat) {key : List UInt8} (hk : 600 ≤ k) (hl : key.length ≤ 30000) : box_hideKey (k + 100) key = some (hideK (k + 100) key) := by
  unfold box_hideKey
  rw [parts_eq k hk hl (by simp) (by rw [hideFrame]; omega)]; rfl
theorem boxTag_eq (k : Nat) {key body : List UInt8} (hk : 600 ≤ k) (hl : key.length ≤ 30000) (hb : body.length ≤ 29900) : box_tag (k + 100) key body = some (boxTag (k + 100) key body) := by
  unfold box_tag
  rw [parts_eq k hk hl (by simp) (by rw [tagFrame]; omega), Option.bind_some, tag_eq k hk (by have := tagK_length k hk hl; unfold tagK at this; rw [this]; omega) hb]; rfl

theorem seal_eq (k : Nat) {key nonce text : List UInt8} (hk : 2200 ≤ k) (hl : key.length ≤ 30000) (hn : nonce.length = 16) (ht : text.length ≤ 2000) : box_Seal (k + 100) key nonce text = some (sealL (k + 100) key nonce text, 0, ()) := by
  have h1 := hidden_length k (key := key) (nonce := nonce) (text := text) (by omega) hl (by omega)
  have h2 := bodyL_length k (key := key) (nonce := nonce) (text := text) (by omega) hl hn
  have h3 := boxTag_length k (key := key) (body := bodyL (k + 100) key nonce text) (by omega) hl (by omega)
  unfold box_Seal
  rw [cond_f (by simp [hn]), cond_f (dec_f (by omega)), hideKey_eq k (by omega) hl, Option.bind_some, mix_eq k (by omega) (by rw [hideK_length k (by omega) hl]; omega) (by omega) ht (by omega), Option.bind_some]
  show cond (decide (nonce.length + (hidden (k + 100) key nonce text).length ≤ 9223372036854775807)) ((box_tag (k + 100) key (bodyL (k + 100) key nonce text)).bind fun y2 => cond (decide ((bodyL (k + 100) key nonce text).length + y2.length ≤ 9223372036854775807)) (some ((bodyL (k + 100) key nonce text) ++ y2, ((0 : Int), ()))) none) none = _
  rw [cond_t (dec_t (by omega)), boxTag_eq k (by omega) hl (by omega), Option.bind_some, cond_t (dec_t (by omega))]
  rfl

theorem refSeal_eq (k : Nat) {key nonce text : List UInt8} (hk : 2200 ≤ k) (hl : key.length ≤ 30000) (hn : nonce.length = 16) (ht : text.length ≤ 2000) : porterref06_Seal (k + 100) key nonce text = some (sealL (k + 100) key nonce text, 0, ()) := by
  have h1 := hidden_length k (key := key) (nonce := nonce) (text := text) (by omega) hl (by omega)
  have h2 := bodyL_length k (key := key) (nonce := nonce) (text := text) (by omega) hl hn
  have h3 := boxTag_length k (key := key) (body := bodyL (k + 100) key nonce text) (by omega) hl (by omega)
  have h4 := tagK_length k (key := key) (by omega) hl
  unfold porterref06_Seal
  rw [cond_f (by simp [hn]), cond_f (dec_f (by omega)), refParts_eq k (by omega) hl (by simp) (by rw [hideFrame]; omega), Option.bind_some]
  show ((porterref05_Mix (k + 100) (hideK (k + 100) key) nonce text).bind _) = _
  rw [refMix_eq k (by omega) (by rw [hideK_length k (by omega) hl]; omega) (by omega) ht (by omega), Option.bind_some, refParts_eq k (by omega) hl (by simp) (by rw [tagFrame]; omega), Option.bind_some]
  show cond (decide (nonce.length + (hidden (k + 100) key nonce text).length ≤ 9223372036854775807)) ((porterref04_Sum (k + 100) (tagK (k + 100) key) (bodyL (k + 100) key nonce text)).bind fun y2 => cond (decide ((bodyL (k + 100) key nonce text).length + y2.length ≤ 9223372036854775807)) (some ((bodyL (k + 100) key nonce text) ++ y2, ((0 : Int), ()))) none) none = _
  rw [cond_t (dec_t (by omega)), refTag_eq k (by omega) (by omega) (by omega), Option.bind_some]
  show cond (decide ((bodyL (k + 100) key nonce text).length + (boxTag (k + 100) key (bodyL (k + 100) key nonce text)).length ≤ 9223372036854775807)) _ _ = _
  rw [cond_t (dec_t (by omega))]
  rfl

theorem seal_arg (N : Nat) {key nonce text : List UInt8} (hn : nonce.length ≠ 16) : box_Seal N key nonce text = some ([], 7, ()) ∧ porterref06_Seal N key nonce text = some ([], 7, ()) := by
  unfold box_Seal porterref06_Seal
  rw [cond_t (by rw [bne_iff_ne]; omega), cond_t (by rw [bne_iff_ne]; omega)]; exact ⟨rfl, rfl⟩
theorem seal_limit (N : Nat) {key nonce text : List UInt8} (hn : nonce.length = 16) (ht : 4096 < text.length) : box_Seal N key nonce text = some ([], 3, ()) ∧ porterref06_Seal N key nonce text = some ([], 3, ()) := by
  have e : ((((List.length nonce) : Nat) : Int) != (16 : Int)) = false := by simp [hn]
  have e2 : decide ((4096 : Int) < (((List.length text) : Nat) : Int)) = true := dec_t (by omega)
  unfold box_Seal porterref06_Seal
  simp only [e, e2, cond_false, cond_true, and_self]

/-- is the end the tag of what is ahead of it -/
noncomputable def fits (N : Nat) (key s : List UInt8) : Bool := s.drop (s.length - 32) == boxTag N key (s.take (s.length - 32))
noncomputable def openT (N : Nat) (key s : List UInt8) : List UInt8 := hidden N key (s.take 16) ((s.take (s.length - 32)).drop 16)

theorem wlen {s : List UInt8} (h : 48 ≤ s.length) (h2 : s.length ≤ 5000) : IntKind.wrap .i64 ((s.length : Int) - 32) = ((s.length - 32 : Nat) : Int) := by
  rw [wrap_in (by unfold I64; omega)]; omega

theorem check_eq (k : Nat) {key s : List UInt8} (hk : 2200 ≤ k) (hl : key.length ≤ 30000) (h1 : 48 ≤ s.length) (h2 : s.length ≤ 4144) : box_check (k + 100) key s = some (cond (fits (k + 100) key s) 0 8) := by
  have hd : (s.drop (s.length - 32)).length = 32 := by rw [List.length_drop]; omega
  unfold box_check
  rw [cond_f (dec_f (by omega)), cond_f (dec_f (by omega)), wlen h1 (by omega), cond_t (dec_t (by omega)), cond_t (dec_t (by omega)), Int.toNat_natCast, cut_take, boxTag_eq k (by omega) hl (by rw [List.length_take]; omega), Option.bind_some, cut_all, same_eq _ (by omega) (by omega), Option.bind_some, hd]
  show cond (!(decide ((32 : Nat) = 32) && fits (k + 100) key s)) (some 8) (some 0) = _
  cases fits (k + 100) key s <;> rfl

theorem open_eq (k : Nat) {key s : List UInt8} (hk : 2200 ≤ k) (hl : key.length ≤ 30000) (h1 : 48 ≤ s.length) (h2 : s.length ≤ 2000) : box_Open (k + 100) key s = some (cond (fits (k + 100) key s) (openT (k + 100) key s, 0, ()) ([], 8, ())) := by
  unfold box_Open
  rw [check_eq k hk hl h1 (by omega), Option.bind_some]
  cases hf : fits (k + 100) key s with
  | false => rfl
  | true =>
    have hm : (cut s 16 (s.length - 32)).length ≤ 2000 := by unfold cut; rw [List.length_drop, List.length_take]; omega
    unfold box_Open1
    rw [show cond true (0 : Int) 8 = 0 from rfl, cond_t (by rfl), hideKey_eq k (by omega) hl, Option.bind_some]
    have hn : box_Nonce (k + 100) s = some (s.take 16) := by
      unfold box_Nonce
      rw [cond_f (dec_f (by omega)), cond_t (dec_t (by omega)), cut_take]
    rw [hn, Option.bind_some, wlen h1 (by omega), cond_t (dec_t (by omega)), cond_t (dec_t (by omega)), Int.toNat_natCast, mix_eq k (by omega) (by rw [hideK_length k (by omega) hl]; omega) (by rw [List.length_take]; omega) hm (by omega), Option.bind_some, Option.bind_some]
    rfl

theorem open_short (N : Nat) {key s : List UInt8} (h1 : s.length < 48) : box_Open N key s = some ([], 1, ()) ∧ porterref06_Open N key s = some ([], 1, ()) := by
  have e : decide ((((List.length s) : Nat) : Int) < (48 : Int)) = true := dec_t (by omega)
  unfold box_Open box_check porterref06_Open
  simp only [e, cond_true]
  exact ⟨rfl, trivial⟩
theorem open_long (N : Nat) {key s : List UInt8} (h1 : 4144 < s.length) : box_Open N key s = some ([], 3, ()) ∧ porterref06_Open N key s = some ([], 3, ()) := by
  have e : decide ((((List.length s) : Nat) : Int) < (48 : Int)) = false := dec_f (by omega)
  have e2 : decide ((4144 : Int) < (((List.length s) : Nat) : Int)) = true := dec_t (by omega)
  unfold box_Open box_check porterref06_Open
  simp only [e, e2, cond_true, cond_false]
  exact ⟨rfl, trivial⟩

theorem parts3 {s : List UInt8} (h : 48 ≤ s.length) : s.take 16 ++ (s.take (s.length - 32)).drop 16 = s.take (s.length - 32) := by
  have : s.take 16 = (s.take (s.length - 32)).take 16 := by rw [List.take_take, Nat.min_eq_left (by omega)]
  rw [this, List.take_append_drop]

/-- what is opened is sealed again -/
theorem again (k : Nat) {key s : List UInt8} (hk : 2200 ≤ k) (hl : key.length ≤ 30000) (h1 : 48 ≤ s.length) (h2 : s.length ≤ 2000) : sealL (k + 100) key (s.take 16) (openT (k + 100) key s) = s.take (s.length - 32) ++ boxTag (k + 100) key (s.take (s.length - 32)) := by
  have hb : bodyL (k + 100) key (s.take 16) (openT (k + 100) key s) = s.take (s.length - 32) := by
    unfold bodyL openT
    rw [hidden_back k (by omega) hl (by rw [List.length_take]; omega), parts3 h1]
  unfold sealL
  rw [hb]

theorem again_fits (k : Nat) {key s : List UInt8} (hk : 2200 ≤ k) (hl : key.length ≤ 30000) (h1 : 48 ≤ s.length) (h2 : s.length ≤ 2000) : (sealL (k + 100) key (s.take 16) (openT (k + 100) key s) == s) = fits (k + 100) key s := by
  rw [again k hk hl h1 h2, Bool.eq_iff_iff, beq_iff_eq]
  unfold fits
  rw [beq_iff_eq]
  constructor
  · intro h
    have h3 : s.take (s.length - 32) ++ boxTag (k + 100) key (s.take (s.length - 32)) = s.take (s.length - 32) ++ s.drop (s.length - 32) := by rw [h, List.take_append_drop]
    exact (List.append_cancel_left h3).symm
  · intro h; rw [← h, List.take_append_drop]

theorem openT_length (k : Nat) {key s : List UInt8} (hk : 600 ≤ k) (hl : key.length ≤ 30000) (h1 : 48 ≤ s.length) : (openT (k + 100) key s).length = s.length - 48 := by
  unfold openT
  rw [hidden_length k hk hl (by rw [List.length_take]; omega), List.length_drop, List.length_take]; omega

theorem refOpen_eq (k : Nat) {key s : List UInt8} (hk : 2200 ≤ k) (hl : key.length ≤ 30000) (h1 : 48 ≤ s.length) (h2 : s.length ≤ 2000) : porterref06_Open (k + 100) key s = some (cond (fits (k + 100) key s) (openT (k + 100) key s, 0, ()) ([], 8, ())) := by
  have hm : (cut s 16 (s.length - 32)).length ≤ 2000 := by unfold cut; rw [List.length_drop, List.length_take]; omega
  have ho := openT_length k (key := key) (s := s) (by omega) hl h1
  have h16 : (s.take 16).length = 16 := by rw [List.length_take]; omega
  unfold porterref06_Open
  rw [cond_f (dec_f (by omega)), cond_f (dec_f (by omega)), refParts_eq k (by omega) hl (by simp) (by rw [hideFrame]; omega), Option.bind_some, wlen h1 (by omega), cond_t (dec_t (by omega)), cond_t (dec_t (by omega)), cond_t (dec_t (by omega)), Int.toNat_natCast, cut_take s 16]
  show ((porterref05_Mix (k + 100) (hideK (k + 100) key) (s.take 16) (cut s 16 (s.length - 32))).bind _) = _
  rw [refMix_eq k (by omega) (by rw [hideK_length k (by omega) hl]; omega) (by omega) hm (by omega), Option.bind_some, cond_t (dec_t (by omega))]
  show ((porterref06_Seal (k + 100) key (s.take 16) (openT (k + 100) key s)).bind fun y2 => cond (!(y2.1 == s)) (some (([] : List UInt8), ((8 : Int), ()))) (some (openT (k + 100) key s, ((0 : Int), ())))) = _
  rw [refSeal_eq k hk hl h16 (by omega), Option.bind_some]
  show cond (!(sealL (k + 100) key (s.take 16) (openT (k + 100) key s) == s)) _ _ = _
  rw [again_fits k hk hl h1 h2]
  cases fits (k + 100) key s <;> rfl

/-! ## the laws -/
theorem seals_law {k : Nat} {key nonce text : List UInt8} (hk : 2200 ≤ k) (hw : porterlaw06_works (k + 100) = some true) : porterlaw06_BoxSeals (k + 100) key nonce text = some true := by
  have fin : ∀ y : List UInt8 × Int × Unit, box_Seal (k + 100) key nonce text = some y → porterref06_Seal (k + 100) key nonce text = some y → ((box_Seal (k + 100) key nonce text).bind fun y => (porterref06_Seal (k + 100) key nonce text).bind fun y1 => cond (y.1 == y1.1) (cond (y.2.1 == y1.2.1) ((some true).bind fun y2 => some y2) (some false)) (some false)) = some true := by
    intro y h1 h2
    rw [h1, h2]; simp
  unfold porterlaw06_BoxSeals porterlaw06_BoxSeals_p1 porterlaw06_BoxSeals_p2
  rw [hw]
  by_cases h1 : 100 < key.length
  · rw [cond_t (dec_t (by omega))]; rfl
  rw [cond_f (dec_f (by omega))]
  by_cases hn : nonce.length = 16
  · by_cases h2 : 200 < text.length
    · rw [cond_t (dec_t (by omega))]
      by_cases h3 : text.length ≤ 4096
      · rw [cond_t (dec_t (by omega))]; rfl
      rw [cond_f (dec_f (by omega))]
      obtain ⟨a, b⟩ := seal_limit (k + 100) (key := key) (nonce := nonce) (text := text) hn (by omega)
      cases decide (4200 < (text.length : Int)) with
      | true => rfl
      | false => exact fin _ a b
    · rw [cond_f (dec_f (by omega)), show decide (4200 < (text.length : Int)) = false from dec_f (by omega)]
      exact fin _ (seal_eq k hk (by omega) hn (by omega)) (refSeal_eq k hk (by omega) hn (by omega))
  · obtain ⟨a, b⟩ := seal_arg (k + 100) (key := key) (nonce := nonce) (text := text) hn
    by_cases h2 : 200 < text.length
    · rw [cond_t (dec_t (by omega))]
      by_cases h3 : text.length ≤ 4096
      · rw [cond_t (dec_t (by omega))]; rfl
      rw [cond_f (dec_f (by omega))]
      cases decide (4200 < (text.length : Int)) with
      | true => rfl
      | false => exact fin _ a b
    · rw [cond_f (dec_f (by omega)), show decide (4200 < (text.length : Int)) = false from dec_f (by omega)]
      exact fin _ a b
end Go.Proofs.YtkccmmbomlpgnaaDoorLg
