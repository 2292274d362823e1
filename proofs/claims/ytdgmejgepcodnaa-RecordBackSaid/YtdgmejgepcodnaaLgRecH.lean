/- Layer 39: batches read back; the three laws. -/
import Derived.Test.YtdgmejgepcodnaaLgRecG
set_option linter.all false
set_option maxRecDepth 100000
namespace Go.Proofs.YtdgmejgepcodnaaLg
open Go Go.Lift Go.Proofs.YtdgmejgepcodnaaPx

theorem eta_u {α : Type} {x : α × Int × Unit} (h : x.2.1 = 0) : x = (x.1, 0, ()) := by
  obtain ⟨a, b, c⟩ := x
  cases c
  simp only at h
  rw [h]

theorem eta_i {α β : Type} {x : α × β × Int} (h : x.2.2 = 0) : x = (x.1, x.2.1, 0) := by
  obtain ⟨a, b, c⟩ := x
  simp only at h
  rw [h]

def readA : Nat → List UInt8 → Int → List EvD → List EvD × Int × Unit
  | 0, s, e, l => if endR s e = 0 then (l, 0, ()) else ([], endR s e, ())
  | n + 1, s, e, l =>
    if e ≠ 0 then ([], e, ())
    else if (textS s 0 128).2.2 ≠ 0 then ([], (textS s 0 128).2.2, ())
    else if (getE (textS s 0 128).1).2.1 ≠ 0 then ([], (getE (textS s 0 128).1).2.1, ())
    else readA n (textS s 0 128).2.1 0 (l ++ [(getE (textS s 0 128).1).1])

theorem readA_bad (n : Nat) {s : List UInt8} {e : Int} (l : List EvD) (he : e ≠ 0) (h : Inv8 s e) : readA n s e l = ([], e, ()) := by
  cases n with
  | zero =>
    have : s = [] := h.2 he
    subst this
    rw [readA, show endR [] e = e from rfl, if_neg he]
  | succ n => rw [readA, if_pos he]

theorem num_top (s : List UInt8) (e : Int) {most : Int} (hm : 0 ≤ most) : (numS s e most).1 ≤ most := by
  unfold numS
  split
  · exact hm
  · split
    · exact hm
    · split
      · exact hm
      · rename_i h; exact Int.not_lt.1 h

theorem text_top (s : List UInt8) (e : Int) {m : Nat} : (textS s e (m : Int)).1.length ≤ m := by
  unfold textS textT
  rw [if_neg (show ¬ ((m : Nat) : Int) < 0 by omega)]
  have h := num_top s e (most := (m : Int)) (by omega)
  have h0 := num_pos s e (m : Int)
  generalize numS s e (m : Int) = y at *
  split
  · simp
  · split
    · simp
    · simp only [List.length_take]; omega

theorem fail_any (N : Nat) {s : List UInt8} {e : Int} (h : Inv8 s e) (f : Int) : ∃ s' e', field_Reader_Fail N (rdr s e) f = some ((), (rdr s' e', ())) ∧ Inv8 s' e' ∧ (e ≠ 0 → e' = e ∧ s' = s) ∧ (e = 0 → f = 0 → e' = 0 ∧ s' = s) ∧ (e = 0 → f ≠ 0 → e' = f) := by
  by_cases he : e = 0
  · subst he
    by_cases hf : f = 0
    · subst hf
      exact ⟨s, 0, fail_zero N s 0, h, fun h => absurd rfl h, fun _ _ => ⟨rfl, rfl⟩, fun _ h => absurd rfl h⟩
    · exact ⟨[], f, fail_on N s hf, inv_bad f, fun h => absurd rfl h, fun _ h => absurd h hf, fun _ _ => rfl⟩
  · exact ⟨s, e, fail_off N s he f, h, fun _ => ⟨rfl, rfl⟩, fun h => absurd h he, fun h => absurd h he⟩

theorem rfail_any (N : Nat) {s : List UInt8} {e : Int} (h : Inv8 s e) (f : Int) : ∃ s' e', porterref08_R_Fail N (rf s e) f = some (rf s' e') ∧ Inv8 s' e' ∧ (e ≠ 0 → e' = e ∧ s' = s) ∧ (e = 0 → f = 0 → e' = 0 ∧ s' = s) ∧ (e = 0 → f ≠ 0 → e' = f) := by
  by_cases he : e = 0
  · subst he
    by_cases hf : f = 0
    · subst hf
      exact ⟨s, 0, rfail_zero N s 0, h, fun h => absurd rfl h, fun _ _ => ⟨rfl, rfl⟩, fun _ h => absurd rfl h⟩
    · exact ⟨[], f, rfail_on N s hf, inv_bad f, fun h => absurd rfl h, fun _ h => absurd h hf, fun _ _ => rfl⟩
  · exact ⟨s, e, rfail_off N s he f, h, fun _ => ⟨rfl, rfl⟩, fun h => absurd h he, fun h => absurd h he⟩

theorem wrap_u_succ {i : Nat} (h : i ≤ 1000000) : Go.IntKind.wrap .u64 ((i : Int) + 1) = ((i + 1 : Nat) : Int) := by
  rw [show ((i : Int) + 1) = ((i + 1 : Nat) : Int) by omega, wrap_u64_nat (by omega)]

abbrev RdI : Type := (Bool × (List UInt8 × (Int × Unit))) × List EvD × Int

theorem read_loop (N : Nat) (hN : 300 < N) (n : Nat) (hn : n ≤ 256) {s : List UInt8} {e : Int} (h : Inv8 s e) :
    record_Read_p1 N (rdr s e) [] (n : Int) 0 (fun f l => (field_Reader_End N f).bind fun y1 => cond (y1.1 != (0 : Int)) (some (([] : List EvD), (y1.1, ()))) (some (l, ((0 : Int), ())))) = some (readA n s e []) := by
  rw [record_Read_p1]
  have key : ∀ (k : Nat), k ≤ N → ∀ (i : Nat) (s : List UInt8) (e : Int) (l : List EvD), i ≤ n → n - i < k → Inv8 s e → l.length ≤ i →
      iter (fun (v : RdI) r => record_Read_s1 N (n : Int) v.1 v.2.1 v.2.2 (fun f l x13 => (r (f, l, x13))) (fun f l => (field_Reader_End N f).bind fun y1 => cond (y1.1 != (0 : Int)) (some (([] : List EvD), (y1.1, ()))) (some (l, ((0 : Int), ()))))) k (rdr s e, l, (i : Int)) = some (readA (n - i) s e l) := by
    intro k
    induction k with
    | zero => intro _ i s e l _ h; omega
    | succ k ih =>
      intro hkN i s e l hi hk hI hl
      rw [iter]
      simp only
      rw [record_Read_s1]
      by_cases hlt : i < n
      · rw [cond_t (decide_eq_true (by omega)), text_eq N (by omega) hI (by decide), Option.bind_some]
        have hlen := text_top s e (m := 128)
        have hti := text_inv (most := 128) hI
        dsimp only
        rw [got_eq N (by omega) (by have : (textS s e 128).1.length ≤ 128 := hlen; omega), Option.bind_some]
        obtain ⟨s', e', hf, hI', f1, f2, f3⟩ := fail_any N hti (getE (textS s e 128).1).2.1
        rw [hf, Option.bind_some]
        simp only
        rw [cond_t (decide_eq_true (by omega)), wrap_u_succ (by omega), ih (by omega) (i + 1) s' e' _ (by omega) (by omega) hI' (by simp only [List.length_append, List.length_cons, List.length_nil]; omega)]
        rw [show n - i = (n - (i + 1)) + 1 by omega]
        by_cases he : e = 0
        · subst he
          rw [readA, if_neg (by simp)]
          by_cases ht : (textS s 0 128).2.2 = 0
          · rw [if_neg (by simpa using ht)]
            by_cases hg : (getE (textS s 0 128).1).2.1 = 0
            · obtain ⟨rfl, rfl⟩ := f2 ht hg
              rw [if_neg (by simpa using hg)]
            · have := f3 ht hg
              rw [if_pos hg, readA_bad _ _ (by rw [this]; exact hg) hI', this]
          · obtain ⟨e1, e2⟩ := f1 ht
            rw [if_pos ht, readA_bad _ _ (by rw [e1]; exact ht) hI', e1]
        · have ht : (textS s e 128).2.2 = e := by rw [textS_bad s he]
          obtain ⟨e1, e2⟩ := f1 (by rw [ht]; exact he)
          rw [readA_bad _ _ (by rw [e1, ht]; exact he) hI', readA_bad _ _ he hI, e1, ht]
      · rw [cond_f (decide_eq_false (by omega)), end_eq N hI, Option.bind_some, show n - i = 0 by omega, readA]
        by_cases hE : endR s e = 0
        · rw [hE, bne_self_eq_false, cond_false, if_pos rfl]
        · rw [bne_iff_ne.2 hE, cond_true, if_neg hE]
  exact (key N (Nat.le_refl _) 0 s e [] (by omega) (by omega) h (by simp)).trans (by rw [Nat.sub_zero])

abbrev RdJ : Type := (List UInt8 × (Int × Unit)) × List EvD × Int

theorem rread_loop (N : Nat) (hN : 300 < N) (n : Nat) (hn : n ≤ 256) {s : List UInt8} {e : Int} (h : Inv8 s e) :
    porterref39_Read_p1 N (n : Int) (rf s e) [] 0 (fun r_ out => (porterref08_R_End N r_).bind fun y1 => cond (y1.2.1 != (0 : Int)) (some (([] : List EvD), (y1.2.1, ()))) (some (out, ((0 : Int), ())))) = some (readA n s e []) := by
  rw [porterref39_Read_p1]
  have key : ∀ (k : Nat), k ≤ N → ∀ (i : Nat) (s : List UInt8) (e : Int) (l : List EvD), i ≤ n → n - i < k → Inv8 s e → l.length ≤ i →
      iter (fun (v : RdJ) r => porterref39_Read_s1 N (n : Int) v.1 v.2.1 v.2.2 (fun r_ out i => (r (r_, out, i))) (fun r_ out => (porterref08_R_End N r_).bind fun y1 => cond (y1.2.1 != (0 : Int)) (some (([] : List EvD), (y1.2.1, ()))) (some (out, ((0 : Int), ()))))) k (rf s e, l, (i : Int)) = some (readA (n - i) s e l) := by
    intro k
    induction k with
    | zero => intro _ i s e l _ h; omega
    | succ k ih =>
      intro hkN i s e l hi hk hI hl
      rw [iter]
      simp only
      rw [porterref39_Read_s1, wrap_in (x := (n : Int)) (by unfold I64; omega)]
      by_cases hlt : i < n
      · rw [cond_t (decide_eq_true (by omega)), porterref39_Read_p2, rtext_eq N (by omega) hI (by decide), Option.bind_some]
        have hlen := text_top s e (m := 128)
        have hti := text_inv (most := 128) hI
        dsimp only
        rw [show (rf (textS s e 128).2.1 (textS s e 128).2.2).2.1 = (textS s e 128).2.2 from rfl, wrap_succ (by omega), show n - i = (n - (i + 1)) + 1 by omega]
        by_cases ht : (textS s e 128).2.2 = 0
        · have he : e = 0 := Decidable.byContradiction fun he => by rw [textS_bad s he] at ht; exact he ht
          subst he
          rw [readA, if_neg (by simp), if_neg (by simpa using ht)]
          rw [cond_t (by rw [ht, beq_self_eq_true]), rgot_eq N (by omega) (by have : (textS s 0 128).1.length ≤ 128 := hlen; omega), Option.bind_some]
          rw [cond_t (decide_eq_true (by omega))]
          obtain ⟨s', e', hf, hI', f1, f2, f3⟩ := rfail_any N hti (getE (textS s 0 128).1).2.1
          rw [hf, Option.bind_some, ih (by omega) (i + 1) s' e' _ (by omega) (by omega) hI' (by simp only [List.length_append, List.length_cons, List.length_nil]; omega)]
          by_cases hg : (getE (textS s 0 128).1).2.1 = 0
          · obtain ⟨rfl, rfl⟩ := f2 ht hg
            rw [if_neg (by simpa using hg)]
          · have := f3 ht hg
            rw [if_pos hg, readA_bad _ _ (by rw [this]; exact hg) hI', this]
        · rw [cond_f (beq_eq_false_iff_ne.2 ht), ih (by omega) (i + 1) _ _ _ (by omega) (by omega) hti (by omega), readA_bad _ _ ht hti]
          by_cases he : e = 0
          · subst he
            rw [readA, if_neg (by simp), if_pos ht]
          · rw [readA_bad _ _ he hI, textS_bad s he]
      · rw [cond_f (decide_eq_false (by omega)), rend_eq N hI, Option.bind_some, show n - i = 0 by omega, readA]
        rw [show (rf [] (endR s e)).2.1 = endR s e from rfl]
        by_cases hE : endR s e = 0
        · rw [hE, bne_self_eq_false, cond_false, if_pos rfl]
        · rw [bne_iff_ne.2 hE, cond_true, if_neg hE]
  exact (key N (Nat.le_refl _) 0 s e [] (by omega) (by omega) h (by simp)).trans (by rw [Nat.sub_zero])

def readB (s : List UInt8) : List EvD × Int × Unit := readA (numS s 0 256).1.toNat (numS s 0 256).2.1 (numS s 0 256).2.2 []

theorem inv0 {s : List UInt8} (hs : s.length ≤ 1000000) : Inv8 s 0 := ⟨hs, fun h => absurd rfl h⟩

theorem read_eq (N : Nat) (hN : 300 < N) {s : List UInt8} (hs : s.length ≤ 1000000) : record_Read N s = some (readB s) := by
  have h0 := num_pos s 0 256
  have h1 := num_top s 0 (most := 256) (by decide)
  have hi := num_inv (most := 256) (inv0 hs)
  rw [record_Read, show ((true, (s, ((0 : Int), ()))) : RdrT.den) = rdr s 0 from rfl, num_eq N (by omega) (inv0 hs), Option.bind_some]
  dsimp only
  have := read_loop N hN (numS s 0 256).1.toNat (by omega) hi
  rw [show (((numS s 0 256).1.toNat : Nat) : Int) = (numS s 0 256).1 by omega] at this
  exact this

theorem rread_eq (N : Nat) (hN : 300 < N) {s : List UInt8} (hs : s.length ≤ 1000000) : porterref39_Read N s = some (readB s) := by
  have h0 := num_pos s 0 256
  have h1 := num_top s 0 (most := 256) (by decide)
  have hi := num_inv (most := 256) (inv0 hs)
  rw [porterref39_Read, show ((s, ((0 : Int), ())) : RefT) = rf s 0 from rfl, rnum_eq N (by omega) (inv0 hs), Option.bind_some]
  dsimp only
  have := rread_loop N hN (numS s 0 256).1.toNat (by omega) hi
  rw [show (((numS s 0 256).1.toNat : Nat) : Int) = (numS s 0 256).1 by omega] at this
  exact this

/-! there and back -/
def chunks : List EvD → List UInt8
  | [] => []
  | v :: l => chunk v ++ chunks l

theorem batR_ok : ∀ (l : List EvD) (o : List UInt8), (∀ v ∈ l, formL v = true) → batR o l = (o ++ chunks l, 0, ())
  | [], o, _ => by rw [batR, chunks, List.append_nil]
  | v :: l, o, h => by rw [batR, h v (List.mem_cons_self ..), cond_true, batR_ok l _ (fun u hu => h u (List.mem_cons_of_mem _ hu)), chunks, List.append_assoc]

theorem batR_inv : ∀ (l : List EvD) (o : List UInt8), (batR o l).2.1 = 0 → ∀ v ∈ l, formL v = true
  | [], _, _ => fun v hv => by cases hv
  | u :: l, o, h => by
    rw [batR] at h
    cases hf : formL u with
    | false => rw [hf] at h; cases h
    | true =>
      rw [hf, cond_true] at h
      intro v hv
      rcases List.mem_cons.1 hv with rfl | hv
      · exact hf
      · exact batR_inv l _ h v hv

theorem read_put : ∀ (l m : List EvD), (∀ v ∈ l, formL v = true) → readA l.length (chunks l) 0 m = (m ++ l, 0, ())
  | [], m, _ => by
    rw [List.length_nil, readA, chunks, show endR [] 0 = 0 from rfl, if_pos rfl, List.append_nil]
  | v :: l, m, h => by
    have hv := h v (List.mem_cons_self ..)
    have hl := enc_len (form_of hv)
    have ht : textS (chunk v ++ chunks l) 0 128 = (encE v, chunks l, 0) := text_fwdM (m := 128) (by decide) (by omega)
    rw [List.length_cons, readA, if_neg (by simp), chunks, ht]
    simp only
    rw [if_neg (by simp), get_put hv]
    simp only
    rw [if_neg (by simp), read_put l _ (fun u hu => h u (List.mem_cons_of_mem _ hu)), List.append_assoc]
    rfl

theorem put_read : ∀ (n : Nat) (s : List UInt8) (m r : List EvD), readA n s 0 m = (r, 0, ()) → ∃ l, r = m ++ l ∧ l.length = n ∧ s = chunks l ∧ ∀ v ∈ l, formL v = true
  | 0, s, m, r, h => by
    rw [readA] at h
    by_cases hE : endR s 0 = 0
    · rw [if_pos hE] at h
      cases h
      refine ⟨[], by rw [List.append_nil], rfl, ?_, fun v hv => by cases hv⟩
      unfold endR at hE
      by_cases hs : s = []
      · rw [hs]; rfl
      · rw [if_neg hs] at hE; cases hE
    · rw [if_neg hE] at h
      exact absurd (Prod.mk.inj (Prod.mk.inj h).2).1 hE
  | n + 1, s, m, r, h => by
    rw [readA, if_neg (by simp)] at h
    by_cases ht : (textS s 0 128).2.2 = 0
    · rw [if_neg (by simpa using ht)] at h
      by_cases hg : (getE (textS s 0 128).1).2.1 = 0
      · rw [if_neg (by simpa using hg)] at h
        obtain ⟨l, rfl, hl, hs, hf⟩ := put_read n _ _ _ h
        obtain ⟨gf, ge⟩ := put_get (s := (textS s 0 128).1) (v := (getE (textS s 0 128).1).1) (eta_u hg)
        have hq : textS s 0 ((128 : Nat) : Int) = ((textS s 0 128).1, (textS s 0 128).2.1, 0) := eta_i ht
        obtain ⟨_, _, e1⟩ := text_backM hq
        refine ⟨(getE (textS s 0 128).1).1 :: l, by rw [List.append_assoc]; rfl, by rw [List.length_cons, hl], ?_, fun v hv => ?_⟩
        · rw [chunks, chunk, ← ge, ← hs]
          exact e1
        · rcases List.mem_cons.1 hv with rfl | hv
          · exact gf
          · exact hf v hv
      · rw [if_pos hg] at h
        exact absurd (Prod.mk.inj (Prod.mk.inj h).2).1 hg
    · rw [if_pos ht] at h
      exact absurd (Prod.mk.inj (Prod.mk.inj h).2).1 ht

def batB (l : List EvD) : List UInt8 × Int × Unit := if 256 < l.length then ([], 3, ()) else batR (putL l.length) l

theorem batB_of {l : List EvD} (h : (batB l).2.1 = 0) : l.length ≤ 256 ∧ (∀ v ∈ l, formL v = true) ∧ (batB l).1 = putL l.length ++ chunks l := by
  unfold batB at h ⊢
  by_cases hl : 256 < l.length
  · rw [if_pos hl] at h; cases h
  · rw [if_neg hl] at h ⊢
    have hf := batR_inv l _ h
    exact ⟨by omega, hf, by rw [batR_ok l _ hf]⟩

theorem batB_ok {l : List EvD} (hl : l.length ≤ 256) (h : ∀ v ∈ l, formL v = true) : batB l = (putL l.length ++ chunks l, 0, ()) := by
  unfold batB
  rw [if_neg (by omega), batR_ok l _ h]

theorem read_bat {l : List EvD} (h : (batB l).2.1 = 0) : readB (batB l).1 = (l, 0, ()) := by
  obtain ⟨hl, hf, e⟩ := batB_of h
  rw [e]
  unfold readB
  rw [num_fwd (n := l.length) (s' := chunks l) (most := 256) (by omega) (by omega)]
  simp only [Int.toNat_natCast]
  rw [read_put l [] hf, List.nil_append]

theorem bat_read {s : List UInt8} (h : (readB s).2.1 = 0) : batB (readB s).1 = (s, 0, ()) := by
  unfold readB at h ⊢
  have h0 := num_pos s 0 256
  by_cases he : (numS s 0 256).2.2 = 0
  · rw [he] at h ⊢
    have hq : numS s 0 256 = ((numS s 0 256).1, (numS s 0 256).2.1, 0) := eta_i he
    obtain ⟨_, n, e1, hn, hm, e2⟩ := num_back hq
    rw [e1, Int.toNat_natCast] at h ⊢
    obtain ⟨l, hr, hl, hs, hf⟩ := put_read n _ [] _ (eta_u h)
    rw [hr, List.nil_append, batB_ok (by omega) hf, hl, ← hs, ← e2]
  · exfalso
    unfold numS at he h
    rw [if_neg (by simp)] at he h
    split at he
    · rename_i hk
      rw [if_pos hk] at h
      rw [show (0 : Int).toNat = 0 from rfl, readA, show endR [] (takeL s).2.2 = (takeL s).2.2 from rfl, if_neg hk] at h
      exact hk h
    · rename_i hk
      rw [if_neg hk] at h
      split at he
      · rename_i hk2
        rw [if_pos hk2] at h
        rw [show (0 : Int).toNat = 0 from rfl, readA, show endR [] 3 = 3 from rfl, if_neg (by decide)] at h
        cases h
      · exact he rfl

theorem batch_eqB (N : Nat) (hN : 300 < N) (l : List EvD) : record_Batch N l = some (batB l) := batch_eq N hN l
theorem rbatch_eqB (N : Nat) (hN : 300 < N) (l : List EvD) : porterref39_Batch N l = some (batB l) := rbatch_eq N hN l

theorem putE_inv {v : EvD} : (putE v).2.1 = 0 → formL v = true := by
  unfold putE
  cases formL v with
  | true => exact fun _ => rfl
  | false => intro h; cases h

theorem putE_ok {v : EvD} (h : formL v = true) : putE v = (encE v, 0, ()) := by
  unfold putE
  rw [h]; rfl

/-! the laws -/
theorem works_eq (N : Nat) (hN : 300 < N) : porterlaw39_works N = some true := by
  have hf : formL (4, [], 300, 0, [], ()) = true := by decide
  have he : encE (4, [], 300, 0, [], ()) = [4, 0, 0, 172, 2, 0] := by decide
  rw [porterlaw39_works, put_eq' N (by omega), putE_ok hf]
  simp only [Option.bind_some]
  rw [got_eq N (by omega) (by rw [he]; decide), get_put hf]
  simp only [Option.bind_some]
  rw [he, beq_self_eq_true, cond_true, beq_self_eq_true, cond_true, eqD_self (by rfl), cond_true]

theorem puts_law (N : Nat) (hN : 400 < N) (l : List EvD) : porterlaw39_RecordPuts N l = some true := by
  rw [porterlaw39_RecordPuts, works_eq N (by omega)]
  by_cases hl : 300 < l.length
  · rw [cond_t (decide_eq_true (by omega))]; rfl
  · rw [cond_f (decide_eq_false (by omega)), porterlaw39_RecordPuts_p1, porterlaw39_RecordPuts_p2, batch_eqB N (by omega), rbatch_eqB N (by omega)]
    simp only [Option.bind_some]
    rw [beq_self_eq_true, beq_self_eq_true, cond_true, cond_true]
    refine (iter_eq (fun v => ∃ i : Nat, v = (i : Int) ∧ i ≤ l.length) (fun v => ((l.length : Int) - v).toNat) (fun _ => some true) ?_ N 0 ⟨0, rfl, by omega⟩ (by omega))
    rintro _ r ⟨i, rfl, hi⟩ hr
    rw [porterlaw39_RecordPuts_s2, porterlaw39_RecordPuts_p3]
    by_cases hlt : i < l.length
    · rw [cond_t (decide_eq_true (by omega))]
      by_cases h20 : (i : Int) < 20
      · rw [cond_t (decide_eq_true h20), porterlaw39_RecordPuts_p4, cond_t (inR_nat hlt), put_eq' N (by omega), Option.bind_some, cond_t (inR_nat hlt), rput_eq N (by omega), Option.bind_some]
        rw [porterlaw39_RecordPuts_p5, beq_self_eq_true, Bool.not_true, cond_false, bne_self_eq_false]
        simp only [cond_false]
        rw [wrap_succ (by omega)]
        exact hr _ ⟨i + 1, rfl, by omega⟩ (by omega)
      · rw [cond_f (decide_eq_false h20)]
    · rw [cond_f (decide_eq_false (by omega))]

theorem readA_len : ∀ (n : Nat) (s : List UInt8) (e : Int) (l : List EvD), (readA n s e l).1.length ≤ l.length + n
  | 0, s, e, l => by
    rw [readA]
    split
    · exact Nat.le_refl _
    · exact Nat.zero_le _
  | n + 1, s, e, l => by
    rw [readA]
    split
    · exact Nat.zero_le _
    · split
      · exact Nat.zero_le _
      · split
        · exact Nat.zero_le _
        · have := readA_len n (textS s 0 128).2.1 0 (l ++ [(getE (textS s 0 128).1).1])
          rw [List.length_append, List.length_singleton] at this
          omega

theorem same_of (N : Nat) (hN : 300 < N) (s : List UInt8) : porterbase_SameEvents N (readB s).1 (readB s).1 = some true := by
  have h1 := num_top s 0 (most := 256) (by decide)
  have := readA_len (numS s 0 256).1.toNat (numS s 0 256).2.1 (numS s 0 256).2.2 []
  rw [List.length_nil] at this
  exact same_events N _ (by unfold readB; omega) (by unfold readB; omega)

theorem gets_law (N : Nat) (hN : 400 < N) (s : List UInt8) : porterlaw39_RecordGets N s = some true := by
  rw [porterlaw39_RecordGets, works_eq N (by omega)]
  by_cases hl : 2000 < s.length
  · rw [cond_t (decide_eq_true (by omega))]; rfl
  · rw [cond_f (decide_eq_false (by omega)), got_eq N (by omega) (by omega), rgot_eq N (by omega) (by omega), read_eq N (by omega) (by omega), rread_eq N (by omega) (by omega)]
    simp only [Option.bind_some]
    rw [same_of N (by omega), eqD_self (by rfl), cond_true, beq_self_eq_true, cond_true]
    simp only [Option.bind_some]
    rw [cond_true, beq_self_eq_true, cond_true]

theorem chunks_len : ∀ (l : List EvD), (∀ v ∈ l, formL v = true) → (chunks l).length ≤ 115 * l.length
  | [], _ => by simp [chunks]
  | v :: l, h => by
    have h1 := chunk_len (form_of (h v (List.mem_cons_self ..)))
    have h2 := chunks_len l (fun u hu => h u (List.mem_cons_of_mem _ hu))
    rw [chunks, List.length_append, List.length_cons]
    omega

theorem back_loop (N : Nat) (hN : 400 < N) (l : List EvD) (s : List UInt8) (hl : l.length ≤ 40) (hf : ∀ v ∈ l, formL v = true) (k0 : Bool → Option Bool) (k1 : Option Bool) : porterlaw39_RecordBack_p6 N l s 0 k0 k1 = k1 := by
  rw [porterlaw39_RecordBack_p6]
  refine (iter_eq (fun v => ∃ i : Nat, v = (i : Int) ∧ i ≤ l.length) (fun v => ((l.length : Int) - v).toNat) (fun _ => k1) ?_ N 0 ⟨0, rfl, by omega⟩ (by omega))
  rintro _ r ⟨i, rfl, hi⟩ hr
  rw [porterlaw39_RecordBack_s6]
  by_cases hlt : i < l.length
  · have hv := hf _ (getD_mem l ((0 : Int), (([] : List UInt8), ((0 : Int), ((0 : Int), (([] : List UInt8), ()))))) i hlt)
    have hle := enc_len (form_of hv)
    rw [cond_t (decide_eq_true (by omega)), porterlaw39_RecordBack_p7, cond_t (inR_nat hlt), Int.toNat_natCast, put_eq' N (by omega), putE_ok hv, Option.bind_some]
    dsimp only
    rw [got_eq N (by omega) (by omega), get_put hv, Option.bind_some]
    dsimp only
    rw [porterlaw39_RecordBack_p8, bne_self_eq_false, cond_false, cond_false, cond_t (inR_nat hlt), Int.toNat_natCast, eqD_self (by rfl), Bool.not_true, cond_false, wrap_succ (by omega)]
    exact hr _ ⟨i + 1, rfl, by omega⟩ (by omega)
  · rw [cond_f (decide_eq_false (by omega))]

theorem back_law (N : Nat) (hN : 400 < N) (l : List EvD) (s : List UInt8) : porterlaw39_RecordBack N l s = some true := by
  rw [porterlaw39_RecordBack, porterlaw39_RecordBack_p1, porterlaw39_RecordBack_p2, works_eq N (by omega)]
  by_cases hl : 40 < l.length
  · rw [cond_t (decide_eq_true (by omega))]; rfl
  · rw [cond_f (decide_eq_false (by omega))]
    by_cases hs : 2000 < s.length
    · rw [decide_eq_true (show (2000 : Int) < ((s.length : Nat) : Int) by omega)]; rfl
    · rw [decide_eq_false (show ¬ (2000 : Int) < ((s.length : Nat) : Int) by omega), cond_false, batch_eqB N (by omega), Option.bind_some]
      have tail : ((record_Get N s).bind fun y1 => (record_Put N y1.1).bind fun y2 => (record_Read N s).bind fun y3 => (record_Batch N y3.1).bind fun y4 =>
          cond (y1.2.1 != (0 : Int))
          (cond (y3.2.1 != (0 : Int)) ((some true).bind fun y5 => some y5) (cond (y4.2.1 == (0 : Int)) (cond (y4.1 == s) ((some true).bind fun y6 => some y6) (some false)) (some false)))
          (cond (y2.2.1 == (0 : Int))
            (cond (y2.1 == s)
              (cond (y3.2.1 != (0 : Int)) ((some true).bind fun y7 => some y7) (cond (y4.2.1 == (0 : Int)) (cond (y4.1 == s) ((some true).bind fun y8 => some y8) (some false)) (some false)))
              (some false))
            (some false))) = some true := by
        rw [got_eq N (by omega) (by omega), Option.bind_some, put_eq' N (by omega), Option.bind_some, read_eq N (by omega) (by omega), Option.bind_some, batch_eqB N (by omega)]
        simp only [Option.bind_some]
        have hR : cond ((readB s).2.1 != (0 : Int)) (some true) (cond ((batB (readB s).1).2.1 == (0 : Int)) (cond ((batB (readB s).1).1 == s) (some true) (some false)) (some false)) = some true := by
          by_cases hr : (readB s).2.1 = 0
          · rw [hr, bne_self_eq_false, cond_false, bat_read hr, beq_self_eq_true, cond_true, beq_self_eq_true, cond_true]
          · rw [bne_iff_ne.2 hr, cond_true]
        rw [hR]
        by_cases hg : (getE s).2.1 = 0
        · obtain ⟨gf, ge⟩ := put_get (s := s) (v := (getE s).1) (eta_u hg)
          rw [hg, bne_self_eq_false, cond_false, putE_ok gf, beq_self_eq_true, cond_true]
          rw [cond_t (by simp only [← ge]; exact beq_self_eq_true s)]
        · rw [bne_iff_ne.2 hg, cond_true]
      rw [tail, porterlaw39_RecordBack_p3]
      by_cases he : (batB l).2.1 = 0
      · obtain ⟨h1, h2, h3⟩ := batB_of he
        have hc := chunks_len l h2
        have hp := putL_len l.length
        rw [he, beq_self_eq_true, cond_true, read_eq N (by omega) (by rw [h3, List.length_append]; omega), Option.bind_some, read_bat he]
        dsimp only
        rw [porterlaw39_RecordBack_p4, porterlaw39_RecordBack_p5, bne_self_eq_false, cond_false, same_events N l (by omega) (by omega), Option.bind_some, Bool.not_true, cond_false]
        exact back_loop N hN l s (by omega) h2 _ _
      · rw [beq_eq_false_iff_ne.2 he, cond_false]

end Go.Proofs.YtdgmejgepcodnaaLg
