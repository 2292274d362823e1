import Derived.Test.YtbkackmlmccpjaaDoorLgPrlabelsmakes5
set_option linter.all false
set_option maxRecDepth 100000
namespace Go.Proofs.YtbkackmlmccpjaaDoorLg
open Go Go.Lift Go.Proofs.YtbkackmlmccpjaaDoorPx


theorem lt_cmp : ∀ a b : List UInt8, cmpL a b < 0 ↔ a < b
  | [], [] => by simp [cmpL]
  | [], y :: ys => by simp [cmpL]
  | _ :: _, [] => by simp [cmpL]
  | x :: xs, y :: ys => by
    rw [cmpL, List.cons_lt_cons_iff]
    by_cases h1 : x < y
    · rw [if_pos h1]; simp [h1]
    · rw [if_neg h1]
      by_cases h2 : y < x
      · rw [if_pos h2]
        have : x ≠ y := fun e => by rw [e] at h1 h2; exact h1 h2
        simp [h1, this]
      · have e : x = y := by
          rw [UInt8.lt_iff_toNat_lt] at h1 h2
          exact UInt8.toNat_inj.1 (by omega)
        rw [if_neg h2, lt_cmp xs ys]
        simp [e]

theorem gt_cmp : ∀ a b : List UInt8, 0 < cmpL a b ↔ b < a
  | [], [] => by simp [cmpL]
  | [], y :: ys => by simp [cmpL]
  | _ :: _, [] => by simp [cmpL]
  | x :: xs, y :: ys => by
    rw [cmpL, List.cons_lt_cons_iff]
    by_cases h1 : x < y
    · rw [if_pos h1]
      have h2 : ¬ y < x := by rw [UInt8.lt_iff_toNat_lt] at h1 ⊢; omega
      have : y ≠ x := fun e => by rw [e] at h1; exact h2 (by rw [e]; exact h1)
      simp [h2, this]
    · rw [if_neg h1]
      by_cases h2 : y < x
      · rw [if_pos h2]; simp [h2]
      · have e : x = y := by
          rw [UInt8.lt_iff_toNat_lt] at h1 h2
          exact UInt8.toNat_inj.1 (by omega)
        rw [if_neg h2, gt_cmp xs ys]
        simp [e]


noncomputable abbrev zL (l : List LabD) : List (List UInt8) := znD (plD l l.length)

theorem zL_len {l : List LabD} (hd : distinctL l) : (zL l).length = l.length := by rw [zn_len]; exact (size_plD l l.length).2.1 hd

theorem zL_mem' {l : List LabD} {i : Nat} (hi : i < l.length) : nmL l i ∈ zL l := by
  have h := (has_plD l (nmL l i) l.length).2 ⟨i, hi, rfl⟩
  have hm : nmL l i ∈ strKeys (plD l l.length) := by
    obtain ⟨es, he, hs⟩ := plD_str l l.length
    rw [he] at h ⊢
    rw [Maps.has_eq, List.any_eq_true] at h
    obtain ⟨p, hp, hk⟩ := h
    obtain ⟨y, hy⟩ := hs p hp
    rw [hy] at hk
    have e := WideAt.sameKey_eq hk
    exact List.mem_map.2 ⟨p, hp, by rw [hy, e]; rfl⟩
  exact (List.mergeSort_perm _ _).mem_iff.2 hm

theorem zL_nodup (l : List LabD) : (zL l).Nodup := by
  have : (strKeys (plD l l.length)).Nodup := by
    obtain ⟨es, he, hp⟩ := plD_tidy l l.length
    obtain ⟨es', he', hs⟩ := plD_str l l.length
    rw [he] at he'
    cases he'
    rw [he]
    show (es.map fun p => strOf p.1).Nodup
    refine List.pairwise_map.2 (hp.imp_of_mem fun {p q} hp' hq' hne e => hne ?_)
    obtain ⟨a, ha⟩ := hs p hp'
    obtain ⟨b, hb⟩ := hs q hq'
    rw [ha, hb] at e ⊢
    exact congrArg _ e
  exact (List.mergeSort_perm _ _).nodup_iff.2 this

theorem zL_lt {l : List LabD} {s t : Nat} (hst : s < t) (ht : t < (zL l).length) : (zL l).getD s [] < (zL l).getD t [] := by
  have tr : ∀ a b c : List UInt8, leB a b = true → leB b c = true → leB a c = true := fun a b c h1 h2 => by simp only [leB, decide_eq_true_eq] at *; exact List.le_trans h1 h2
  have to : ∀ a b : List UInt8, (leB a b || leB b a) = true := fun a b => by simp only [leB, Bool.or_eq_true, decide_eq_true_eq]; exact List.le_total a b
  have hp := List.pairwise_mergeSort tr to (strKeys (plD l l.length))
  have h1 := List.pairwise_iff_getElem.1 hp s t (by show s < (zL l).length; omega) ht hst
  have h2 := List.pairwise_iff_getElem.1 (zL_nodup l) s t (by omega) ht hst
  simp only [leB, decide_eq_true_eq] at h1
  rw [List.getD_eq_getElem?_getD, List.getElem?_eq_getElem (by omega), List.getD_eq_getElem?_getD, List.getElem?_eq_getElem ht]
  simp only [Option.getD_some]
  rcases List.le_iff_lt_or_eq.1 h1 with h | h
  · exact h
  · exact absurd h h2

theorem zL_inj {l : List LabD} {s t : Nat} (hs : s < (zL l).length) (ht : t < (zL l).length) (h : ¬ (zL l).getD s [] < (zL l).getD t []) : t ≤ s := by
  rcases Nat.lt_or_ge s t with h' | h'
  · exact absurd (zL_lt h' ht) h
  · exact h'

theorem mem_idx {l : List (List UInt8)} {x : List UInt8} (h : x ∈ l) : ∃ t, t < l.length ∧ l.getD t [] = x := by
  obtain ⟨t, ht, e⟩ := List.mem_iff_getElem.1 h
  exact ⟨t, ht, by rw [List.getD_eq_getElem?_getD, List.getElem?_eq_getElem ht, ← e]; rfl⟩


def scanP : List LabD → Int
  | [] => 0
  | x :: xs => if aloneP x = 0 then scanP xs else aloneP x

theorem scan_eq (N : Nat) (hN : 40 < N) : ∀ l, ofScan N l = some (scanP l)
  | [] => rfl
  | x :: xs => by
    rw [ofScan, alone_eq N hN, Option.bind_some, scanP, scan_eq N hN xs]
    split <;> rfl

theorem scan_ok : ∀ {l : List LabD}, scanP l = 0 → ∀ i, i < l.length → aloneP (l.getD i (([] : List UInt8), (([] : List UInt8), ()))) = 0
  | [], _, i, hi => by cases hi
  | x :: xs, h, i, hi => by
    rw [scanP] at h
    by_cases ha : aloneP x = 0
    · rw [if_pos ha] at h
      cases i with
      | zero => exact ha
      | succ i => exact scan_ok h i (by simpa using hi)
    · rw [if_neg ha] at h; exact absurd h ha

def anyEq (l : List LabD) (i k : Nat) : Bool := (List.range k).any fun j => nmL l j == nmL l i
def twB (l : List LabD) (i : Nat) : Bool := (List.range i).any fun j => anyEq l j j

theorem anyEq_succ (l : List LabD) (i k : Nat) : anyEq l i (k + 1) = (anyEq l i k || (nmL l k == nmL l i)) := by
  unfold anyEq; rw [List.range_succ, List.any_append]; simp
theorem twB_succ (l : List LabD) (i : Nat) : twB l (i + 1) = (twB l i || anyEq l i i) := by
  unfold twB; rw [List.range_succ, List.any_append]; simp

theorem twB_iff (l : List LabD) : twB l l.length = true ↔ ¬ distinctL l := by
  unfold twB anyEq distinctL
  constructor
  · intro h hd
    obtain ⟨j, hj, h2⟩ := List.any_eq_true.1 h
    obtain ⟨i, hi, h3⟩ := List.any_eq_true.1 h2
    exact hd i j (List.mem_range.1 hi) (List.mem_range.1 hj) (beq_iff_eq.1 h3)
  · intro h
    apply Classical.byContradiction
    intro hn
    refine h fun i j hij hj he => hn ?_
    exact List.any_eq_true.2 ⟨j, List.mem_range.2 hj, List.any_eq_true.2 ⟨i, List.mem_range.2 hij, beq_iff_eq.2 he⟩⟩

theorem twice_eq (N : Nat) {l : List LabD} (h40 : l.length ≤ 40) (hN : 50 < N) (tw : Bool) (i : Nat) (hi : i < l.length) (k0) : porterref11_Of_p2 N l tw (i : Int) 0 k0 = k0 (tw || anyEq l i i) := by
  rw [porterref11_Of_p2, iter_eq (I := fun (v : Bool × Int) => ∃ k : Nat, v.2 = (k : Int) ∧ k ≤ i ∧ v.1 = (tw || anyEq l i k)) (m := fun v => i - v.2.toNat) (R := fun _ => k0 (tw || anyEq l i i)) ?_ N (tw, 0) ⟨0, rfl, by omega, by simp [anyEq]⟩ (by simp; omega)]
  rintro ⟨t, v⟩ r ⟨k, hv, hk, ht⟩ hr
  dsimp only at hv ht hr ⊢
  subst hv
  rw [porterref11_Of_s2]
  rcases Nat.lt_or_ge k i with h | h
  · rw [cond_t (dec_t (by omega)), porterref11_Of_p3, wrap_in (x := (k : Int) + 1) (by unfold I64; omega)]
    have e := anyEq_succ l i k
    cases t with
    | true =>
      rw [cond_true]
      exact hr (true, (k : Int) + 1) ⟨k + 1, by simp, by omega, by rw [e, ← Bool.or_assoc, ← ht]; rfl⟩ (by simp; omega)
    | false =>
      rw [cond_false, cond_t (inR_nat (by omega)), cond_t (inR_nat hi), Int.toNat_natCast, Int.toNat_natCast]
      exact hr (_, (k : Int) + 1) ⟨k + 1, by simp, by omega, by rw [e, ← Bool.or_assoc, ← ht, Bool.false_or]; rfl⟩ (by simp; omega)
  · have : k = i := by omega
    subst this
    rw [cond_f (dec_f (by omega)), ht]

theorem first_eq11 (N : Nat) {l : List LabD} (h40 : l.length ≤ 40) (hN : 50 < N) (k0 k1) : porterref11_Of_p1 N l false 0 k0 k1 = if scanP l = 0 then k1 (twB l l.length) else k0 [] (scanP l) := by
  rw [porterref11_Of_p1, iter_eq (I := fun (v : Bool × Int) => ∃ k : Nat, v.2 = (k : Int) ∧ k ≤ l.length ∧ v.1 = twB l k) (m := fun v => l.length - v.2.toNat) (R := fun v => if scanP (l.drop v.2.toNat) = 0 then k1 (twB l l.length) else k0 [] (scanP (l.drop v.2.toNat))) ?_ N (false, 0) ⟨0, rfl, by omega, rfl⟩ (by simp; omega)]
  · rfl
  rintro ⟨t, v⟩ r ⟨k, hv, hk, ht⟩ hr
  dsimp only at hv ht hr ⊢
  subst hv
  rw [porterref11_Of_s1, Int.toNat_natCast]
  rcases Nat.lt_or_ge k l.length with h | h
  · rw [cond_t (dec_t (by omega)), cond_t (inR_nat h), refLabel_eq N (by omega), Option.bind_some, cond_t (inR_nat h), wrap_in (x := (k : Int) + 1) (by unfold I64; omega), drop_lab h, scanP]
    unfold aloneP
    by_cases hb : labelL (l.getD k (([] : List UInt8), (([] : List UInt8), ()))).1 = true
    · rw [if_pos hb, hb, Bool.not_true, cond_false]
      by_cases hv : 1024 < (l.getD k (([] : List UInt8), (([] : List UInt8), ()))).2.1.length
      · simp only [if_pos hv, if_neg (show ¬ (3 : Int) = 0 by decide)]; rw [cond_t (dec_t (by omega))]
      · rw [if_neg hv, if_pos rfl, cond_f (dec_f (by omega)), twice_eq N h40 hN t k h]
        have := hr (t || anyEq l k k, (k : Int) + 1) ⟨k + 1, by simp, by omega, by rw [twB_succ, ht]⟩ (by simp; omega)
        rw [show ((k : Int) + 1).toNat = k + 1 by omega] at this
        exact this
    · simp only [if_neg hb, if_neg (show ¬ (4 : Int) = 0 by decide)]; rw [cond_t (by rw [Bool.not_eq_true] at hb; rw [hb]; rfl)]
  · have : k = l.length := by omega
    subst this
    rw [cond_f (dec_f (by omega)), List.drop_length, scanP, if_pos rfl, ht]


def IsBest (l : List LabD) (last : List UInt8) (m : Nat) (b : Int) : Prop :=
 (b = -1 ∧ ∀ j, j < m → ¬ last < nmL l j) ∨ ∃ k : Nat, b = (k : Int) ∧ k < m ∧ last < nmL l k ∧ ∀ j, j < m → last < nmL l j → ¬ nmL l j < nmL l k

theorem best_eq (N : Nat) {l : List LabD} (h40 : l.length ≤ 40) (hl : ∀ i, i < l.length → (nmL l i).length ≤ 1000) (hN : 2000 < N) (out last n k0) :
    ∃ b, porterref11_Of_p6 N l out last n (-1) 0 k0 = k0 b ∧ IsBest l last l.length b := by
  rw [porterref11_Of_p6]
  refine iter_post (I := fun (v : Int × Int) => ∃ m : Nat, v.2 = (m : Int) ∧ m ≤ l.length ∧ IsBest l last m v.1) (m := fun v => l.length - v.2.toNat) (p := fun o => ∃ b, o = k0 b ∧ IsBest l last l.length b) ?_ N (-1, 0) ⟨0, rfl, by omega, .inl ⟨rfl, fun j hj => by omega⟩⟩ (by simp; omega)
  rintro ⟨b, v⟩ r ⟨m, hv, hm, hB⟩ hr
  dsimp only at hv hB hr ⊢
  subst hv
  rw [porterref11_Of_s6]
  rcases Nat.lt_or_ge m l.length with h | h
  · have hc : ∀ x : List UInt8, porterref02_Compare N (l.getD m (([] : List UInt8), (([] : List UInt8), ()))).1 x = some (cmpL (nmL l m) x) := fun x => refCompare_eq N (by have : (l.getD m (([] : List UInt8), (([] : List UInt8), ()))).1.length ≤ 1000 := hl m h; omega) (by have : (l.getD m (([] : List UInt8), (([] : List UInt8), ()))).1.length ≤ 1000 := hl m h; omega)
    rw [cond_t (dec_t (by omega)), porterref11_Of_p7, porterref11_Of_p8, cond_t (inR_nat h), Int.toNat_natCast, hc, Option.bind_some, wrap_in (x := (m : Int) + 1) (by unfold I64; omega)]
    have hstay : IsBest l last (m + 1) b → ∃ b', r (b, (m : Int) + 1) = k0 b' ∧ IsBest l last l.length b' := fun hb => hr (b, (m : Int) + 1) ⟨m + 1, by simp, by omega, hb⟩ (by simp; omega)
    have hset : IsBest l last (m + 1) (m : Int) → ∃ b', r ((m : Int), (m : Int) + 1) = k0 b' ∧ IsBest l last l.length b' := fun hb => hr ((m : Int), (m : Int) + 1) ⟨m + 1, by simp, by omega, hb⟩ (by simp; omega)
    by_cases h1 : last < nmL l m
    · rw [cond_t (dec_t ((gt_cmp _ _).2 h1))]
      rcases hB with ⟨rfl, hB⟩ | ⟨k, rfl, hk, hk1, hk2⟩
      · rw [cond_t (dec_t (by omega)), cond_true]
        refine hset (.inr ⟨m, rfl, by omega, h1, fun j hj hjl => ?_⟩)
        rcases Nat.lt_or_ge j m with h2 | h2
        · exact absurd hjl (hB j h2)
        · have : j = m := by omega
          subst this; exact List.lt_irrefl _
      · rw [cond_f (dec_f (by omega)), cond_t (inR_nat h), cond_t (inR_nat (by omega)), Int.toNat_natCast, hc, Option.bind_some, show (l.getD k (([] : List UInt8), (([] : List UInt8), ()))).1 = nmL l k from rfl]
        by_cases h2 : nmL l m < nmL l k
        · rw [cond_t (dec_t ((lt_cmp _ _).2 h2))]
          refine hset (.inr ⟨m, rfl, by omega, h1, fun j hj hjl hjm => ?_⟩)
          rcases Nat.lt_or_ge j m with h3 | h3
          · exact hk2 j h3 hjl (List.lt_trans hjm h2)
          · have : j = m := by omega
            subst this; exact List.lt_irrefl _ hjm
        · rw [cond_f (dec_f (fun e => h2 ((lt_cmp _ _).1 e)))]
          refine hstay (.inr ⟨k, rfl, by omega, hk1, fun j hj hjl => ?_⟩)
          rcases Nat.lt_or_ge j m with h3 | h3
          · exact hk2 j h3 hjl
          · have : j = m := by omega
            subst this; exact h2
    · rw [cond_f (dec_f (fun e => h1 ((gt_cmp _ _).1 e))), cond_false]
      refine hstay ?_
      rcases hB with ⟨rfl, hB⟩ | ⟨k, rfl, hk, hk1, hk2⟩
      · refine .inl ⟨rfl, fun j hj => ?_⟩
        rcases Nat.lt_or_ge j m with h3 | h3
        · exact hB j h3
        · have : j = m := by omega
          subst this; exact h1
      · refine .inr ⟨k, rfl, by omega, hk1, fun j hj hjl => ?_⟩
        rcases Nat.lt_or_ge j m with h3 | h3
        · exact hk2 j h3 hjl
        · have : j = m := by omega
          subst this; exact absurd hjl h1
  · have : m = l.length := by omega
    subst this
    rw [cond_f (dec_f (by omega))]
    exact ⟨b, rfl, hB⟩

noncomputable def lastAt (l : List LabD) : Nat → List UInt8
  | 0 => []
  | k + 1 => (zL l).getD k []

theorem best_is {l : List LabD} (hd : distinctL l) (hne : ∀ i, i < l.length → nmL l i ≠ []) {k : Nat} (hk : k < l.length) {b : Int} (h : IsBest l (lastAt l k) l.length b) :
    ∃ i : Nat, b = (i : Int) ∧ i < l.length ∧ nmL l i = (zL l).getD k [] := by
  have hzl := zL_len hd
  have habove : ∀ t, k ≤ t → t < l.length → lastAt l k < (zL l).getD t [] := by
    intro t h1 h2
    cases k with
    | zero =>
      obtain ⟨i, hi, e⟩ := zn_mem (l := l) (k := t) (by rw [show (znD (plD l l.length)).length = (zL l).length from rfl, hzl]; exact h2)
      have := hne i hi
      show [] < (znD (plD l l.length)).getD t []
      rw [← e]
      cases hh : nmL l i with
      | nil => exact absurd hh this
      | cons x xs => exact List.nil_lt_cons _ _
    | succ k => exact zL_lt (by omega) (by omega)
  have hbelow : ∀ t, t < l.length → lastAt l k < (zL l).getD t [] → k ≤ t := by
    intro t h1 h2
    cases k with
    | zero => omega
    | succ k =>
      rcases Nat.lt_or_ge k t with h3 | h3
      · omega
      · rcases Nat.lt_or_ge t k with h4 | h4
        · exact absurd (List.lt_trans h2 (zL_lt h4 (by omega))) (List.lt_irrefl _)
        · have : t = k := by omega
          subst this; exact absurd h2 (List.lt_irrefl _)
  obtain ⟨j, hj, hje⟩ := zn_mem (l := l) (k := k) (by rw [show (znD (plD l l.length)).length = (zL l).length from rfl, hzl]; exact hk)
  have hjl : lastAt l k < nmL l j := by rw [hje]; exact habove k (Nat.le_refl _) hk
  rcases h with ⟨rfl, h⟩ | ⟨i, rfl, hi, h1, h2⟩
  · exact absurd hjl (h j hj)
  · refine ⟨i, rfl, hi, ?_⟩
    obtain ⟨t, ht, e⟩ := mem_idx (zL_mem' hi)
    have hmin := h2 j hj hjl
    rw [hje, ← e] at hmin
    have h3 : t ≤ k := zL_inj (by rw [hzl]; exact hk) ht hmin
    have h4 : k ≤ t := hbelow t (by omega) (by rw [e]; exact h1)
    rw [← e, show t = k by omega]

theorem rest_eq (N : Nat) {l : List LabD} (h40 : l.length ≤ 40) (hl : ∀ i, i < l.length → (nmL l i).length ≤ 1000) (hne : ∀ i, i < l.length → nmL l i ≠ []) (hd : distinctL l) (hN : 2000 < N) (k0 k1) :
    porterref11_Of_p4 N l [] [] 0 k0 k1 = k1 (ofOut l) := by
  have hzl := zL_len hd
  rw [porterref11_Of_p4, iter_eq (I := fun (v : List LabD × List UInt8 × Int) => ∃ k : Nat, v.2.2 = (k : Int) ∧ k ≤ l.length ∧ v.1 = ofTo l k ∧ v.2.1 = lastAt l k) (m := fun v => l.length - v.2.2.toNat) (R := fun _ => k1 (ofOut l)) ?_ N ([], [], 0) ⟨0, rfl, by omega, rfl, rfl⟩ (by simp; omega)]
  rintro ⟨out, last, v⟩ r ⟨k, hv, hk, ho, hla⟩ hr
  dsimp only at hv ho hla hr ⊢
  subst hv; subst ho; subst hla
  rw [porterref11_Of_s4]
  rcases Nat.lt_or_ge k l.length with h | h
  · rw [cond_t (dec_t (by omega)), porterref11_Of_p5]
    obtain ⟨b, hb, hB⟩ := best_eq N h40 hl hN (ofTo l k) (lastAt l k) (k : Int) (fun best => cond (decide (best < (0 : Int))) (k0 (ofTo l k) 0) (cond (inR best (List.length l)) (cond (inR best (List.length l)) (cond (!((List.getD l (Int.toNat best) (([] : List UInt8), (([] : List UInt8), ()))).2.1 == ([] : List UInt8))) (cond (inR best (List.length l)) (cond (decide ((((List.length (ofTo l k)) + 1) * 32) ≤ 70368744177664)) (r (ofTo l k ++ ([(List.getD l (Int.toNat best) (([] : List UInt8), (([] : List UInt8), ())))]), (List.getD l (Int.toNat best) (([] : List UInt8), (([] : List UInt8), ()))).1, IntKind.wrap .i64 ((k : Int) + 1))) none) none) (r (ofTo l k, (List.getD l (Int.toNat best) (([] : List UInt8), (([] : List UInt8), ()))).1, IntKind.wrap .i64 ((k : Int) + 1)))) none) none))
    refine Eq.trans hb ?_
    obtain ⟨i, rfl, hi, hn⟩ := best_is hd hne h hB
    have hs := ofTo_succ l (k := k) (by rw [show (znD (plD l l.length)).length = (zL l).length from rfl, hzl]; exact h)
    rw [show (znD (plD l l.length)).getD k [] = nmL l i from hn.symm, lbOf_at hd hi] at hs
    have hlast : (l.getD i (([] : List UInt8), (([] : List UInt8), ()))).1 = lastAt l (k + 1) := hn
    have hol := ofTo_len l k
    rw [cond_f (dec_f (by omega)), cond_t (inR_nat hi), cond_t (inR_nat hi), Int.toNat_natCast, wrap_in (x := (k : Int) + 1) (by unfold I64; omega)]
    by_cases hz : (l.getD i (([] : List UInt8), (([] : List UInt8), ()))).2.1 = []
    · rw [if_pos hz, List.append_nil] at hs
      rw [cond_f (by rw [hz]; rfl)]
      exact hr (_, _, (k : Int) + 1) ⟨k + 1, by simp, by omega, hs.symm, hlast⟩ (by simp; omega)
    · rw [if_neg hz] at hs
      rw [cond_t (by rw [Bool.not_eq_true']; exact beq_eq_false_iff_ne.2 hz), cond_t (inR_nat hi), cond_t (dec_t (by omega))]
      exact hr (_, _, (k : Int) + 1) ⟨k + 1, by simp, by omega, hs.symm, hlast⟩ (by simp; omega)
  · have : k = l.length := by omega
    subst this
    rw [cond_f (dec_f (by omega))]
    show k1 (ofTo l l.length) = k1 (ofOut l)
    rw [ofOut, show (znD (plD l l.length)).length = (zL l).length from rfl, hzl]

noncomputable def ofP (l : List LabD) : List LabD × Int × Unit :=
 if 32 < l.length then ([], 3, ()) else if scanP l = 0 then (if distinctL l then (ofOut l, 0, ()) else ([], 5, ())) else ([], scanP l, ())

theorem of_eq (N : Nat) {l : List LabD} (hl : ∀ i, i < l.length → (nmL l i).length ≤ 1000) (hN : 40 < N) : labels_Of N l = some (ofP l) := by
  unfold labels_Of ofP
  by_cases h32 : 32 < l.length
  · rw [if_pos h32, if_pos h32]
  rw [if_neg h32, if_neg h32, if_pos (fun j hj => by have := hl j hj; omega), scan_eq N hN, Option.bind_some]
  by_cases hs : scanP l = 0
  · rw [if_pos hs, if_pos hs]
    split <;> rfl
  · rw [if_neg hs, if_neg hs]

theorem ne_nil_of_scan {l : List LabD} (h : scanP l = 0) : ∀ i, i < l.length → nmL l i ≠ [] := by
  intro i hi he
  have := scan_ok h i hi
  unfold aloneP at this
  have e : (l.getD i (([] : List UInt8), (([] : List UInt8), ()))).1 = [] := he
  rw [e, show labelL [] = false from rfl, if_neg (by decide)] at this
  exact absurd this (by decide)

theorem refOf_eq (N : Nat) {l : List LabD} (hl : ∀ i, i < l.length → (nmL l i).length ≤ 1000) (hN : 2000 < N) : porterref11_Of N l = some (ofP l) := by
  unfold porterref11_Of ofP
  by_cases h32 : 32 < l.length
  · rw [if_pos h32, cond_t (dec_t (by omega))]
  rw [if_neg h32, cond_f (dec_f (by omega)), first_eq11 N (by omega) (by omega)]
  by_cases hs : scanP l = 0
  · rw [if_pos hs, if_pos hs]
    by_cases hd : distinctL l
    · rw [if_pos hd, cond_f (by
        cases h : twB l l.length with
        | false => rfl
        | true => exact absurd hd ((twB_iff l).1 h)), rest_eq N (by omega) hl (ne_nil_of_scan hs) hd hN]
    · rw [if_neg hd, cond_t ((twB_iff l).2 hd)]
  · rw [if_neg hs, if_neg hs]

end Go.Proofs.YtbkackmlmccpjaaDoorLg
