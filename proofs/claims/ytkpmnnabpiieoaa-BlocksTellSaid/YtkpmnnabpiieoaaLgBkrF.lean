/- Layer 17: what the program's partitions are. -/
import Derived.Test.YtkpmnnabpiieoaaLgChsG
import Derived.Test.YtkpmnnabpiieoaaLgBkrM
set_option linter.all false
set_option maxRecDepth 100000
namespace Go.Proofs.YtkpmnnabpiieoaaLg
open Go Go.Lift Go.Proofs.YtkpmnnabpiieoaaPx

theorem getD_set {α : Type} (l : List α) (x d : α) (i j : Nat) (hi : i < l.length) : (l.set i x).getD j d = if j = i then x else l.getD j d := by
  simp only [List.getD_eq_getElem?_getD, List.getElem?_set]
  by_cases h : j = i
  · subst h; rw [if_pos rfl, if_pos rfl, if_pos hi]; rfl
  · rw [if_neg (fun e => h e.symm), if_neg h]

theorem same_self (N : Nat) (a : List Int) (hl : a.length < 1000000) (hN : a.length < N) : porterbase_SameInts N a a = some true := by
  rw [porterbase_SameInts, cond_f (by simp), porterbase_SameInts_p1]
  exact iter_eq (step := fun (v : Int) r => porterbase_SameInts_s1 N a a v (fun i => (r i)) (fun x4 => some x4) (some true))
    (I := fun v => 0 ≤ v ∧ v ≤ a.length) (m := fun v => a.length - v.toNat) (R := fun _ => some true)
    (by
      rintro v r ⟨h0, h1⟩ hr
      obtain ⟨i, rfl⟩ := Int.eq_ofNat_of_zero_le h0
      rw [porterbase_SameInts_s1]
      by_cases hi : i < a.length
      · have wi := wrap_succ (i := i) (by omega)
        rw [cond_t (decide_eq_true (by omega)), cond_t (inR_nat hi), cond_t (inR_nat hi), cond_f (by simp), wi, hr _ ⟨by omega, by omega⟩ (by simp only [Int.toNat_natCast]; omega)]
      · rw [cond_f (decide_eq_false (by omega))]) N (0 : Int) ⟨by omega, by omega⟩ (by simp only [Int.toNat_zero]; omega)

theorem num_eqT (N : Nat) (keys : List (List Int)) (hl : keys.length ≤ 1000000) (hN : keys.length < N) :
    blocks_numberT N keys = some (grow (fun k i => eqD (T.arr 5 (T.int Go.IntKind.u64)) (keys.getD k []) (keys.getD i [])) keys.length).1 := by
  let n := keys.length
  let f : Nat → Nat → Bool := fun k i => eqD (T.arr 5 (T.int Go.IntKind.u64)) (keys.getD k []) (keys.getD i [])
  have hg : ∀ x y, eqD (T.arr 5 (T.int Go.IntKind.u64)) x y = true ↔ x = y := fun x y => eqD_iff (T.arr 5 (T.int Go.IntKind.u64)) x y rfl
  rw [blocks_numberT, cond_t (decide_eq_true ⟨by omega, by omega, by omega, by omega⟩), blocks_numberT_p1]
  exact iter_eq (step := fun (v : ((Option (List ((List Int) × Int))) × (List Int) × Int)) r => blocks_numberT_s1 N keys (keys.length : Int) v.1 v.2.1 v.2.2 (fun classes b x15 => (r (classes, b, x15))) (fun b => some b))
    (I := fun v => 0 ≤ v.2.2 ∧ v.2.2 ≤ keys.length ∧ v.2.1.length = keys.length ∧ v.2.1.take v.2.2.toNat = (grow f v.2.2.toNat).1 ∧ ∃ cl, v.1 = some cl ∧ tells (eqD (T.arr 5 (T.int Go.IntKind.u64))) (fun k => keys.getD k []) cl v.2.2.toNat)
    (m := fun v => keys.length - v.2.2.toNat) (R := fun _ => some (grow f keys.length).1)
    (by
      rintro ⟨cls, b, i⟩ r ⟨h0, h1, hb, ht, cl, hcl, htl⟩ hr
      obtain ⟨i, rfl⟩ := Int.eq_ofNat_of_zero_le h0
      simp only [Int.toNat_natCast] at h1 hb ht hcl htl ⊢
      subst hcl
      rw [blocks_numberT_s1]
      by_cases hi : i < keys.length
      · have wi := wrap_succ (i := i) (by omega)
        have hlen := htl.1
        have hmany := grow_many (fun k i => eqD (T.arr 5 (T.int Go.IntKind.u64)) (keys.getD k []) (keys.getD i [])) i
        rw [cond_t (decide_eq_true (by omega)), cond_t (inR_nat hi), blocks_numberT_p2, wi]
        simp only [Int.toNat_natCast, Option.getD_some]
        cases hc : lookM (eqD (T.arr 5 (T.int Go.IntKind.u64))) (keys.getD i []) cl with
        | none =>
          obtain ⟨t1, t2⟩ := tells_new hg htl hc
          simp only [Option.isSome_none, Option.isSome_some, Bool.not_false, cond_true]
          rw [cond_t (inR_nat (by omega)), cond_t (decide_eq_true (by omega)), hr _ ⟨by simp only; omega, by simp only; omega, by simp only [List.length_set]; exact hb, by
            simp only [Int.toNat_natCast]
            rw [take_set_succ b _ i (by omega), ht]; exact t2.symm, _, rfl, t1⟩ (by simp only [Int.toNat_natCast]; omega)]
        | some c =>
          obtain ⟨t1, t2⟩ := tells_old hg htl hc
          simp only [Option.isSome_some, Bool.not_true, cond_false, Option.getD_some]
          rw [cond_t (inR_nat (by omega)), cond_t (decide_eq_true (by omega)), hr _ ⟨by simp only; omega, by simp only; omega, by simp only [List.length_set]; exact hb, by
            simp only [Int.toNat_natCast]
            rw [take_set_succ b _ i (by omega), ht]; exact t2.symm, _, rfl, t1⟩ (by simp only [Int.toNat_natCast]; omega)]
      · have e : i = keys.length := by omega
        subst e
        rw [cond_f (decide_eq_false (by omega)), ← ht, List.take_of_length_le (by omega)]) N _ ⟨by simp only; omega, by simp only; omega, by simp only [List.length_replicate]; omega, rfl, [], rfl, tells_zero _ _⟩ (by simp only [Int.toNat_zero]; omega)

theorem num_eq2 (N : Nat) (keys : List (List Int)) (hl : keys.length ≤ 1000000) (hN : keys.length < N) :
    blocks_number2 N keys = some (grow (fun k i => eqD (T.arr 2 (T.int Go.IntKind.i64)) (keys.getD k []) (keys.getD i [])) keys.length).1 := by
  let n := keys.length
  let f : Nat → Nat → Bool := fun k i => eqD (T.arr 2 (T.int Go.IntKind.i64)) (keys.getD k []) (keys.getD i [])
  have hg : ∀ x y, eqD (T.arr 2 (T.int Go.IntKind.i64)) x y = true ↔ x = y := fun x y => eqD_iff (T.arr 2 (T.int Go.IntKind.i64)) x y rfl
  rw [blocks_number2, cond_t (decide_eq_true ⟨by omega, by omega, by omega, by omega⟩), blocks_number2_p1]
  exact iter_eq (step := fun (v : ((Option (List ((List Int) × Int))) × (List Int) × Int)) r => blocks_number2_s1 N keys (keys.length : Int) v.1 v.2.1 v.2.2 (fun classes b x15 => (r (classes, b, x15))) (fun b => some b))
    (I := fun v => 0 ≤ v.2.2 ∧ v.2.2 ≤ keys.length ∧ v.2.1.length = keys.length ∧ v.2.1.take v.2.2.toNat = (grow f v.2.2.toNat).1 ∧ ∃ cl, v.1 = some cl ∧ tells (eqD (T.arr 2 (T.int Go.IntKind.i64))) (fun k => keys.getD k []) cl v.2.2.toNat)
    (m := fun v => keys.length - v.2.2.toNat) (R := fun _ => some (grow f keys.length).1)
    (by
      rintro ⟨cls, b, i⟩ r ⟨h0, h1, hb, ht, cl, hcl, htl⟩ hr
      obtain ⟨i, rfl⟩ := Int.eq_ofNat_of_zero_le h0
      simp only [Int.toNat_natCast] at h1 hb ht hcl htl ⊢
      subst hcl
      rw [blocks_number2_s1]
      by_cases hi : i < keys.length
      · have wi := wrap_succ (i := i) (by omega)
        have hlen := htl.1
        have hmany := grow_many (fun k i => eqD (T.arr 2 (T.int Go.IntKind.i64)) (keys.getD k []) (keys.getD i [])) i
        rw [cond_t (decide_eq_true (by omega)), cond_t (inR_nat hi), blocks_number2_p2, wi]
        simp only [Int.toNat_natCast, Option.getD_some]
        cases hc : lookM (eqD (T.arr 2 (T.int Go.IntKind.i64))) (keys.getD i []) cl with
        | none =>
          obtain ⟨t1, t2⟩ := tells_new hg htl hc
          simp only [Option.isSome_none, Option.isSome_some, Bool.not_false, cond_true]
          rw [cond_t (inR_nat (by omega)), cond_t (decide_eq_true (by omega)), hr _ ⟨by simp only; omega, by simp only; omega, by simp only [List.length_set]; exact hb, by
            simp only [Int.toNat_natCast]
            rw [take_set_succ b _ i (by omega), ht]; exact t2.symm, _, rfl, t1⟩ (by simp only [Int.toNat_natCast]; omega)]
        | some c =>
          obtain ⟨t1, t2⟩ := tells_old hg htl hc
          simp only [Option.isSome_some, Bool.not_true, cond_false, Option.getD_some]
          rw [cond_t (inR_nat (by omega)), cond_t (decide_eq_true (by omega)), hr _ ⟨by simp only; omega, by simp only; omega, by simp only [List.length_set]; exact hb, by
            simp only [Int.toNat_natCast]
            rw [take_set_succ b _ i (by omega), ht]; exact t2.symm, _, rfl, t1⟩ (by simp only [Int.toNat_natCast]; omega)]
      · have e : i = keys.length := by omega
        subst e
        rw [cond_f (decide_eq_false (by omega)), ← ht, List.take_of_length_le (by omega)]) N _ ⟨by simp only; omega, by simp only; omega, by simp only [List.length_replicate]; omega, rfl, [], rfl, tells_zero _ _⟩ (by simp only [Int.toNat_zero]; omega)

/-! the sets' traits -/
def alikeB (sets : List (List Int)) (k i : Nat) : Bool := sets.all fun s => hasS s k == hasS s i

/-- after i sets, and p bytes of the next one's text -/
def TrOk (sets : List (List Int)) (i : Nat) (g : Nat → Bool) (T : List (List Int)) : Prop :=
  T.length = 256 ∧ ∀ e, e < 256 → ∃ w, T.getD e [] = [0, w, 0, 0, 0] ∧ U64 w ∧ ∀ j, j < 64 → bit w j = ((decide (j < i) && hasS (sets.getD j []) e) || (decide (j = i) && g e))

theorem tr_first (N : Nat) (sets : List (List Int)) (k0 : List (List Int) → Option (List Int)) (hN : 256 < N) :
    ∃ T, TrOk sets 0 (fun _ => false) T ∧ blocks_split_p1 N sets (List.replicate 256 ([(0 : Int), (0 : Int), (0 : Int), (0 : Int), (0 : Int)] : List Int)) (List.replicate 256 (0 : Int)) (((List.length (List.replicate 256 (0 : Int))) : Nat) : Int) (0 : Int) k0 = k0 T := by
  rw [blocks_split_p1]
  have hlen : List.length (List.replicate 256 (0 : Int)) = 256 := List.length_replicate ..
  have hx : ∀ i, (List.replicate 256 (0 : Int)).getD i 0 = 0 := fun i => by
    simp only [List.getD_eq_getElem?_getD, List.getElem?_replicate]
    split <;> rfl
  rw [hlen]
  generalize hz : List.replicate 256 (0 : Int) = z at *
  exact iter_post (step := fun (v : ((List (List Int)) × Int)) r => blocks_split_s1 N sets z ((256 : Nat) : Int) v.1 v.2 (fun traits x15 => (r (traits, x15))) k0)
    (I := fun v => 0 ≤ v.2 ∧ v.2 ≤ 256 ∧ TrOk sets 0 (fun _ => false) v.1) (m := fun v => 256 - v.2.toNat) (p := fun o => ∃ T, TrOk sets 0 (fun _ => false) T ∧ o = k0 T)
    (by
      rintro ⟨T, i⟩ r ⟨h0, h1, hT⟩ hr
      obtain ⟨i, rfl⟩ := Int.eq_ofNat_of_zero_le h0
      simp only at h1 hT ⊢
      rw [blocks_split_s1]
      by_cases hi : i < 256
      · have wi := wrap_succ (i := i) (by omega)
        obtain ⟨w, hw, hu, hb⟩ := hT.2 i hi
        have hd : and' (decide (i < T.length)) (decide (0 < (T.getD i []).length)) = true := by
          rw [hw, hT.1, decide_eq_true hi]; rfl
        rw [cond_t (decide_eq_true (by omega)), cond_t (inR_nat (by rw [hlen]; exact hi)), cond_t (inR_nat (by rw [hT.1]; exact hi)), wi]
        simp only [Int.toNat_natCast]
        rw [cond_t hd]
        refine hr _ ⟨by simp only; omega, by simp only; omega, ?_⟩ (by simp only [Int.toNat_natCast]; omega)
        refine ⟨by simp only [List.length_set]; exact hT.1, fun e he => ?_⟩
        rw [getD_set _ _ _ _ _ (by rw [hT.1]; exact hi)]
        by_cases hei : e = i
        · rw [if_pos hei, hw, hx]
          subst hei
          exact ⟨w, rfl, hu, hb⟩
        · rw [if_neg hei]; exact hT.2 e he
      · rw [cond_f (decide_eq_false (by omega))]
        exact ⟨T, hT, rfl⟩) N _ ⟨by simp only; omega, by simp only; omega, by
      refine ⟨List.length_replicate .., fun e he => ⟨0, ?_, by decide, fun j _ => ?_⟩⟩
      · simp only [List.getD_eq_getElem?_getD, List.getElem?_replicate, if_pos he]; rfl
      · rw [show (decide (j < 0)) = false from rfl, Bool.and_false]; simp [bit]⟩ (by simp only [Int.toNat_zero]; omega)

theorem ofStr_getD (s : List UInt8) (i : Nat) (h : i < s.length) : (ofStr s).getD i 0 = ((s.getD i 0).toNat : Int) := by
  simp [ofStr, List.getD_eq_getElem?_getD, List.getElem?_map, List.getElem?_eq_getElem h]

theorem inS_take (l : List UInt8) (p : Nat) (h : p < l.length) (e : Nat) : inS (l.take (p + 1)) e = (inS (l.take p) e || decide ((l.getD p 0).toNat = e)) := by
  rw [take_succ l 0 p h]
  simp [inS, List.any_append]
  rfl

theorem tr_set (N : Nat) (sets : List (List Int)) {i : Nat} (hi : i < sets.length) (hi' : i < 64) (hs : SetOk (sets.getD i [])) (x27 : List (List Int)) (x28 x29 : Int) (k0 : List (List Int) → Option (List Int)) (hN : 257 < N)
    {T0 : List (List Int)} (hT0 : TrOk sets i (fun _ => false) T0) :
    ∃ T, TrOk sets (i + 1) (fun _ => false) T ∧ blocks_split_p3 N T0 (i : Int) x27 x28 x29 (ofStr (textS (sets.getD i []))) (((List.length (ofStr (textS (sets.getD i [])))) : Nat) : Int) (0 : Int) k0 = k0 T := by
  rw [blocks_split_p3]
  have hlen := ofStr_length (textS (sets.getD i []))
  have htl := text_len (sets.getD i [])
  have hc := cntS_le (sets.getD i [])
  have hgo := ofStr_getD (textS (sets.getD i []))
  have hin := @text_in (sets.getD i [])
  have hfin : ∀ T, TrOk sets i (inS (textS (sets.getD i []))) T → TrOk sets (i + 1) (fun _ => false) T := by
    rintro T ⟨h1, h2⟩
    refine ⟨h1, fun e he => ?_⟩
    obtain ⟨w, hw, hu, hb⟩ := h2 e he
    refine ⟨w, hw, hu, fun j hj => ?_⟩
    rw [hb j hj, hin he, Bool.and_false, Bool.or_false]
    by_cases hji : j = i
    · subst hji
      rw [dec_f (p := j < j) (by omega), dec_t (p := j = j) rfl, dec_t (p := j < j + 1) (by omega)]; rfl
    · rw [dec_f (p := j = i) hji]
      by_cases hlt : j < i
      · rw [dec_t hlt, dec_t (p := j < i + 1) (by omega), Bool.false_and, Bool.or_false]
      · rw [dec_f hlt, dec_f (p := j < i + 1) (by omega)]; rfl
  rw [hlen]
  generalize htx : textS (sets.getD i []) = tx at *
  have h64 : Go.IntKind.wrap .i64 (1 + Go.IntKind.wrap .i64 (Int.tdiv (i : Int) 64)) = 1 := by
    have e : Int.tdiv (i : Int) 64 = 0 := by rw [Int.tdiv_eq_ediv_of_nonneg (by omega)]; omega
    rw [e]; decide
  have hmod : Int.tmod (i : Int) 64 = (i : Int) := by rw [Int.tmod_eq_emod_of_nonneg (by omega)]; omega
  exact iter_post (step := fun (v : ((List (List Int)) × Int)) r => blocks_split_s3 N (i : Int) x27 x28 x29 (ofStr tx) ((tx.length : Nat) : Int) v.1 v.2 (fun traits x38 => (r (traits, x38))) k0)
    (I := fun v => 0 ≤ v.2 ∧ v.2 ≤ tx.length ∧ TrOk sets i (inS (tx.take v.2.toNat)) v.1) (m := fun v => tx.length - v.2.toNat) (p := fun o => ∃ T, TrOk sets (i + 1) (fun _ => false) T ∧ o = k0 T)
    (by
      rintro ⟨T, q⟩ r ⟨h0, h1, hT⟩ hr
      obtain ⟨q, rfl⟩ := Int.eq_ofNat_of_zero_le h0
      simp only [Int.toNat_natCast] at h1 hT ⊢
      rw [blocks_split_s3]
      by_cases hq : q < tx.length
      · have wi := wrap_succ (i := q) (by omega)
        have hg := hgo q hq
        have hu8 := u8_lt (tx.getD q 0)
        have hst := fun e => inS_take tx q hq e
        generalize (tx.getD q 0).toNat = u at *
        obtain ⟨w, hw, hu, hb⟩ := hT.2 u hu8
        have hd : and' (decide (u < T.length)) (decide (1 < (T.getD u []).length)) = true := by
          rw [hw, hT.1, decide_eq_true hu8]; rfl
        rw [cond_t (decide_eq_true (by omega)), wi]
        have h1n : Int.toNat 1 = 1 := rfl
        simp only [Int.toNat_natCast, hg, h64, hmod, h1n]
        have hTl := hT.1
        rw [cond_t (inR_nat (by omega)), cond_t (decide_eq_true (by omega)), cond_t (inR_nat (by omega)), cond_t (by decide), cond_t hd, cond_t (decide_eq_true (by omega)), cond_t (inR_nat (by omega)), cond_t (by decide), cond_t hd]
        refine hr _ ⟨by simp only; omega, by simp only; omega, ?_⟩ (by simp only [Int.toNat_natCast]; omega)
        simp only [Int.toNat_natCast]
        refine ⟨by simp only [List.length_set]; exact hT.1, fun e he => ?_⟩
        rw [getD_set _ _ _ _ _ (by rw [hT.1]; exact hu8)]
        by_cases heu : e = u
        · rw [if_pos heu, hw]
          subst heu
          refine ⟨bitsOp .or .u64 w (shlI .u64 1 (i : Int)), rfl, Go.Proofs.YtkpmnnabpiieoaaPx.u64_or hu (by rw [shl1 hi']; exact Go.Proofs.YtkpmnnabpiieoaaPx.u64_pow hi'), fun j hj => ?_⟩
          rw [bit_set hu hi', hb j hj, hst e, dec_t (p := e = e) rfl, Bool.or_true, Bool.and_true]
          by_cases hji : j = i
          · subst hji
            rw [dec_t (p := j = j) rfl, Bool.or_true, Bool.or_true]
          · rw [dec_f (p := j = i) hji, dec_f (p := i = j) (fun h => hji h.symm), Bool.or_false, Bool.false_and]
        · rw [if_neg heu]
          obtain ⟨w', hw', hu', hb'⟩ := hT.2 e he
          refine ⟨w', hw', hu', fun j hj => ?_⟩
          rw [hb' j hj, hst e, dec_f (p := u = e) (fun h => heu h.symm), Bool.or_false]
      · rw [cond_f (decide_eq_false (by omega))]
        have e : tx.take q = tx := List.take_of_length_le (by omega)
        rw [e] at hT
        exact ⟨T, hfin T hT, rfl⟩) N _ ⟨by simp only; omega, by simp only; omega, by
      refine ⟨hT0.1, fun e he => ?_⟩
      obtain ⟨w, hw, hu, hb⟩ := hT0.2 e he
      exact ⟨w, hw, hu, hb⟩⟩ (by simp only [Int.toNat_zero]; omega)

theorem tr_all (k : Nat) (sets : List (List Int)) (hl : sets.length ≤ 64) (hs : ∀ s ∈ sets, SetOk s) (k0 : List (List Int) → Option (List Int)) {T0 : List (List Int)} (hT0 : TrOk sets 0 (fun _ => false) T0) :
    ∃ T, TrOk sets sets.length (fun _ => false) T ∧ blocks_split_p2 (k + 300) T0 sets (((List.length sets) : Nat) : Int) (0 : Int) k0 = k0 T := by
  rw [blocks_split_p2]
  exact iter_post (step := fun (v : ((List (List Int)) × Int)) r => blocks_split_s2 (k + 300) sets (((List.length sets) : Nat) : Int) v.1 v.2 (fun traits x29 => (r (traits, x29))) k0)
    (I := fun v => 0 ≤ v.2 ∧ v.2 ≤ sets.length ∧ TrOk sets v.2.toNat (fun _ => false) v.1) (m := fun v => sets.length - v.2.toNat) (p := fun o => ∃ T, TrOk sets sets.length (fun _ => false) T ∧ o = k0 T)
    (by
      rintro ⟨T, i⟩ r ⟨h0, h1, hT⟩ hr
      obtain ⟨i, rfl⟩ := Int.eq_ofNat_of_zero_le h0
      simp only [Int.toNat_natCast] at h1 hT ⊢
      rw [blocks_split_s2]
      by_cases hi : i < sets.length
      · have wi := wrap_succ (i := i) (by omega)
        have hsi := hs _ (getD_mem sets [] i hi)
        have ht := text_eq (k + 295) hsi (by omega)
        rw [cond_t (decide_eq_true (by omega)), cond_t (inR_nat hi)]
        simp only [Int.toNat_natCast]
        rw [ht, Option.bind_some, wi]
        obtain ⟨T1, hT1, e1⟩ := tr_set (k + 300) sets hi (by omega) hsi sets (((List.length sets) : Nat) : Int) (i : Int) (fun traits1 => r (traits1, ((i + 1 : Nat) : Int))) (by omega) hT
        rw [e1]
        exact hr _ ⟨by simp only; omega, by simp only; omega, hT1⟩ (by simp only [Int.toNat_natCast]; omega)
      · have e : i = sets.length := by omega
        subst e
        rw [cond_f (decide_eq_false (by omega))]
        exact ⟨T, hT, rfl⟩) (k + 300) _ ⟨by simp only; omega, by simp only; omega, hT0⟩ (by simp only [Int.toNat_zero]; omega)

theorem all_iff (sets : List (List Int)) (k i : Nat) : alikeB sets k i = true ↔ ∀ j, j < sets.length → hasS (sets.getD j []) k = hasS (sets.getD j []) i := by
  rw [alikeB, List.all_eq_true]
  constructor
  · intro h j hj
    exact eq_of_beq (h _ (getD_mem sets [] j hj))
  · intro h s hs
    obtain ⟨j, hj, rfl⟩ := List.getElem_of_mem hs
    have := h j hj
    rw [List.getD_eq_getElem?_getD, List.getElem?_eq_getElem hj] at this
    exact beq_iff_eq.2 this

theorem tr_alike {sets T : List (List Int)} (hl : sets.length ≤ 64) (hT : TrOk sets sets.length (fun _ => false) T) {k i : Nat} (hk : k < 256) (hi : i < 256) :
    eqD (Go.Lift.T.arr 5 (Go.Lift.T.int Go.IntKind.u64)) (T.getD k []) (T.getD i []) = alikeB sets k i := by
  obtain ⟨w, hw, hu, hb⟩ := hT.2 k hk
  obtain ⟨x, hx, hv, hc⟩ := hT.2 i hi
  rw [Bool.eq_iff_iff, eqD_iff _ _ _ rfl, all_iff, hw, hx]
  have hb' : ∀ j, j < 64 → bit w j = (decide (j < sets.length) && hasS (sets.getD j []) k) := fun j hj => by rw [hb j hj, Bool.and_false, Bool.or_false]
  have hc' : ∀ j, j < 64 → bit x j = (decide (j < sets.length) && hasS (sets.getD j []) i) := fun j hj => by rw [hc j hj, Bool.and_false, Bool.or_false]
  constructor
  · intro e j hj
    have e1 : w = x := by injection e with _ e; injection e
    have h1 := hb' j (by omega)
    have h2 := hc' j (by omega)
    rw [dec_t hj, Bool.true_and] at h1 h2
    rw [← h1, ← h2, e1]
  · intro h
    have e : w = x := word_ext hu hv (fun j hj => by
      rw [hb' j hj, hc' j hj]
      by_cases hlt : j < sets.length
      · rw [h j hlt]
      · rw [dec_f hlt]; rfl)
    rw [e]

theorem alike_refl (sets : List (List Int)) (i : Nat) : alikeB sets i i = true := (all_iff ..).2 fun _ _ => rfl
theorem alike_symm (sets : List (List Int)) (i j : Nat) : alikeB sets i j = alikeB sets j i := by
  rw [Bool.eq_iff_iff, all_iff, all_iff]
  exact ⟨fun h k hk => (h k hk).symm, fun h k hk => (h k hk).symm⟩
theorem alike_trans (sets : List (List Int)) (i j k : Nat) (h : alikeB sets i j = true) (h' : alikeB sets j k = true) : alikeB sets i k = true :=
  (all_iff ..).2 fun m hm => ((all_iff ..).1 h m hm).trans ((all_iff ..).1 h' m hm)

/-- the partition that sets make -/
def ofB (sets : List (List Int)) : List Int := (grow (alikeB sets) 256).1

theorem split_eq (k : Nat) (sets : List (List Int)) (hl : sets.length ≤ 64) (hs : ∀ s ∈ sets, SetOk s) : blocks_split (k + 300) (List.replicate 256 (0 : Int)) sets = some (ofB sets) := by
  rw [blocks_split]
  obtain ⟨T0, hT0, e0⟩ := tr_first (k + 300) sets (fun traits => blocks_split_p2 (k + 300) traits sets (((List.length sets) : Nat) : Int) (0 : Int)
    (fun traits1 => (blocks_numberT (k + 300) traits1).bind fun y => some y)) (by omega)
  rw [e0]
  obtain ⟨T1, hT1, e1⟩ := tr_all k sets hl hs (fun traits1 => (blocks_numberT (k + 300) traits1).bind fun y => some y) hT0
  rw [e1]
  show ((blocks_numberT (k + 300) T1).bind fun y => some y) = _
  rw [num_eqT (k + 300) T1 (by rw [hT1.1]; omega) (by rw [hT1.1]; omega), Option.bind_some, hT1.1, ofB]
  rw [grow_congr 256 (fun a b h1 h2 => tr_alike hl hT1 (by omega) h2)]

theorem chunk_eq (N : Nat) (l : List (List Int)) (hl : l.length ≤ 64) (hN : 1 < N) : slices_Chunk1 N l 256 = some (match l with | [] => [] | l => [(l, ())]) := by
  obtain ⟨N, rfl⟩ : ∃ M, N = M + 2 := ⟨N - 2, by omega⟩
  rw [slices_Chunk1, slices_Chunk1_p1, iter, slices_Chunk1_s1]
  cases l with
  | nil => rfl
  | cons s l =>
    generalize hll : s :: l = m at *
    have hm : 0 < m.length := by rw [← hll]; simp
    have hne : m ≠ [] := by rw [← hll]; simp
    have hcut : cut m (Int.toNat 0) m.length = m := by simp [cut]
    have hmin : (if ((m.length : Nat) : Int) < 256 then ((m.length : Nat) : Int) else 256) = (m.length : Int) := by rw [if_pos (by omega)]
    have hw : Go.IntKind.wrap .i64 (0 + (m.length : Int)) = (m.length : Int) := by rw [wrap_in (by unfold I64; omega)]; omega
    rw [hcut, hmin, hw]
    have hn : ((m.length : Nat) : Int).toNat = m.length := Int.toNat_natCast _
    rw [hn, hcut, cond_t (decide_eq_true (by omega)), cond_t (decide_eq_true (by omega)), cond_t (decide_eq_true (by omega)), cond_t (decide_eq_true (by omega)), cond_t (decide_eq_true (by omega))]
    have hit : iter (fun (v : Int) r => slices_Chunk1_s1 (N + 2) m 256 v (fun i => (r i)) (some []) (some [])) (N + 1) (Go.IntKind.wrap .i64 (0 + 256)) = some [] := by
      rw [iter, slices_Chunk1_s1, show Go.IntKind.wrap .i64 (0 + 256) = 256 from by decide, cond_f (decide_eq_false (by omega))]
    rw [hit]
    cases m with
    | nil => exact absurd rfl hne
    | cons a b => rfl

theorem of_nil (k : Nat) : ofB [] = List.replicate 256 (0 : Int) := by kernel_rfl

theorem Of_eq (k : Nat) (l : List (List Int)) (hl : l.length ≤ 64) (hs : ∀ s ∈ l, SetOk s) : blocks_Of (k + 300) l = some (ofB l) := by
  rw [blocks_Of, blocks_Of_p1, blocks_Of_fit1]
  simp only
  rw [chunk_eq _ l hl (by omega), Option.bind_some]
  cases l with
  | nil => rw [of_nil k]; rfl
  | cons s l =>
    simp only [iterL, blocks_Of_s1]
    rw [split_eq k _ hl hs]
    rfl

end Go.Proofs.YtkpmnnabpiieoaaLg
