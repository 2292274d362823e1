/- Layer 34: the laws. -/
import Derived.Test.YtkccmmbomlpgnaaDoorLgChaF
set_option linter.all false
set_option maxRecDepth 100000
namespace Go.Proofs.YtkccmmbomlpgnaaDoorLg
open Go Go.Lift Go.Proofs.YtkccmmbomlpgnaaDoorPx

/-- a token that is not great is small -/
theorem great_small (k : Nat) {t : Tk} (hk : 600 ≤ k) : ∃ b, porterref30_Great (k + 100) t = some b ∧ (b = false → t.1.length ≤ 4200 ∧ t.2.2.1.length ≤ 100 ∧ t.2.1.length ≤ 70 ∧ ∀ l ∈ t.2.1, small l) := by
  unfold porterref30_Great porterref30_Great_p1 porterref30_Great_p2
  by_cases h1 : 4200 < t.1.length
  · rw [cond_t (dec_t (by omega))]; exact ⟨true, rfl, fun h => by cases h⟩
  rw [cond_f (dec_f (by omega))]
  by_cases h2 : 100 < t.2.2.1.length
  · rw [cond_t (dec_t (by omega))]; exact ⟨true, rfl, fun h => by cases h⟩
  rw [cond_f (dec_f (by omega))]
  by_cases h3 : 70 < t.2.1.length
  · rw [show decide ((70 : Int) < ((t.2.1.length : Nat) : Int)) = true from dec_t (by omega)]; exact ⟨true, rfl, fun h => by cases h⟩
  rw [show decide ((70 : Int) < ((t.2.1.length : Nat) : Int)) = false from dec_f (by omega)]
  dsimp only
  rw [cond_false]
  unfold porterref30_Great_p3
  refine iter_post (I := fun (v : Int × Int) => ∃ i a : Nat, i ≤ t.2.1.length ∧ v = ((a : Int), (i : Int)) ∧ a ≤ 8400 * i ∧ ∀ j, j < i → small (t.2.1.getD j ([], [], ()))) (m := fun v => t.2.1.length - v.2.toNat) (p := fun o => ∃ b, o = some b ∧ (b = false → t.1.length ≤ 4200 ∧ t.2.2.1.length ≤ 100 ∧ t.2.1.length ≤ 70 ∧ ∀ l ∈ t.2.1, small l)) ?_ (k + 100) (0, 0) ⟨0, 0, by omega, rfl, by omega, fun j h => by omega⟩ (by dsimp only; omega)
  rintro v r ⟨i, a, hi, rfl, ha, hs⟩ hr
  dsimp only at hr ⊢
  unfold porterref30_Great_s3 porterref30_Great_p4 porterref30_Great_p5 porterref30_Great_p6
  by_cases hlt : i < t.2.1.length
  · have hin : inR (i : Int) t.2.1.length = true := inR_nat hlt
    rw [cond_t (dec_t (by omega))]
    simp only [hin, cond_true, Int.toNat_natCast]
    by_cases g1 : 4200 < (t.2.1.getD i ([], [], ())).1.length
    · rw [cond_t (dec_t (by omega))]; exact ⟨true, rfl, fun h => by cases h⟩
    rw [cond_f (dec_f (by omega))]
    by_cases g2 : 4200 < (t.2.1.getD i ([], [], ())).2.1.length
    · rw [show decide ((4200 : Int) < (((t.2.1.getD i ([], [], ())).2.1.length : Nat) : Int)) = true from dec_t (by omega)]; exact ⟨true, rfl, fun h => by cases h⟩
    rw [show decide ((4200 : Int) < (((t.2.1.getD i ([], [], ())).2.1.length : Nat) : Int)) = false from dec_f (by omega)]
    try dsimp only
    have hw : IntKind.wrap .i64 (IntKind.wrap .i64 ((a : Int) + (((t.2.1.getD i ([], [], ())).1.length : Nat) : Int)) + (((t.2.1.getD i ([], [], ())).2.1.length : Nat) : Int)) = ((a + (t.2.1.getD i ([], [], ())).1.length + (t.2.1.getD i ([], [], ())).2.1.length : Nat) : Int) := by
      rw [wrap_in (x := (a : Int) + _) (by unfold I64; omega), wrap_in (by unfold I64; omega)]; omega
    rw [cond_false, hw, wrap_succ (by omega)]
    refine hr _ ⟨i + 1, a + (t.2.1.getD i ([], [], ())).1.length + (t.2.1.getD i ([], [], ())).2.1.length, by omega, rfl, by omega, fun j hj => ?_⟩ (by dsimp only; omega)
    by_cases e : j = i
    · subst e; exact ⟨by omega, by omega⟩
    · exact hs j (by omega)
  · rw [cond_f (dec_f (by omega))]
    refine ⟨_, rfl, fun _ => ⟨by omega, by omega, by omega, fun l hl => ?_⟩⟩
    obtain ⟨j, hj, rfl⟩ := List.mem_iff_getElem.1 hl
    have := hs j (by omega)
    rw [show t.2.1.getD j ([], [], ()) = t.2.1[j] by simp [List.getD, hj]] at this
    exact this

theorem lawGreat (k : Nat) {t : Tk} (hk : 600 ≤ k) : ∃ b, porterlaw34_great (k + 100) t = some b ∧ (b = false → t.1.length ≤ 4200 ∧ t.2.1.length ≤ 10 ∧ ∀ l ∈ t.2.1, small l) := by
  unfold porterlaw34_great
  by_cases h : 10 < t.2.1.length
  · rw [cond_t (dec_t (by omega))]; exact ⟨true, rfl, fun h => by cases h⟩
  · rw [cond_f (dec_f (by omega))]
    obtain ⟨b, hb, h2⟩ := great_small k (t := t) hk
    rw [hb]
    exact ⟨b, rfl, fun e => ⟨(h2 e).1, by omega, (h2 e).2.2.2⟩⟩

theorem sameToken_eq (k : Nat) {a b : Tk} (ha : a.2.1.length ≤ 90) : porterbase_SameToken (k + 100) a b = some (decide (a.1 = b.1 ∧ a.2.2.1 = b.2.2.1 ∧ a.2.1 = b.2.1)) := by
  unfold porterbase_SameToken porterbase_SameToken_p1 porterbase_SameToken_p2
  by_cases h1 : ¬ a.1 = b.1
  · rw [cond_t (by simpa using h1), decide_eq_false (fun h => h1 h.1)]; rfl
  replace h1 := Classical.not_not.1 h1
  rw [cond_f (by simpa using h1)]
  by_cases h2 : ¬ a.2.2.1 = b.2.2.1
  · rw [cond_t (by simpa using h2), decide_eq_false (fun h => h2 h.2.1)]; rfl
  replace h2 := Classical.not_not.1 h2
  rw [cond_f (by simpa using h2)]
  by_cases h3 : ¬ a.2.1.length = b.2.1.length
  · rw [show ((((List.length a.2.1) : Nat) : Int) != (((List.length b.2.1) : Nat) : Int)) = true by rw [bne_iff_ne]; omega, decide_eq_false (fun h => h3 (by rw [h.2.2]))]; rfl
  replace h3 := Classical.not_not.1 h3
  rw [show ((((List.length a.2.1) : Nat) : Int) != (((List.length b.2.1) : Nat) : Int)) = false by simp [h3]]
  dsimp only
  rw [cond_false]
  unfold porterbase_SameToken_p3
  rw [iter_eq (I := fun (v : Int) => ∃ i : Nat, i ≤ a.2.1.length ∧ v = (i : Int)) (m := fun v => a.2.1.length - v.toNat) (R := fun v => some (decide (a.2.1.drop v.toNat = b.2.1.drop v.toNat))) ?_ (k + 100) 0 ⟨0, by omega, rfl⟩ (by omega)]
  · rw [show (0 : Int).toNat = 0 from rfl, List.drop_zero, List.drop_zero]
    refine congrArg some ?_
    rw [Bool.eq_iff_iff, decide_eq_true_eq, decide_eq_true_eq]
    exact ⟨fun h => ⟨h1, h2, h⟩, fun h => h.2.2⟩
  rintro v r ⟨i, hi, rfl⟩ hr
  rw [Int.toNat_natCast] at hr ⊢
  unfold porterbase_SameToken_s3
  by_cases hlt : i < a.2.1.length
  · have hd : ∀ l : List Lk, i < l.length → l.drop i = l.getD i ([], [], ()) :: l.drop (i + 1) := fun l h => drop_cons l ([], [], ()) i h
    rw [cond_t (dec_t (by omega)), cond_t (inR_nat hlt), cond_t (inR_nat (by omega)), Int.toNat_natCast, hd _ hlt, hd _ (by omega), wrap_succ (by omega)]
    by_cases he : a.2.1.getD i ([], [], ()) = b.2.1.getD i ([], [], ())
    · rw [cond_f (by rw [he, eqD_self (by rfl)]; rfl)]
      refine (hr ((i + 1 : Nat) : Int) ⟨i + 1, by omega, rfl⟩ (by omega)).trans ?_
      rw [Int.toNat_natCast, he]
      refine congrArg some ?_
      rw [Bool.eq_iff_iff, decide_eq_true_eq, decide_eq_true_eq]
      exact ⟨fun h => by rw [h], fun h => (List.cons.inj h).2⟩
    · have hne : eqD (T.pair T.str (T.pair T.str T.unit)) (a.2.1.getD i ([], [], ())) (b.2.1.getD i ([], [], ())) = false := by
        cases hq : eqD (T.pair T.str (T.pair T.str T.unit)) (a.2.1.getD i ([], [], ())) (b.2.1.getD i ([], [], ())) with
        | false => rfl
        | true => exact absurd ((eqD_iff (T.pair T.str (T.pair T.str T.unit)) _ _ rfl).1 hq) he
      rw [hne, Bool.not_false, cond_true]
      exact congrArg some (decide_eq_false (fun h => he (List.cons.inj h).1)).symm
  · rw [cond_f (dec_f (by omega)), drop_nil' a.2.1 (by omega), drop_nil' b.2.1 (by omega)]; rfl

theorem makes_law {k : Nat} {key id : List UInt8} {l : Lk} (hk : 600 ≤ k) (hw : porterlaw34_works (k + 100) = some true) : porterlaw34_ChainMakes (k + 100) key id l = some true := by
  unfold porterlaw34_ChainMakes porterlaw34_ChainMakes_p1 porterlaw34_ChainMakes_p2
  rw [hw]
  by_cases h1 : 200 < key.length
  · rw [cond_t (dec_t (by omega))]; rfl
  rw [cond_f (dec_f (by omega))]
  by_cases h2 : 500 < id.length
  · rw [cond_t (dec_t (by omega))]; rfl
  rw [cond_f (dec_f (by omega))]
  by_cases h3 : 500 < l.1.length
  · rw [cond_t (dec_t (by omega))]; rfl
  rw [cond_f (dec_f (by omega))]
  by_cases h4 : 500 < l.2.1.length
  · rw [show decide ((500 : Int) < (((List.length l.2.1) : Nat) : Int)) = true from dec_t (by omega)]; rfl
  rw [show decide ((500 : Int) < (((List.length l.2.1) : Nat) : Int)) = false from dec_f (by omega)]
  dsimp only
  have hs : small l := ⟨by omega, by omega⟩
  have hp := parts_length hs
  have hb : (frameL [[98, 105, 110, 100], id]).length ≤ 29900 := by rw [frameL_length]; simp; omega
  have hse : (frameL [[115, 101, 97, 108]]).length ≤ 29900 := by rw [frameL_length]; simp
  have hbind : chain_Bind (k + 100) key id = some (tagL (k + 100) key (frameL [[98, 105, 110, 100], id])) := by
    unfold chain_Bind; rw [parts_eq k hk (by omega) (by simp) hb]; rfl
  have hseal : chain_Seal (k + 100) key = some (tagL (k + 100) key (frameL [[115, 101, 97, 108]])) := by
    unfold chain_Seal; rw [parts_eq k hk (by omega) (by simp) hse]; rfl
  have hnext : chain_Next (k + 100) key l = some (nextT (k + 100) key l) := by
    unfold chain_Next; rw [next_eq k hk (by omega) hs]; rfl
  rw [cond_false, root_eq k hk (by omega) (by omega), Option.bind_some, show porterref04_Parts (k + 100) key [[114, 111, 111, 116], id] = some (rootT (k + 100) key id) from refParts_eq k (l := rootParts id) hk (by omega) (by simp [rootParts]) (by rw [root_length]; omega), Option.bind_some, beq_self_eq_true, cond_true,
    hnext, Option.bind_some, refParts, Option.bind_some, refParts_eq k hk (by omega) (by omega) (by omega), Option.bind_some]
  rw [show (nextT (k + 100) key l == tagL (k + 100) key (frameL (partsOf l))) = true from beq_self_eq_true _, cond_true, hbind, Option.bind_some, refParts_eq k hk (by omega) (by simp) hb, Option.bind_some, beq_self_eq_true, cond_true, hseal, Option.bind_some, refParts_eq k hk (by omega) (by simp) hse, Option.bind_some, beq_self_eq_true]
  rfl

theorem tags_law {k : Nat} {key : List UInt8} {t : Tk} (hk : 600 ≤ k) (hw : porterlaw34_works (k + 100) = some true) : porterlaw34_ChainTags (k + 100) key t = some true := by
  unfold porterlaw34_ChainTags porterlaw34_ChainTags_p1 porterlaw34_ChainTags_p2
  rw [hw]
  by_cases h1 : 200 < key.length
  · rw [cond_t (dec_t (by omega))]; rfl
  rw [cond_f (dec_f (by omega))]
  obtain ⟨b, hb, hsm⟩ := lawGreat k (t := t) hk
  rw [hb, Option.bind_some]
  cases b with
  | true => rfl
  | false =>
    obtain ⟨g1, g2, g3⟩ := hsm rfl
    dsimp only
    have hl := tagsT_length (k + 100) t.2.1 (rootT (k + 100) key t.1)
    have hw1 : IntKind.wrap .i64 ((t.2.1.length : Int) + 1) = ((t.2.1.length + 1 : Nat) : Int) := by rw [wrap_in (by unfold I64; omega)]; omega
    have hw2 : IntKind.wrap .i64 (((t.2.1.length + 1 : Nat) : Int) - 1) = ((t.2.1.length : Nat) : Int) := by rw [wrap_in (by unfold I64; omega)]; omega
    rw [cond_false, tags_eq k hk (by omega) (by omega) (by omega) g3, Option.bind_some, refTags_eq k hk (by omega) (by omega) (by omega) g3, Option.bind_some, nSame_eq _ (by omega) (by omega), Option.bind_some, beq_self_eq_true, cond_true, hl, hw1, beq_self_eq_true, cond_true, last_eq k hk (by omega) (by omega) (by omega) g3, Option.bind_some, hw2, cond_t (inR_nat (by omega)), Int.toNat_natCast, tagsT_last, beq_self_eq_true]
    rfl

theorem on_law {k : Nat} {key : List UInt8} {t : Tk} {n : Int} (hk : 600 ≤ k) (hn : 0 ≤ n ∧ n < 256) (hw : porterlaw34_works (k + 100) = some true) : porterlaw34_ChainOn (k + 100) key t n = some true := by
  unfold porterlaw34_ChainOn porterlaw34_ChainOn_p1 porterlaw34_ChainOn_p2
  rw [hw]
  by_cases h1 : 200 < key.length
  · rw [cond_t (dec_t (by omega))]; rfl
  rw [cond_f (dec_f (by omega))]
  obtain ⟨b, hb, hsm⟩ := lawGreat k (t := t) hk
  rw [hb, Option.bind_some]
  cases b with
  | true => rfl
  | false =>
    obtain ⟨g1, g2, g3⟩ := hsm rfl
    dsimp only
    obtain ⟨m, rfl⟩ := Int.eq_ofNat_of_zero_le hn.1
    have hw1 : IntKind.wrap .i64 ((t.2.1.length : Int) + 1) = ((t.2.1.length + 1 : Nat) : Int) := by rw [wrap_in (by unfold I64; omega)]; omega
    have hw2 : IntKind.wrap .i64 ((m : Nat) : Int) = ((m : Nat) : Int) := wrap_in (by unfold I64; omega)
    have hmod : Int.tmod ((m : Nat) : Int) ((t.2.1.length + 1 : Nat) : Int) = ((m % (t.2.1.length + 1) : Nat) : Int) := rfl
    have hlt : m % (t.2.1.length + 1) < t.2.1.length + 1 := Nat.mod_lt _ (by omega)
    rw [cond_false, hw1, hw2, hmod]
    generalize m % (t.2.1.length + 1) = q at hlt
    have hcut : ∀ l ∈ cut t.2.1 0 q, small l := fun l hl => by rw [cut_take] at hl; exact g3 l (List.mem_of_mem_take hl)
    have hcl : (cut t.2.1 0 q).length ≤ 100 := by rw [cut_take, List.length_take]; omega
    rw [cond_f (by rw [beq_eq_false_iff_ne]; omega), cond_t (dec_t (by omega)), Int.toNat_natCast, last_eq k (t := (t.1, cut t.2.1 0 q, [], ())) hk (by omega) (by dsimp only; omega) hcl hcut, Option.bind_some]
    unfold porterlaw34_ChainOn_p3
    have hr : (rootT (k + 100) key t.1).length = 32 := tagL_length k (key := key) (text := frameL (rootParts t.1)) hk (by omega) (by rw [root_length]; omega)
    have hll := lastT_length k hk (t.2.1.take q) (t := rootT (k + 100) key t.1) hr (fun l hl' => g3 l (List.mem_of_mem_take hl'))
    dsimp only
    rw [cut_take]
    refine iter_eq (I := fun (v : List UInt8 × Int) => ∃ i : Nat, i ≤ t.2.1.length ∧ v = (lastT (k + 100) (rootT (k + 100) key t.1) (t.2.1.take i), (i : Int))) (m := fun v => t.2.1.length - v.2.toNat) (R := fun _ => some true) ?_ (k + 100) (_, (q : Int)) ⟨q, by omega, rfl⟩ (by dsimp only; omega)
    rintro v r ⟨i, hi, rfl⟩ hr2
    dsimp only at hr2 ⊢
    unfold porterlaw34_ChainOn_s3
    by_cases hi2 : i < t.2.1.length
    · have hs := g3 _ (getD_mem t.2.1 ([], [], ()) i hi2)
      have hl2 := lastT_length k hk (t.2.1.take i) (t := rootT (k + 100) key t.1) hr (fun l hl' => g3 l (List.mem_of_mem_take hl'))
      have hnext : chain_Next (k + 100) (lastT (k + 100) (rootT (k + 100) key t.1) (t.2.1.take i)) (t.2.1.getD i ([], [], ())) = some (nextT (k + 100) (lastT (k + 100) (rootT (k + 100) key t.1) (t.2.1.take i)) (t.2.1.getD i ([], [], ()))) := by
        unfold chain_Next; rw [next_eq k hk (by omega) hs]; rfl
      rw [cond_t (dec_t (by omega)), cond_t (inR_nat hi2), Int.toNat_natCast, hnext, Option.bind_some, wrap_succ (by omega), ← lastT_snoc, ← take_succ t.2.1 ([], [], ()) i hi2]
      exact hr2 _ ⟨i + 1, by omega, rfl⟩ (by dsimp only; omega)
    · rw [cond_f (dec_f (by omega)), last_eq k hk (by omega) (by omega) (by omega) g3, show i = t.2.1.length by omega, List.take_length]
      simp only [Option.bind_some, beq_self_eq_true, cond_true]

theorem capart_law {k : Nat} {keys : List (List UInt8)} {a b : Tk} (hk : 600 ≤ k) (hkeys : keys.length = 2) (hw : porterlaw34_works (k + 100) = some true) : porterlaw34_ChainApart (k + 100) keys a b = some true := by
  unfold porterlaw34_ChainApart porterlaw34_ChainApart_p1 porterlaw34_ChainApart_p2
  rw [hw, cond_t (dec_t (by omega))]
  by_cases h1 : ¬ (keys.getD 0 []).length = 32
  · rw [cond_t (by rw [bne_iff_ne]; omega)]; rfl
  replace h1 := Classical.not_not.1 h1
  rw [cond_f (by rw [h1]; rfl), cond_t (dec_t (by omega))]
  by_cases h2 : ¬ (keys.getD 1 []).length = 32
  · rw [cond_t (by rw [bne_iff_ne]; omega)]; rfl
  replace h2 := Classical.not_not.1 h2
  rw [cond_f (by rw [h2]; rfl)]
  obtain ⟨ga, hga, hsa⟩ := lawGreat k (t := a) hk
  rw [hga, Option.bind_some]
  cases ga with
  | true => rfl
  | false =>
  obtain ⟨a1, a2, a3⟩ := hsa rfl
  obtain ⟨gb, hgb, hsb⟩ := lawGreat k (t := b) hk
  rw [cond_false, hgb, Option.bind_some]
  cases gb with
  | true => rfl
  | false =>
  obtain ⟨b1, b2, b3⟩ := hsb rfl
  dsimp only
  unfold porterlaw34_ChainApart_p3 porterlaw34_ChainApart_p4
  rw [cond_false, cond_t (dec_t (by omega)), cond_t (dec_t (by omega))]
  have hla := last_eq k (key := keys.getD 0 []) (t := (a.1, a.2.1, [], a.2.2.2)) hk (by omega) (by dsimp only; omega) (by dsimp only; omega) a3
  have hlb := last_eq k (key := keys.getD 1 []) (t := (b.1, b.2.1, [], b.2.2.2)) hk (by omega) (by dsimp only; omega) (by dsimp only; omega) b3
  dsimp only at hla hlb
  have fin : (¬ (keys.getD 0 [] = keys.getD 1 [] ∧ a.1 = b.1 ∧ a.2.1 = b.2.1)) → ((chain_Last (k + 100) (keys.getD 0 []) (a.1, a.2.1, [], a.2.2.2)).bind fun y => (chain_Last (k + 100) (keys.getD 1 []) (b.1, b.2.1, [], b.2.2.2)).bind fun y1 => cond (!(y == y1)) ((some true).bind fun y2 => some y2) (cond (decide (0 < List.length keys)) ((porterref34_Texts (k + 100) (keys.getD 0 []) (a.1, a.2.1, [], a.2.2.2)).bind fun y3 => cond (decide (1 < List.length keys)) ((porterref34_Texts (k + 100) (keys.getD 1 []) (b.1, b.2.1, [], b.2.2.2)).bind fun y4 => cond (decide (((List.length y3 + List.length y4) * 16) ≤ 70368744177664)) ((porterref03_Clash (k + 100) (y3 ++ y4)).bind fun y5 => some y5) none) none) none)) = some true := by
    intro hne
    rw [hla, Option.bind_some, hlb, Option.bind_some]
    by_cases he : ¬ lastT (k + 100) (rootT (k + 100) (keys.getD 0 []) a.1) a.2.1 = lastT (k + 100) (rootT (k + 100) (keys.getD 1 []) b.1) b.2.1
    · rw [cond_t (by simpa using he)]; rfl
    replace he := Classical.not_not.1 he
    have t1 := refTexts2_eq k (key := keys.getD 0 []) (t := (a.1, a.2.1, [], a.2.2.2)) hk (by omega) (by dsimp only; omega) (by dsimp only; omega) a3
    have t2 := refTexts2_eq k (key := keys.getD 1 []) (t := (b.1, b.2.1, [], b.2.2.2)) hk (by omega) (by dsimp only; omega) (by dsimp only; omega) b3
    dsimp only at t1 t2
    have l1 : (textsT (k + 100) (keys.getD 0 []) a.1 a.2.1).length = 2 + 2 * a.2.1.length := by unfold textsT; rw [List.length_append, linkTexts_length]; rfl
    have l2 : (textsT (k + 100) (keys.getD 1 []) b.1 b.2.1).length = 2 + 2 * b.2.1.length := by unfold textsT; rw [List.length_append, linkTexts_length]; rfl
    rw [cond_f (by simpa using he), cond_t (dec_t (by omega)), t1, Option.bind_some, cond_t (dec_t (by omega)), t2, Option.bind_some, cond_t (dec_t (by omega))]
    rcases chains_apart k (id := a.1) (jd := b.1) hk h1 h2 (by omega) (by omega) _ a.2.1 b.2.1 (Nat.le_refl _) a3 b3 he with ⟨p, hp, q, hq, hpq, hsum⟩ | h
    · rw [clash_mem hk (by rw [List.length_append]; omega) (fun x hx => ?_) (List.mem_append.2 (.inl hp)) (List.mem_append.2 (.inr hq)) hpq hsum]; rfl
      rcases List.mem_append.1 hx with hx | hx
      · exact textsT_small k hk (by omega) (by omega) a3 x hx
      · exact textsT_small k hk (by omega) (by omega) b3 x hx
    · exact absurd h hne
  have hst : porterbase_SameToken (k + 100) (a.1, a.2.1, [], a.2.2.2) (b.1, b.2.1, [], b.2.2.2) = some (decide (a.1 = b.1 ∧ a.2.1 = b.2.1)) := by
    rw [sameToken_eq k (by dsimp only; omega)]
    refine congrArg some ?_
    rw [Bool.eq_iff_iff, decide_eq_true_eq, decide_eq_true_eq]
    exact ⟨fun h => ⟨h.1, h.2.2⟩, fun h => ⟨h.1, rfl, h.2⟩⟩
  have d0 : decide (0 < keys.length) = true := dec_t (by omega)
  have d1 : decide (1 < keys.length) = true := dec_t (by omega)
  by_cases h5 : keys.getD 0 [] = keys.getD 1 []
  · have e5 : (keys.getD 0 [] == keys.getD 1 []) = true := beq_iff_eq.2 h5
    rw [e5, cond_true, hst, Option.bind_some]
    by_cases h6 : a.1 = b.1 ∧ a.2.1 = b.2.1
    · have e6 : lastT (k + 100) (rootT (k + 100) (keys.getD 0 []) a.1) a.2.1 = lastT (k + 100) (rootT (k + 100) (keys.getD 1 []) b.1) b.2.1 := by rw [h5, h6.1, h6.2]
      rw [e6] at hla
      simp only [decide_eq_true h6, cond_true, d0, d1, hla, hlb, Option.bind_some, beq_self_eq_true, hw]
    · rw [decide_eq_false h6]
      dsimp only
      rw [cond_false, d0, cond_true]
      have := fin fun h => h6 h.2
      rw [d0, d1] at this
      simp only [hla, hlb, d1, cond_true, Option.bind_some] at this ⊢
      exact this
  · have e5 : (keys.getD 0 [] == keys.getD 1 []) = false := beq_eq_false_iff_ne.2 h5
    rw [e5, cond_false]
    dsimp only
    rw [cond_false, d0, cond_true]
    have := fin fun h => h5 h.1
    rw [d0, d1] at this
    simp only [hla, hlb, d1, cond_true, Option.bind_some] at this ⊢
    exact this
end Go.Proofs.YtkccmmbomlpgnaaDoorLg
