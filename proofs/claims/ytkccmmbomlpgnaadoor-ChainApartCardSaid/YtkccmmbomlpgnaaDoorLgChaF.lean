/- Layer 34: chains of tags. -/
import Derived.Test.YtkccmmbomlpgnaaDoorLgBoxF
set_option linter.all false
set_option maxRecDepth 100000
namespace Go.Proofs.YtkccmmbomlpgnaaDoorLg
open Go Go.Lift Go.Proofs.YtkccmmbomlpgnaaDoorPx

abbrev Lk : Type := List UInt8 × List UInt8 × Unit
abbrev Tk : Type := List UInt8 × List Lk × List UInt8 × Unit

def partsOf (l : Lk) : List (List UInt8) := cond (l.2.1 == ([] : List UInt8)) [[102, 105, 114, 115, 116], l.1] [[116, 104, 105, 114, 100], l.2.1, l.1]
def rootParts (id : List UInt8) : List (List UInt8) := [[114, 111, 111, 116], id]
noncomputable def nextT (N : Nat) (t : List UInt8) (l : Lk) : List UInt8 := tagL N t (frameL (partsOf l))
noncomputable def rootT (N : Nat) (key id : List UInt8) : List UInt8 := tagL N key (frameL (rootParts id))
noncomputable def lastT (N : Nat) (t : List UInt8) (ls : List Lk) : List UInt8 := ls.foldl (nextT N) t
noncomputable def tagsT (N : Nat) : List UInt8 → List Lk → List (List UInt8)
  | t, [] => [t]
  | t, l :: ls => t :: tagsT N (nextT N t l) ls

def small (l : Lk) : Prop := l.1.length ≤ 4200 ∧ l.2.1.length ≤ 4200

theorem parts_length {l : Lk} (h : small l) : (frameL (partsOf l)).length ≤ 8500 ∧ (partsOf l).length ≤ 3 := by
  unfold small at h
  unfold partsOf
  cases l.2.1 == ([] : List UInt8) with
  | true => rw [cond_true, frameL_length]; simp; omega
  | false => rw [cond_false, frameL_length]; simp; omega

theorem root_length {id : List UInt8} : (frameL (rootParts id)).length = 20 + id.length := by
  rw [frameL_length]; simp [rootParts]; omega

theorem tagsT_length (N : Nat) : ∀ (ls : List Lk) (t : List UInt8), (tagsT N t ls).length = ls.length + 1
  | [], t => rfl
  | l :: ls, t => by rw [tagsT, List.length_cons, tagsT_length N ls, List.length_cons]

theorem tagsT_last (N : Nat) : ∀ (ls : List Lk) (t : List UInt8), (tagsT N t ls).getD ls.length [] = lastT N t ls
  | [], t => rfl
  | l :: ls, t => by
    show (tagsT N (nextT N t l) ls).getD ls.length [] = _
    rw [tagsT_last N ls]; rfl

theorem nextT_length (k : Nat) {t : List UInt8} {l : Lk} (hk : 600 ≤ k) (ht : t.length ≤ 30000) (hl : small l) : (nextT (k + 100) t l).length = 32 := by
  have := parts_length hl
  exact tagL_length k hk ht (by omega)

theorem lastT_length (k : Nat) (hk : 600 ≤ k) : ∀ (ls : List Lk) {t : List UInt8}, t.length = 32 → (∀ l ∈ ls, small l) → (lastT (k + 100) t ls).length = 32
  | [], t, ht, _ => ht
  | l :: ls, t, ht, h => lastT_length k hk ls (nextT_length k hk (by omega) (h l (by simp))) (fun x hx => h x (by simp [hx]))

theorem lastT_nil (N : Nat) (t : List UInt8) : lastT N t [] = t := rfl
theorem lastT_cons (N : Nat) (t : List UInt8) (l : Lk) (ls : List Lk) : lastT N t (l :: ls) = lastT N (nextT N t l) ls := rfl
theorem lastT_snoc (N : Nat) (t : List UInt8) (ls : List Lk) (l : Lk) : lastT N t (ls ++ [l]) = nextT N (lastT N t ls) l := by
  unfold lastT; rw [List.foldl_append]; rfl

/-! ## the program -/
theorem root_eq (k : Nat) {key id : List UInt8} (hk : 600 ≤ k) (hl : key.length ≤ 30000) (hi : id.length ≤ 8000) : chain_Root (k + 100) key id = some (rootT (k + 100) key id) := by
  unfold chain_Root
  rw [show hmac_Parts (k + 100) key [[114, 111, 111, 116], id] = some (rootT (k + 100) key id) from parts_eq k (l := rootParts id) hk hl (by simp [rootParts]) (by rw [root_length]; omega)]
  rfl

theorem next_eq (k : Nat) {t : List UInt8} {l : Lk} (hk : 600 ≤ k) (ht : t.length ≤ 30000) (hl : small l) : chain_tag_next (k + 100) t l = some (nextT (k + 100) t l) := by
  have hp := parts_length hl
  unfold chain_tag_next
  have h := parts_eq k (key := t) (l := partsOf l) hk ht (by omega) (by omega)
  unfold nextT
  unfold partsOf at h ⊢
  cases hc : l.2.1 == ([] : List UInt8) with
  | true => rw [hc, cond_true] at h; rw [cond_true, cond_true, h]; rfl
  | false => rw [hc, cond_false] at h; rw [cond_false, cond_false, h]; rfl

theorem along_eq (k : Nat) {t : List UInt8} {ls : List Lk} (hk : 600 ≤ k) (ht : t.length = 32) (hn : ls.length ≤ 500) (hl : ∀ l ∈ ls, small l) : chain_along1 (k + 100) t ls () = some ((tagsT (k + 100) t ls).map fun x => (x, ())) := by
  have key : ∀ (d i : Nat) (u : List UInt8), i + d = ls.length → u.length = 32 → ∀ n, d < n →
      iter (fun (v : List UInt8 × Int) r => chain_along1_s1 (k + 100) () ls ((ls.length : Nat) : Int) v.1 v.2 (fun t x15 => r (t, x15)) (some []) (some [])) n (u, (i : Int)) = some ((tagsT (k + 100) u (ls.drop i)).tail.map fun x => (x, ())) := by
    intro d
    induction d with
    | zero =>
      intro i u hi hu n hn
      obtain ⟨n, rfl⟩ : ∃ m, n = m + 1 := ⟨n - 1, by omega⟩
      simp only [iter]
      unfold chain_along1_s1
      rw [cond_f (dec_f (by omega)), drop_nil' ls (by omega)]; rfl
    | succ d ih =>
      intro i u hi hu n hn
      obtain ⟨n, rfl⟩ : ∃ m, n = m + 1 := ⟨n - 1, by omega⟩
      have hlt : i < ls.length := by omega
      have hs := hl _ (getD_mem ls ([], [], ()) i hlt)
      have h2 := ih (i + 1) (nextT (k + 100) u (ls.getD i ([], [], ()))) (by omega) (nextT_length k hk (by omega) hs) n (by omega)
      simp only [iter]
      unfold chain_along1_s1 at h2 ⊢
      rw [cond_t (dec_t (by omega)), cond_t (inR_nat hlt), Int.toNat_natCast, next_eq k hk (by omega) hs, Option.bind_some, wrap_succ (by omega)]
      dsimp only
      rw [h2, comb_some, drop_cons ls ([], [], ()) i hlt]
      cases hd : ls.drop (i + 1) <;> rfl
  unfold chain_along1 chain_along1_p1
  rw [show (0 : Int) = ((0 : Nat) : Int) from rfl, key ls.length 0 t (by omega) ht (k + 100) (by omega), comb_some, List.drop_zero]
  cases ls <;> rfl

theorem tags_eq (k : Nat) {key : List UInt8} {t : Tk} (hk : 600 ≤ k) (hl : key.length ≤ 30000) (hi : t.1.length ≤ 8000) (hn : t.2.1.length ≤ 100) (hs : ∀ l ∈ t.2.1, small l) : chain_Tags (k + 100) key t = some (tagsT (k + 100) (rootT (k + 100) key t.1) t.2.1) := by
  have hr : (rootT (k + 100) key t.1).length = 32 := tagL_length k (key := key) (text := frameL (rootParts t.1)) hk hl (by rw [root_length]; omega)
  have hw : IntKind.wrap .i64 ((1 : Int) + ((t.2.1.length : Nat) : Int)) = ((1 + t.2.1.length : Nat) : Int) := by rw [wrap_in (by unfold I64; omega)]; omega
  unfold chain_Tags
  rw [hw, cond_t (dec_t ⟨by omega, by omega, by omega, by omega⟩), root_eq k hk hl hi, Option.bind_some]
  unfold chain_Tags_p1 chain_Tags_fit1
  dsimp only
  rw [along_eq k hk hr (by omega) hs, Option.bind_some]
  rw [iterL_ok (fun (v : List (List UInt8)) (ys : List (List UInt8 × Unit)) => v.length + ys.length ≤ 1000) (fun v y => v ++ [y.1]) (by
    intro y ys v r hI
    rw [List.length_cons] at hI
    refine ⟨?_, by rw [List.length_append, List.length_singleton]; omega⟩
    unfold chain_Tags_s1
    rw [cond_t (dec_t (by omega))]) _ _ (by rw [List.length_map, tagsT_length, List.length_nil]; omega)]
  have : ∀ (ys : List (List UInt8)) (a : List (List UInt8)), (ys.map fun x => (x, ())).foldl (fun v (y : List UInt8 × Unit) => v ++ [y.1]) a = a ++ ys := by
    intro ys
    induction ys with
    | nil => intro a; simp
    | cons y ys ih => intro a; rw [List.map_cons, List.foldl_cons, ih]; simp
  rw [this]; rfl

theorem last_eq (k : Nat) {key : List UInt8} {t : Tk} (hk : 600 ≤ k) (hl : key.length ≤ 30000) (hi : t.1.length ≤ 8000) (hn : t.2.1.length ≤ 100) (hs : ∀ l ∈ t.2.1, small l) : chain_Last (k + 100) key t = some (lastT (k + 100) (rootT (k + 100) key t.1) t.2.1) := by
  have hr : (rootT (k + 100) key t.1).length = 32 := tagL_length k (key := key) (text := frameL (rootParts t.1)) hk hl (by rw [root_length]; omega)
  unfold chain_Last
  rw [root_eq k hk hl hi, Option.bind_some]
  unfold chain_Last_p1 chain_Last_fit1
  dsimp only
  rw [along_eq k hk hr (by omega) hs, Option.bind_some]
  rw [iterL_ok (step := fun (y : List UInt8 × Unit) (v : List UInt8) r => chain_Last_s1 (k + 100) v y (fun last_1 => r last_1) fun last_1 => some last_1) (fin := fun v => some v) (fun _ _ => True) (fun v y => y.1) (fun y ys v r _ => ⟨rfl, trivial⟩) _ _ trivial]
  have : ∀ (ls : List Lk) (u a : List UInt8), ((tagsT (k + 100) u ls).map fun x => (x, ())).foldl (fun v (y : List UInt8 × Unit) => y.1) a = lastT (k + 100) u ls := by
    intro ls
    induction ls with
    | nil => intro u a; rfl
    | cons l ls ih => intro u a; rw [tagsT, List.map_cons, List.foldl_cons, ih]; rfl
  rw [this]

/-! ## the reference -/
theorem refParts (N : Nat) (l : Lk) : porterref34_NextParts N l = some (partsOf l) := by
  unfold porterref34_NextParts partsOf
  cases l.2.1 == ([] : List UInt8) <;> rfl

theorem refNext_eq (k : Nat) {t : List UInt8} {l : Lk} (hk : 600 ≤ k) (ht : t.length ≤ 30000) (hl : small l) : porterref04_Parts (k + 100) t (partsOf l) = some (nextT (k + 100) t l) := by
  have hp := parts_length hl
  unfold nextT
  exact refParts_eq k hk ht (by omega) (by omega)

theorem refTags_eq (k : Nat) {key : List UInt8} {t : Tk} (hk : 600 ≤ k) (hl : key.length ≤ 30000) (hi : t.1.length ≤ 8000) (hn : t.2.1.length ≤ 100) (hs : ∀ l ∈ t.2.1, small l) : porterref34_Tags (k + 100) key t = some (tagsT (k + 100) (rootT (k + 100) key t.1) t.2.1) := by
  have hr : (rootT (k + 100) key t.1).length = 32 := tagL_length k (key := key) (text := frameL (rootParts t.1)) hk hl (by rw [root_length]; omega)
  unfold porterref34_Tags
  rw [show porterref04_Parts (k + 100) key [[114, 111, 111, 116], t.1] = some (rootT (k + 100) key t.1) from refParts_eq k (l := rootParts t.1) hk hl (by simp [rootParts]) (by rw [root_length]; omega), Option.bind_some]
  unfold porterref34_Tags_p1
  generalize rootT (k + 100) key t.1 = root at hr ⊢
  rw [iter_eq (I := fun (v : List UInt8 × List (List UInt8) × Int) => ∃ i : Nat, i ≤ t.2.1.length ∧ v.2.2 = (i : Int) ∧ v.1.length = 32 ∧ v.2.1.length ≤ 200 + i) (m := fun v => t.2.1.length - v.2.2.toNat) (R := fun v => some (v.2.1 ++ (tagsT (k + 100) v.1 (t.2.1.drop v.2.2.toNat)).tail)) ?_ (k + 100) (root, [root], 0) ⟨0, by omega, rfl, hr, by dsimp only; rw [List.length_singleton]; omega⟩ (by dsimp only; omega)]
  · dsimp only
    rw [show (0 : Int).toNat = 0 from rfl, List.drop_zero]
    cases t.2.1 <;> rfl
  rintro ⟨u, out, z⟩ r ⟨i, hi2, e, hu, ho⟩ hr2
  dsimp only at e hu ho hr2 ⊢
  subst e
  rw [Int.toNat_natCast] at hr2 ⊢
  unfold porterref34_Tags_s1
  by_cases hlt : i < t.2.1.length
  · have hsm := hs _ (getD_mem t.2.1 ([], [], ()) i hlt)
    have hp := parts_length hsm
    have hnx := nextT_length k (t := u) hk (by omega) hsm
    rw [cond_t (dec_t (by omega)), cond_t (inR_nat hlt), Int.toNat_natCast, refParts, Option.bind_some, refNext_eq k hk (by omega) hsm, Option.bind_some, cond_t (dec_t (by omega)), wrap_succ (by omega)]
    generalize hge : nextT (k + 100) u (t.2.1.getD i ([], [], ())) = nx at hnx ⊢
    refine (hr2 (nx, out ++ [nx], ((i + 1 : Nat) : Int)) ⟨i + 1, by omega, rfl, hnx, by simp; omega⟩ (by dsimp only; omega)).trans ?_
    dsimp only
    rw [Int.toNat_natCast, drop_cons t.2.1 ([], [], ()) i hlt, List.append_assoc, tagsT, hge]
    cases t.2.1.drop (i + 1) <;> rfl
  · rw [cond_f (dec_f (by omega)), drop_nil' t.2.1 (by omega)]; simp [tagsT]

noncomputable def linkTexts (N : Nat) : List UInt8 → List Lk → List (List UInt8)
  | _, [] => []
  | t, l :: ls => textsL N t (frameL (partsOf l)) ++ linkTexts N (nextT N t l) ls
noncomputable def textsT (N : Nat) (key id : List UInt8) (ls : List Lk) : List (List UInt8) := textsL N key (frameL (rootParts id)) ++ linkTexts N (rootT N key id) ls

theorem linkTexts_length (N : Nat) : ∀ (ls : List Lk) (t : List UInt8), (linkTexts N t ls).length = 2 * ls.length
  | [], t => rfl
  | l :: ls, t => by rw [linkTexts, List.length_append, linkTexts_length N ls, List.length_cons]; simp [textsL]; omega

theorem linkTexts_snoc (N : Nat) (l : Lk) : ∀ (ls : List Lk) (t : List UInt8), linkTexts N t (ls ++ [l]) = linkTexts N t ls ++ textsL N (lastT N t ls) (frameL (partsOf l))
  | [], t => by simp [linkTexts, lastT]
  | m :: ls, t => by
    rw [List.cons_append, linkTexts, linkTexts_snoc N l ls, linkTexts, List.append_assoc]; rfl

theorem refTexts2_eq (k : Nat) {key : List UInt8} {t : Tk} (hk : 600 ≤ k) (hl : key.length ≤ 30000) (hi : t.1.length ≤ 8000) (hn : t.2.1.length ≤ 100) (hs : ∀ l ∈ t.2.1, small l) : porterref34_Texts (k + 100) key t = some (textsT (k + 100) key t.1 t.2.1) := by
  have hr : (rootT (k + 100) key t.1).length = 32 := tagL_length k (key := key) (text := frameL (rootParts t.1)) hk hl (by rw [root_length]; omega)
  unfold porterref34_Texts
  rw [refTags_eq k hk hl hi hn hs, Option.bind_some, show porterref04_Frame (k + 100) [[114, 111, 111, 116], t.1] = some (frameL (rootParts t.1)) from refFrameN k (l := rootParts t.1) (by simp [rootParts]) (by rw [root_length]; omega), Option.bind_some, texts_eq k hk hl (by rw [root_length]; omega), Option.bind_some]
  unfold porterref34_Texts_p1
  have htl := tagsT_length (k + 100) t.2.1 (rootT (k + 100) key t.1)
  have hT0 : (textsL (k + 100) key (frameL (rootParts t.1))).length = 2 := by unfold textsL; rfl
  unfold textsT
  change (iter _ _ (textsL (k + 100) key (frameL (rootParts t.1)), (0 : Int))) = _
  generalize textsL (k + 100) key (frameL (rootParts t.1)) = T0 at hT0 ⊢
  generalize rootT (k + 100) key t.1 = root at hr htl ⊢
  have hget : ∀ (ls : List Lk) (u : List UInt8) (i : Nat), i ≤ ls.length → (tagsT (k + 100) u ls).getD i [] = lastT (k + 100) u (ls.take i) := by
    intro ls
    induction ls with
    | nil => intro u i hi; have : i = 0 := by simpa using hi
             subst this; rfl
    | cons l ls ih =>
      intro u i hi
      cases i with
      | zero => rw [tagsT, List.getD_cons_zero, List.take_zero, lastT_nil]
      | succ i => rw [tagsT, List.getD_cons_succ, List.take_succ_cons, lastT_cons]; exact ih (nextT (k + 100) u l) i (by simpa using hi)
  rw [iter_eq (I := fun (v : List (List UInt8) × Int) => ∃ i : Nat, i ≤ t.2.1.length ∧ v.2 = (i : Int) ∧ v.1.length ≤ 300 + 2 * i) (m := fun v => t.2.1.length - v.2.toNat) (R := fun v => some (v.1 ++ linkTexts (k + 100) (lastT (k + 100) (root) (t.2.1.take v.2.toNat)) (t.2.1.drop v.2.toNat))) ?_ (k + 100) (T0, 0) ⟨0, by omega, rfl, by dsimp only; omega⟩ (by dsimp only; omega)]
  · dsimp only
    rw [show (0 : Int).toNat = 0 from rfl, List.drop_zero]; rfl
  rintro ⟨out, z⟩ r ⟨i, hi2, e, ho⟩ hr2
  dsimp only at e ho hr2 ⊢
  subst e
  rw [Int.toNat_natCast] at hr2 ⊢
  unfold porterref34_Texts_s1
  by_cases hlt : i < t.2.1.length
  · have hsm := hs _ (getD_mem t.2.1 ([], [], ()) i hlt)
    have hp := parts_length hsm
    have hll := lastT_length k hk (t.2.1.take i) (t := root) hr (fun l hl' => hs l (List.mem_of_mem_take hl'))
    rw [cond_t (dec_t (by omega)), cond_t (inR_nat (by omega)), cond_t (inR_nat hlt), Int.toNat_natCast, refParts, Option.bind_some, refFrameN k (by omega) (by omega), Option.bind_some, hget _ _ _ (by omega), texts_eq k hk (by omega) (by omega), Option.bind_some, cond_t (dec_t (by simp; omega)), wrap_succ (by omega)]
    refine (hr2 (out ++ [innerL (k + 100) (lastT (k + 100) (root) (t.2.1.take i)) (frameL (partsOf (t.2.1.getD i ([], [], ())))), outerL (k + 100) (lastT (k + 100) (root) (t.2.1.take i)) (frameL (partsOf (t.2.1.getD i ([], [], ()))))], ((i + 1 : Nat) : Int)) ⟨i + 1, by omega, rfl, by simp; omega⟩ (by dsimp only; omega)).trans ?_
    dsimp only
    rw [Int.toNat_natCast, drop_cons t.2.1 ([], [], ()) i hlt, take_succ t.2.1 ([], [], ()) i hlt, lastT_snoc, linkTexts, List.append_assoc]
    rfl
  · rw [cond_f (dec_f (by omega)), drop_nil' t.2.1 (by omega)]; simp [linkTexts]

/-! ## unlike tokens -/
theorem frame_inj {a b : List (List UInt8)} (ha : ∀ p ∈ a, p.length < 9223372036854775808) (hb : ∀ p ∈ b, p.length < 9223372036854775808) (h : frameL a = frameL b) : a = b := by
  have h1 := split_frame a ha
  have h2 := split_frame b hb
  rw [h] at h1
  exact Option.some.inj (h1.symm.trans h2)

theorem parts_mem {l : Lk} (h : small l) : ∀ p ∈ partsOf l, p.length < 9223372036854775808 := by
  unfold small at h
  intro p hp
  unfold partsOf at hp
  cases hc : l.2.1 == ([] : List UInt8) <;> rw [hc] at hp <;> simp at hp
  · rcases hp with rfl | rfl | rfl
    · simp
    · omega
    · omega
  · rcases hp with rfl | rfl
    · simp
    · omega

theorem root_mem {id : List UInt8} (h : id.length ≤ 8000) : ∀ p ∈ rootParts id, p.length < 9223372036854775808 := by
  intro p hp
  simp [rootParts] at hp
  rcases hp with rfl | rfl
  · simp
  · omega

theorem parts_root {l : Lk} {id : List UInt8} (h : partsOf l = rootParts id) : False := by
  unfold partsOf rootParts at h
  cases hc : l.2.1 == ([] : List UInt8) <;> rw [hc] at h <;> simp at h

theorem parts_inj {l m : Lk} (h : partsOf l = partsOf m) : l = m := by
  obtain ⟨a, b, u⟩ := l
  obtain ⟨c, d, w⟩ := m
  unfold partsOf at h
  dsimp only at h
  cases hb : b == ([] : List UInt8) <;> cases hd : d == ([] : List UInt8) <;> rw [hb, hd] at h <;> simp at h
  · obtain ⟨rfl, rfl⟩ := h; rfl
  · subst h
    rw [beq_iff_eq] at hb hd
    subst hb; subst hd; rfl

def Clashes (N : Nat) (A B : List (List UInt8)) : Prop := ∃ p ∈ A, ∃ q ∈ B, p ≠ q ∧ sumL N p = sumL N q

theorem Clashes.mono {N : Nat} {A B A' B' : List (List UInt8)} (hA : ∀ p ∈ A, p ∈ A') (hB : ∀ p ∈ B, p ∈ B') : Clashes N A B → Clashes N A' B'
  | ⟨p, hp, q, hq, h⟩ => ⟨p, hA p hp, q, hB q hq, h⟩

theorem tag_clash (k : Nat) {a b s t : List UInt8} (hk : 600 ≤ k) (ha : a.length = 32) (hb : b.length = 32) (hs : s.length ≤ 29900) (ht : t.length ≤ 29900) (h : tagL (k + 100) a s = tagL (k + 100) b t) :
    Clashes (k + 100) (textsL (k + 100) a s) (textsL (k + 100) b t) ∨ (a = b ∧ s = t) := by
  rcases tag_apart k hk ha hb hs ht h with ⟨h1, h2⟩ | ⟨h1, ⟨h2, h3⟩ | h2⟩
  · exact .inl ⟨_, outer_mem _ _ _, _, outer_mem _ _ _, h1, h2⟩
  · exact .inl ⟨_, inner_mem _ _ _, _, inner_mem _ _ _, h2, h3⟩
  · exact .inr ⟨h1, h2⟩

theorem chains_apart (k : Nat) {a b id jd : List UInt8} (hk : 600 ≤ k) (ha : a.length = 32) (hb : b.length = 32) (hid : id.length ≤ 8000) (hjd : jd.length ≤ 8000) : ∀ (n : Nat) (L M : List Lk), L.length + M.length ≤ n → (∀ l ∈ L, small l) → (∀ l ∈ M, small l) →
    lastT (k + 100) (rootT (k + 100) a id) L = lastT (k + 100) (rootT (k + 100) b jd) M → Clashes (k + 100) (textsT (k + 100) a id L) (textsT (k + 100) b jd M) ∨ (a = b ∧ id = jd ∧ L = M) := by
  have hra : (rootT (k + 100) a id).length = 32 := tagL_length k (key := a) (text := frameL (rootParts id)) hk (by omega) (by rw [root_length]; omega)
  have hrb : (rootT (k + 100) b jd).length = 32 := tagL_length k (key := b) (text := frameL (rootParts jd)) hk (by omega) (by rw [root_length]; omega)
  have hsn : ∀ (a id : List UInt8) (L : List Lk) (l : Lk), textsT (k + 100) a id (L ++ [l]) = textsT (k + 100) a id L ++ textsL (k + 100) (lastT (k + 100) (rootT (k + 100) a id) L) (frameL (partsOf l)) := by
    intro a id L l
    unfold textsT
    rw [linkTexts_snoc, List.append_assoc]
  intro n
  induction n with
  | zero =>
    intro L M hn hL hM h
    have e1 : L = [] := List.length_eq_zero_iff.1 (by omega)
    have e2 : M = [] := List.length_eq_zero_iff.1 (by omega)
    subst e1; subst e2
    rw [lastT_nil, lastT_nil] at h
    unfold rootT at h
    rcases tag_clash k hk ha hb (by rw [root_length]; omega) (by rw [root_length]; omega) h with hc | ⟨h1, h2⟩
    · exact .inl (hc.mono (fun p hp => by simp [textsT, hp]) (fun p hp => by simp [textsT, hp]))
    · have := frame_inj (root_mem hid) (root_mem hjd) h2
      simp [rootParts] at this
      exact .inr ⟨h1, this, rfl⟩
  | succ n ih =>
    intro L M hn hL hM h
    rcases List.eq_nil_or_concat L with rfl | ⟨L', l, rfl⟩ <;> rcases List.eq_nil_or_concat M with rfl | ⟨M', m, rfl⟩
    · exact ih [] [] (by simp) hL hM h
    · rw [List.concat_eq_append] at *
      have hm := hM m (by simp)
      have hM' : ∀ l ∈ M', small l := fun l hl => hM l (by simp [hl])
      rw [lastT_snoc, lastT_nil] at h
      unfold nextT at h
      rw [show rootT (k + 100) a id = tagL (k + 100) a (frameL (rootParts id)) by unfold rootT; rfl] at h
      rcases tag_clash k hk ha (lastT_length k hk M' hrb hM') (by rw [root_length]; omega) (by have := parts_length hm; omega) h with hc | ⟨h1, h2⟩
      · exact .inl (hc.mono (fun p hp => by simp [textsT, hp]) (fun p hp => by rw [hsn]; simp [hp]))
      · exact (parts_root (frame_inj (root_mem hid) (parts_mem hm) h2).symm).elim
    · rw [List.concat_eq_append] at *
      have hl := hL l (by simp)
      have hL' : ∀ l ∈ L', small l := fun x hx => hL x (by simp [hx])
      rw [lastT_snoc, lastT_nil] at h
      unfold nextT at h
      rw [show rootT (k + 100) b jd = tagL (k + 100) b (frameL (rootParts jd)) by unfold rootT; rfl] at h
      rcases tag_clash k hk (lastT_length k hk L' hra hL') hb (by have := parts_length hl; omega) (by rw [root_length]; omega) h with hc | ⟨h1, h2⟩
      · exact .inl (hc.mono (fun p hp => by rw [hsn]; simp [hp]) (fun p hp => by simp [textsT, hp]))
      · exact (parts_root (frame_inj (parts_mem hl) (root_mem hjd) h2)).elim
    · rw [List.concat_eq_append] at *
      rw [List.concat_eq_append] at *
      have hl := hL l (by simp)
      have hL' : ∀ l ∈ L', small l := fun x hx => hL x (by simp [hx])
      have hm := hM m (by simp)
      have hM' : ∀ l ∈ M', small l := fun l hl => hM l (by simp [hl])
      rw [lastT_snoc, lastT_snoc] at h
      unfold nextT at h
      rcases tag_clash k hk (lastT_length k hk L' hra hL') (lastT_length k hk M' hrb hM') (by have := parts_length hl; omega) (by have := parts_length hm; omega) h with hc | ⟨h1, h2⟩
      · exact .inl (hc.mono (fun p hp => by rw [hsn]; simp [hp]) (fun p hp => by rw [hsn]; simp [hp]))
      · have e := parts_inj (frame_inj (parts_mem hl) (parts_mem hm) h2)
        subst e
        rcases ih L' M' (by simp at hn; omega) hL' hM' h1 with hc | ⟨h3, h4, h5⟩
        · exact .inl (hc.mono (fun p hp => by rw [hsn]; simp [hp]) (fun p hp => by rw [hsn]; simp [hp]))
        · subst h5; exact .inr ⟨h3, h4, rfl⟩

theorem textsT_small (k : Nat) {key id : List UInt8} {ls : List Lk} (hk : 600 ≤ k) (hl : key.length ≤ 30000) (hid : id.length ≤ 8000) (hs : ∀ l ∈ ls, small l) : ∀ p ∈ textsT (k + 100) key id ls, p.length ≤ 30000 := by
  have one : ∀ (t s : List UInt8), t.length ≤ 30000 → s.length ≤ 9000 → ∀ p ∈ textsL (k + 100) t s, p.length ≤ 30000 := fun t s ht hs => textsL_small k hk ht (by omega)
  have links : ∀ (ls : List Lk) (t : List UInt8), t.length = 32 → (∀ l ∈ ls, small l) → ∀ p ∈ linkTexts (k + 100) t ls, p.length ≤ 30000 := by
    intro ls
    induction ls with
    | nil => intro t _ _ p hp; cases hp
    | cons l ls ih =>
      intro t ht h p hp
      have hsm := h l (by simp)
      have := parts_length hsm
      rw [linkTexts, List.mem_append] at hp
      rcases hp with hp | hp
      · exact one t _ (by omega) (by omega) p hp
      · exact ih _ (nextT_length k hk (by omega) hsm) (fun x hx => h x (by simp [hx])) p hp
  intro p hp
  unfold textsT at hp
  rw [List.mem_append] at hp
  rcases hp with hp | hp
  · exact one key _ hl (by rw [root_length]; omega) p hp
  · exact links ls _ (tagL_length k hk hl (by rw [root_length]; omega)) hs p hp
end Go.Proofs.YtkccmmbomlpgnaaDoorLg
