/- Partitions of bytes, numbered in the order in which they come: mathematics alone. -/
import Derived.Test.YtkpmnnabpiieoaaLgPxB
import Derived.Test.YtkpmnnabpiieoaaLgPxA
set_option linter.all false
namespace Go.Proofs.YtkpmnnabpiieoaaPx
open Go Go.Lift

/-- the class of the first k among the n from j that is like i -/
def firstC (f : Nat → Nat → Bool) (out : List Int) (i : Nat) : Nat → Nat → Option Int
  | _, 0 => none
  | j, n + 1 => cond (f j i) (some (out.getD j 0)) (firstC f out i (j + 1) n)

/-- the classes of the first n, and how many there are -/
def grow (f : Nat → Nat → Bool) : Nat → List Int × Nat
  | 0 => ([], 0)
  | n + 1 => match firstC f (grow f n).1 n 0 n with
    | some c => ((grow f n).1 ++ [c], (grow f n).2)
    | none => ((grow f n).1 ++ [((grow f n).2 : Int)], (grow f n).2 + 1)

theorem grow_len (f : Nat → Nat → Bool) : ∀ n, (grow f n).1.length = n
  | 0 => rfl
  | n + 1 => by
    have ih := grow_len f n
    rw [grow]
    cases firstC f (grow f n).1 n 0 n <;> simp only [List.length_append, ih, List.length_singleton]

theorem grow_many (f : Nat → Nat → Bool) : ∀ n, (grow f n).2 ≤ n
  | 0 => Nat.le_refl _
  | n + 1 => by
    have ih := grow_many f n
    rw [grow]
    cases firstC f (grow f n).1 n 0 n
    · simp only; omega
    · simp only; omega

theorem firstC_congr {f g : Nat → Nat → Bool} (out : List Int) (i : Nat) : ∀ n j, (∀ k, j ≤ k → k < j + n → f k i = g k i) → firstC f out i j n = firstC g out i j n
  | 0, _, _ => rfl
  | n + 1, j, h => by
    rw [firstC, firstC, h j (Nat.le_refl _) (by omega), firstC_congr out i n (j + 1) (fun k h1 h2 => h k (by omega) (by omega))]

theorem grow_congr {f g : Nat → Nat → Bool} : ∀ n, (∀ k i, k < i → i < n → f k i = g k i) → grow f n = grow g n
  | 0, _ => rfl
  | n + 1, h => by
    have ih := grow_congr n (fun k i h1 h2 => h k i h1 (by omega))
    rw [grow, grow, ih, firstC_congr _ n n 0 (fun k _ h2 => h k n (by omega) (by omega))]

theorem firstC_some {f : Nat → Nat → Bool} {out : List Int} {i : Nat} {c : Int} : ∀ n j, firstC f out i j n = some c → ∃ k, j ≤ k ∧ k < j + n ∧ f k i = true ∧ c = out.getD k 0
  | 0, _, h => by simp [firstC] at h
  | n + 1, j, h => by
    rw [firstC] at h
    cases hf : f j i
    · rw [hf, cond_f rfl] at h
      obtain ⟨k, h1, h2, h3⟩ := firstC_some n (j + 1) h
      exact ⟨k, by omega, by omega, h3⟩
    · rw [hf, cond_t rfl] at h
      exact ⟨j, Nat.le_refl _, by omega, hf, (Option.some.inj h).symm⟩

theorem firstC_none {f : Nat → Nat → Bool} {out : List Int} {i : Nat} : ∀ n j, firstC f out i j n = none → ∀ k, j ≤ k → k < j + n → f k i = false
  | 0, _, _, k, h1, h2 => by omega
  | n + 1, j, h, k, h1, h2 => by
    rw [firstC] at h
    cases hf : f j i
    · rw [hf, cond_f rfl] at h
      by_cases hk : k = j
      · rw [hk]; exact hf
      · exact firstC_none n (j + 1) h k (by omega) (by omega)
    · rw [hf, cond_t rfl] at h
      exact absurd h (by simp)

theorem getD_app_lt {α : Type} (l : List α) (x d : α) {k : Nat} (h : k < l.length) : (l ++ [x]).getD k d = l.getD k d := by
  simp only [List.getD_eq_getElem?_getD, List.getElem?_append_left h]
theorem getD_app_at {α : Type} (l : List α) (x d : α) {k : Nat} (h : k = l.length) : (l ++ [x]).getD k d = x := by
  subst h; simp [List.getD_eq_getElem?_getD]

/-- every class is one of those counted -/
theorem grow_lt (f : Nat → Nat → Bool) : ∀ n k, k < n → 0 ≤ (grow f n).1.getD k 0 ∧ (grow f n).1.getD k 0 < ((grow f n).2 : Int)
  | 0, k, h => by omega
  | n + 1, k, h => by
    have hl := grow_len f n
    have ih := grow_lt f n
    rw [grow]
    cases hc : firstC f (grow f n).1 n 0 n with
    | none =>
      simp only
      by_cases hk : k < n
      · rw [getD_app_lt _ _ _ (by omega)]
        have := ih k hk
        omega
      · rw [getD_app_at _ _ _ (by omega)]
        omega
    | some c =>
      simp only
      by_cases hk : k < n
      · rw [getD_app_lt _ _ _ (by omega)]
        exact ih k hk
      · rw [getD_app_at _ _ _ (by omega)]
        obtain ⟨j, _, h2, _, h4⟩ := firstC_some n 0 hc
        rw [h4]
        exact ih j (by omega)

/-- what is alike has the same class, and what has the same class is alike -/
theorem grow_iff {f : Nat → Nat → Bool} (hr : ∀ i, f i i = true) (hs : ∀ i j, f i j = f j i) (ht : ∀ i j k, f i j = true → f j k = true → f i k = true) :
    ∀ n i j, i < n → j < n → ((grow f n).1.getD i 0 = (grow f n).1.getD j 0 ↔ f i j = true)
  | 0, i, j, h, _ => by omega
  | n + 1, i, j, hi, hj => by
    have hl := grow_len f n
    have ih := grow_iff hr hs ht n
    have hlt := grow_lt f n
    rw [grow]
    cases hc : firstC f (grow f n).1 n 0 n with
    | none =>
      have hn := firstC_none n 0 hc
      simp only
      by_cases h1 : i < n <;> by_cases h2 : j < n
      · rw [getD_app_lt _ _ _ (by omega), getD_app_lt _ _ _ (by omega)]
        exact ih i j h1 h2
      · have e : j = n := by omega
        subst e
        rw [getD_app_lt _ _ _ (by omega), getD_app_at _ _ _ (by omega), hn i (by omega) (by omega)]
        have := hlt i h1
        constructor
        · intro; omega
        · intro h; exact absurd h (by decide)
      · have e : i = n := by omega
        subst e
        rw [getD_app_at _ _ _ (by omega), getD_app_lt _ _ _ (by omega), hs, hn j (by omega) (by omega)]
        have := hlt j h2
        constructor
        · intro; omega
        · intro h; exact absurd h (by decide)
      · have e1 : i = n := by omega
        have e2 : j = n := by omega
        rw [e1, e2]
        exact ⟨fun _ => hr n, fun _ => rfl⟩
    | some c =>
      obtain ⟨k, _, h2, h3, h4⟩ := firstC_some n 0 hc
      simp only
      have hk : k < n := by omega
      have key : ∀ m, m < n → ((grow f n).1.getD m 0 = c ↔ f m n = true) := by
        intro m hm
        rw [h4, ih m k hm hk]
        exact ⟨fun h => ht _ _ _ h h3, fun h => ht _ _ _ h (by rw [hs]; exact h3)⟩
      by_cases h1 : i < n <;> by_cases h2 : j < n
      · rw [getD_app_lt _ _ _ (by omega), getD_app_lt _ _ _ (by omega)]
        exact ih i j h1 h2
      · have e : j = n := by omega
        rw [e, getD_app_lt _ _ _ (by omega), getD_app_at _ _ _ (by omega)]
        exact key i h1
      · have e : i = n := by omega
        rw [e, getD_app_at _ _ _ (by omega), getD_app_lt _ _ _ (by omega), hs]
        constructor
        · intro h; exact (key j h2).1 h.symm
        · intro h; exact ((key j h2).2 h).symm
      · have e1 : i = n := by omega
        have e2 : j = n := by omega
        rw [e1, e2]
        exact ⟨fun _ => hr n, fun _ => rfl⟩

/-- the classes of classes are themselves -/
theorem grow_self {f : Nat → Nat → Bool} (hr : ∀ i, f i i = true) (hs : ∀ i j, f i j = f j i) (ht : ∀ i j k, f i j = true → f j k = true → f i k = true) (n : Nat) :
    grow (fun k i => (grow f n).1.getD k 0 == (grow f n).1.getD i 0) n = grow f n :=
  grow_congr n (fun k i h1 h2 => by
    have h := grow_iff hr hs ht n k i (by omega) h2
    cases hf : f k i
    · rw [hf] at h
      exact beq_eq_false_iff_ne.2 (fun e => absurd (h.1 e) (by decide))
    · rw [hf] at h
      exact beq_iff_eq.2 (h.2 rfl))

/-! right partitions -/
def rightL : Int → List Int → Bool
  | _, [] => true
  | t, x :: l => cond (decide (x < 0)) false (cond (decide (t + 1 < x)) false (rightL (if x > t then x else t) l))

def topL (t : Int) (l : List Int) : Int := l.foldl (fun t x => if x > t then x else t) t

theorem topL_app (t : Int) (l : List Int) (x : Int) : topL t (l ++ [x]) = if x > topL t l then x else topL t l := by
  simp [topL, List.foldl_append]

theorem rightL_app : ∀ (l : List Int) (t x : Int), rightL t (l ++ [x]) = (rightL t l && (decide (0 ≤ x) && decide (x ≤ topL t l + 1)))
  | [], t, x => by
    have e : rightL t ([] ++ [x]) = cond (decide (x < 0)) false (cond (decide (t + 1 < x)) false true) := rfl
    have e0 : rightL t [] = true := rfl
    have e1 : decide (0 ≤ x) = !decide (x < 0) := by
      rcases Decidable.em (x < 0) with h | h
      · rw [dec_t h, dec_f (p := 0 ≤ x) (by omega)]; rfl
      · rw [dec_f h, dec_t (p := 0 ≤ x) (by omega)]; rfl
    have e2 : decide (x ≤ topL t [] + 1) = !decide (t + 1 < x) := by
      show decide (x ≤ t + 1) = _
      rcases Decidable.em (t + 1 < x) with h | h
      · rw [dec_t h, dec_f (p := x ≤ t + 1) (by omega)]; rfl
      · rw [dec_f h, dec_t (p := x ≤ t + 1) (by omega)]; rfl
    rw [e, e0, e1, e2]
    cases decide (x < 0) <;> cases decide (t + 1 < x) <;> rfl
  | y :: l, t, x => by
    have ih := rightL_app l (if y > t then y else t) x
    have e : topL t (y :: l) = topL (if y > t then y else t) l := rfl
    rw [List.cons_append, rightL, rightL, ih, e]
    cases decide (y < 0) <;> cases decide (t + 1 < y) <;> rfl

theorem topL_ge : ∀ (l : List Int) (t : Int), t ≤ topL t l
  | [], t => Int.le_refl _
  | x :: l, t => by
    have := topL_ge l (if x > t then x else t)
    show t ≤ topL (if x > t then x else t) l
    split at this <;> split <;> omega

theorem topL_le : ∀ (l : List Int) (t : Int), rightL t l = true → topL t l ≤ t + l.length
  | [], t, _ => by show t ≤ _; omega
  | x :: l, t, h => by
    have e : topL t (x :: l) = topL (if x > t then x else t) l := rfl
    rw [rightL] at h
    cases h1 : decide (x < 0)
    · cases h2 : decide (t + 1 < x)
      · rw [h1, h2] at h
        have ih := topL_le l _ h
        have h3 := of_decide_eq_false h2
        rw [e, List.length_cons]
        split at ih <;> split <;> omega
      · rw [h1, h2] at h; exact absurd h Bool.false_ne_true
    · rw [h1] at h; exact absurd h Bool.false_ne_true

/-- the program looks at the first one apart -/
theorem right_two (x : Int) (l : List Int) : rightL (-1) (x :: l) = cond (x != 0) false (rightL 0 (x :: l)) := by
  rw [rightL, rightL]
  by_cases h : x = 0
  · subst h; rfl
  · have h1 : (x != 0) = true := bne_iff_ne.2 h
    rw [h1]
    by_cases h2 : x < 0
    · rw [dec_t h2]; rfl
    · rw [dec_f h2, dec_t (p := (-1 : Int) + 1 < x) (by omega)]; rfl

theorem grow_right (f : Nat → Nat → Bool) : ∀ n, rightL (-1) (grow f n).1 = true ∧ topL (-1) (grow f n).1 = ((grow f n).2 : Int) - 1
  | 0 => ⟨rfl, rfl⟩
  | n + 1 => by
    obtain ⟨h1, h2⟩ := grow_right f n
    rw [grow]
    cases hc : firstC f (grow f n).1 n 0 n with
    | none =>
      simp only
      rw [rightL_app, topL_app, h1, h2]
      refine ⟨?_, ?_⟩
      · rw [dec_t (by omega), dec_t (by omega)]; rfl
      · rw [if_pos (by omega)]; omega
    | some c =>
      simp only
      obtain ⟨k, _, h3, _, h5⟩ := firstC_some n 0 hc
      have := grow_lt f n k (by omega)
      rw [rightL_app, topL_app, h1, h2]
      refine ⟨?_, ?_⟩
      · rw [dec_t (by omega), dec_t (by omega)]; rfl
      · rw [if_neg (by omega)]

/-! maps that number -/
theorem look_set_same {α β : Type} {g : α → α → Bool} (hg : ∀ x y, g x y = true ↔ x = y) (k : α) (v : β) : ∀ l, lookM g k (setM g k v l) = some v
  | [] => by simp [setM, lookM, (hg k k).2 rfl]
  | x :: l => by
    rw [setM]
    cases h : g k x.1
    · simp only [lookM, h, look_set_same hg k v l]
    · simp only [lookM, (hg k k).2 rfl]

theorem look_set_other {α β : Type} {g : α → α → Bool} (hg : ∀ x y, g x y = true ↔ x = y) {k y : α} (h : k ≠ y) (v : β) : ∀ l, lookM g y (setM g k v l) = lookM g y l
  | [] => by
    have : g y k = false := by
      cases e : g y k
      · rfl
      · exact absurd ((hg y k).1 e).symm h
    simp [setM, lookM, this]
  | x :: l => by
    rw [setM]
    cases e : g k x.1
    · simp only [lookM, look_set_other hg h v l]
    · have e1 := (hg k x.1).1 e
      have : g y x.1 = false := by
        cases e2 : g y x.1
        · rfl
        · exact absurd (e1.trans ((hg y x.1).1 e2).symm) h
      have e3 : g y k = false := by rw [e1]; exact this
      simp only [lookM, this, e3]

theorem len_set_new {α β : Type} {g : α → α → Bool} (k : α) (v : β) : ∀ l, lookM g k l = none → (setM g k v l).length = l.length + 1
  | [], _ => rfl
  | x :: l, h => by
    rw [setM]
    rw [lookM] at h
    cases e : g k x.1
    · rw [e] at h
      simp only at h ⊢
      rw [List.length_cons, List.length_cons, len_set_new k v l h]
    · rw [e] at h; exact absurd h (by simp)

/-- among the n from j: one more is looked at last -/
theorem firstC_last (f : Nat → Nat → Bool) (out : List Int) (i : Nat) : ∀ n j, firstC f out i j (n + 1) = (firstC f out i j n).orElse (fun _ => cond (f (j + n) i) (some (out.getD (j + n) 0)) none)
  | 0, j => by simp [firstC]
  | n + 1, j => by
    have ih := firstC_last f out i n (j + 1)
    rw [firstC, ih, firstC]
    have e : j + 1 + n = j + (n + 1) := by omega
    rw [e]
    cases f j i <;> rfl

theorem firstC_app (f : Nat → Nat → Bool) (out : List Int) (x : Int) (i : Nat) : ∀ n j, j + n ≤ out.length → firstC f (out ++ [x]) i j n = firstC f out i j n
  | 0, _, _ => rfl
  | n + 1, j, h => by rw [firstC, firstC, firstC_app f out x i n (j + 1) (by omega), getD_app_lt _ _ _ (by omega)]

/-- the program's map, after n: what it says of a key is the class of the first one that has it -/
def tells {α : Type} (g : α → α → Bool) (key : Nat → α) (cl : List (α × Int)) (n : Nat) : Prop :=
  cl.length = (grow (fun k i => g (key k) (key i)) n).2 ∧
    ∀ i, lookM g (key i) cl = firstC (fun k i => g (key k) (key i)) (grow (fun k i => g (key k) (key i)) n).1 i 0 n

theorem tells_zero {α : Type} (g : α → α → Bool) (key : Nat → α) : tells g key [] 0 := ⟨rfl, fun _ => rfl⟩

theorem tells_old {α : Type} {g : α → α → Bool} (hg : ∀ x y, g x y = true ↔ x = y) {key : Nat → α} {cl : List (α × Int)} {n : Nat} (h : tells g key cl n) {c : Int} (hc : lookM g (key n) cl = some c) :
    tells g key cl (n + 1) ∧ (grow (fun k i => g (key k) (key i)) (n + 1)).1 = (grow (fun k i => g (key k) (key i)) n).1 ++ [c] := by
  have hl := grow_len (fun k i => g (key k) (key i)) n
  have e := h.2 n
  rw [hc] at e
  have e2 : grow (fun k i => g (key k) (key i)) (n + 1) = ((grow (fun k i => g (key k) (key i)) n).1 ++ [c], (grow (fun k i => g (key k) (key i)) n).2) := by
    rw [grow, ← e]
  refine ⟨⟨by rw [e2]; exact h.1, fun i => ?_⟩, by rw [e2]⟩
  rw [e2, firstC_last, firstC_app _ _ _ _ _ _ (by omega), ← h.2 i, Nat.zero_add, getD_app_at _ _ _ (by omega)]
  cases hh : g (key n) (key i)
  · cases lookM g (key i) cl <;> rfl
  · rw [← (hg _ _).1 hh, hc]; rfl

theorem tells_new {α : Type} {g : α → α → Bool} (hg : ∀ x y, g x y = true ↔ x = y) {key : Nat → α} {cl : List (α × Int)} {n : Nat} (h : tells g key cl n) (hc : lookM g (key n) cl = none) :
    tells g key (setM g (key n) (cl.length : Int) cl) (n + 1) ∧ (grow (fun k i => g (key k) (key i)) (n + 1)).1 = (grow (fun k i => g (key k) (key i)) n).1 ++ [(cl.length : Int)] := by
  have hl := grow_len (fun k i => g (key k) (key i)) n
  have e := h.2 n
  rw [hc] at e
  have e2 : grow (fun k i => g (key k) (key i)) (n + 1) = ((grow (fun k i => g (key k) (key i)) n).1 ++ [(cl.length : Int)], (grow (fun k i => g (key k) (key i)) n).2 + 1) := by
    rw [grow, ← e, h.1]
  refine ⟨⟨by rw [e2, len_set_new _ _ _ hc, h.1], fun i => ?_⟩, by rw [e2]⟩
  rw [e2, firstC_last, firstC_app _ _ _ _ _ _ (by omega), ← h.2 i, Nat.zero_add, getD_app_at _ _ _ (by omega)]
  cases hh : g (key n) (key i)
  · rw [look_set_other hg (fun e => by rw [(hg _ _).2 e] at hh; exact absurd hh (by decide))]
    cases lookM g (key i) cl <;> rfl
  · rw [← (hg _ _).1 hh, look_set_same hg, hc]; rfl

end Go.Proofs.YtkpmnnabpiieoaaPx
