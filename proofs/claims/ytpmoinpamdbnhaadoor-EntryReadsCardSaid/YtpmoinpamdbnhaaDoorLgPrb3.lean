/- The plain functions that the law reaches, what their calls do, and what they give (own work, in one text). -/
import Derived.Test.YtpmoinpamdbnhaaDoorLgPrb2
/- Layer 43: an entry is read: what the program does, as a plain function of the blocks. -/
set_option linter.all false
set_option maxRecDepth 100000
namespace Go.Proofs.YtpmoinpamdbnhaaDoorLg
open Go Go.Lift Go.Proofs.YtpmoinpamdbnhaaDoorPx

theorem or_addI {a b i : Nat} (ha : a < 256 ^ i) (hb : b < 256) (hi : i < 4) :
    bitsOp .or .i64 (a : Int) (shlI .i64 (IntKind.wrap .i64 (b : Int)) (IntKind.wrap .i64 ((8 : Int) * (i : Int)))) = ((a + 256 ^ i * b : Nat) : Int) := by
  have hp : (256 : Nat) ^ i = 2 ^ (8 * i) := by rw [Nat.pow_mul]
  have hp7 : 256 ^ i ≤ 16777216 := Nat.pow_le_pow_right (by omega) (show i ≤ 3 by omega)
  have hmul : 256 ^ i * b ≤ 16777216 * 255 := Nat.mul_le_mul hp7 (by omega)
  have e1 : IntKind.wrap .i64 ((8 : Int) * (i : Int)) = ((8 * i : Nat) : Int) := by rw [wrap_in (by unfold I64; omega)]; omega
  have e2 : shlI .i64 (IntKind.wrap .i64 (b : Int)) ((8 * i : Nat) : Int) = ((256 ^ i * b : Nat) : Int) := by
    have em : min (((8 * i : Nat) : Int)).toNat (IntKind.bits .i64) = 8 * i := by rw [Int.toNat_natCast]; exact Nat.min_eq_left (by show 8 * i ≤ 64; omega)
    unfold shlI
    rw [em, wrap_in (x := (b : Int)) (by unfold I64; omega)]
    have : (b : Int) * 2 ^ (8 * i) = ((256 ^ i * b : Nat) : Int) := by rw [hp]; push_cast; rw [Int.mul_comm]
    rw [this, wrap_in (by unfold I64; omega)]
  rw [e1, e2]
  unfold bitsOp
  show IntKind.wrap .i64 (((BitVec.ofInt 64 ((a : Nat) : Int) ||| BitVec.ofInt 64 ((256 ^ i * b : Nat) : Int)).toNat : Nat) : Int) = _
  rw [BitVec.ofInt_natCast, BitVec.ofInt_natCast, BitVec.toNat_or, BitVec.toNat_ofNat, BitVec.toNat_ofNat, Nat.mod_eq_of_lt (by omega), Nat.mod_eq_of_lt (by omega)]
  have key : a ||| 256 ^ i * b = a + 256 ^ i * b := by
    have := Nat.shiftLeft_add_eq_or_of_lt (show a < 2 ^ (8 * i) by rw [← hp]; exact ha) b
    rw [Nat.shiftLeft_eq, Nat.mul_comm b, ← hp] at this
    rw [Nat.or_comm, ← this]; omega
  rw [key, wrap_in (by unfold I64; omega)]

abbrev EnR : Type := (Int × (List UInt8 × (Int × Unit))) × Bool × Unit
def zeroE43 : Int × (List UInt8 × (Int × Unit)) := (0, ([], (0, ())))

theorem size_loop (N : Nat) (hN : 4 < N) {d : DskD} {f0 g i : Int} {x8 : Int × (List UInt8 × (Int × Unit))} {head : Fr} (hT : 4 ≤ head.2.2.1.length) (k0 : Int → Option (EnR × (DskD × Unit))) :
    entry_Read_p3 N d f0 g i x8 head 0 0 k0 = k0 ((num (head.2.2.1.take 4) : Nat) : Int) := by
  rw [entry_Read_p3]
  refine iter_eq (fun v => ∃ j : Nat, v = ((num (head.2.2.1.take j) : Int), (j : Int)) ∧ j ≤ 4) (fun v => 4 - v.2.toNat) (fun _ => k0 ((num (head.2.2.1.take 4) : Nat) : Int)) ?_ N (0, 0) ⟨0, by simp [num], by omega⟩ (by simpa using hN)
  rintro v r ⟨j, rfl, hj⟩ hr
  rw [entry_Read_s3]
  dsimp only
  by_cases hlt : j < 4
  · rw [cond_t (dec_t (by omega)), cond_t (inR_nat (by omega)), cond_t (dec_t (by rw [wrap_in (by unfold I64; omega)]; omega)), Int.toNat_natCast, or_addI (num_take_lt _ j) (u8_lt _) hlt, wrap_succ (by omega)]
    exact hr _ ⟨j + 1, by rw [num_take_succ _ (by omega)], by omega⟩ (by dsimp only; omega)
  · have : j = 4 := by omega
    subst this
    rw [cond_f (dec_f (by omega))]

/-- the frame of a mark at a place -/
def gp (B : List (List UInt8)) (p : Nat) (m : Int) : Option (Int × List UInt8) :=
  if p < B.length ∧ m ≠ 0 ∧ good (B.getD p []) = true ∧ (mkF (B.getD p [])).1 = m then some ((mkF (B.getD p [])).2.1, (mkF (B.getD p [])).2.2.1) else none

theorem get_at (k : Nat) {d : DskD} (hp : Plain d) (h0 : d.1.length ≠ 0) {f0 x m : Int} {p : Nat} (hf : 0 ≤ f0) (hx : IntKind.wrap .i64 (f0 + x) = (p : Int)) :
    ∃ f ok, entry_get (k + 100) d f0 x m = some ((f, ok, ()), (d, ())) ∧ (match gp (d.1.map toStr) p m with
      | some (kd, u) => ok = true ∧ f.2.1 = kd ∧ f.2.2.1 = u
      | none => ok = false) := by
  rw [entry_get, entry_get_p1, entry_get_p2, cond_f (decide_eq_false (by omega))]
  by_cases hm : m = 0
  · rw [show gp (d.1.map toStr) p m = none from if_neg (fun h => h.2.1 hm), cond_t (beq_iff_eq.2 hm)]
    exact ⟨_, _, rfl, rfl⟩
  rw [cond_f (beq_eq_false_iff_ne.2 hm), read_eq41, Option.bind_some, hx]
  dsimp only
  by_cases hlt : p < d.1.length
  · have hc : check d (p : Int) = 0 := by
      unfold check
      rw [if_neg (by omega), if_neg (by rw [hp.2.1]; decide), if_neg (by omega)]
    have hl := hp.2.2 _ (getD_mem d.1 [] p hlt)
    have e : rdS d (p : Int) = (toStr (d.1.getD p []), 0) := by
      unfold rdS
      rw [if_neg (by rw [hc]; simp), Int.toNat_natCast, cut_take, List.take_of_length_le (by omega)]
    have hg : (d.1.map toStr).getD p [] = toStr (d.1.getD p []) := by simp [List.getD, hlt]
    rw [e, bne_self_eq_false, cond_false, show k + 100 = (k + 80) + 20 by omega, get_eq, Option.bind_some]
    unfold gp
    rw [hg]
    cases hgd : good (toStr (d.1.getD p [])) with
    | true =>
      rw [cond_true, cond_true]
      refine ⟨_, _, rfl, ?_⟩
      by_cases hmm : (mkF (toStr (d.1.getD p []))).1 = m
      · rw [if_pos ⟨by rw [List.length_map]; exact hlt, hm, rfl, hmm⟩]
        exact ⟨beq_iff_eq.2 hmm, rfl, rfl⟩
      · rw [if_neg (fun h => hmm h.2.2.2)]
        exact beq_eq_false_iff_ne.2 hmm
    | false =>
      rw [cond_false, cond_false]
      refine ⟨_, _, rfl, ?_⟩
      rw [if_neg (fun h => by cases h.2.2.1)]
  · have hc : check d (p : Int) ≠ 0 := by
      unfold check
      rw [if_neg h0, if_neg (by rw [hp.2.1]; decide), if_pos (by omega)]; decide
    have e : rdS d (p : Int) = ([], check d (p : Int)) := if_pos hc
    rw [e, show (check d (p : Int) != (0 : Int)) = true by rw [bne_iff_ne]; exact hc, cond_true, show gp (d.1.map toStr) p m = none from if_neg (fun h => hlt (by have := h.1; rw [List.length_map] at this; exact this))]
    exact ⟨_, _, rfl, rfl⟩

/-- the head is not on the disk -/
theorem get_off (N : Nat) {d : DskD} (hp : Plain d) (h0 : d.1.length ≠ 0) {f0 x m : Int} (h : m = 0 ∨ f0 < 0 ∨ IntKind.wrap .i64 (f0 + x) < 0 ∨ (d.1.length : Int) ≤ IntKind.wrap .i64 (f0 + x)) :
    ∃ f, entry_get N d f0 x m = some ((f, false, ()), (d, ())) := by
  rw [entry_get, entry_get_p1, entry_get_p2]
  by_cases hf : f0 < 0
  · rw [cond_t (decide_eq_true hf), cond_true]; exact ⟨_, rfl⟩
  rw [cond_f (decide_eq_false hf)]
  by_cases hm : m = 0
  · rw [cond_t (beq_iff_eq.2 hm)]; exact ⟨_, rfl⟩
  rw [cond_f (beq_eq_false_iff_ne.2 hm), read_eq41, Option.bind_some]
  dsimp only
  have hc : check d (IntKind.wrap .i64 (f0 + x)) ≠ 0 := by
    unfold check
    rw [if_neg h0, if_neg (by rw [hp.2.1]; decide), if_pos (by omega)]; decide
  have e : rdS d (IntKind.wrap .i64 (f0 + x)) = ([], check d (IntKind.wrap .i64 (f0 + x))) := if_pos hc
  rw [e, show (check d (IntKind.wrap .i64 (f0 + x)) != (0 : Int)) = true by rw [bne_iff_ne]; exact hc, cond_true]
  exact ⟨_, rfl⟩

def more (B : List (List UInt8)) (s0 : Nat) (g i : Int) (size : Nat) : Nat → Nat → List UInt8 → Option (List UInt8)
  | 0, _, t => some t
  | n + 1, j, t => match gp B (s0 + j) (markL g (i + (j : Nat)) false) with
    | some (kd, u) => if kd = 0 ∧ u.length = min (size - t.length) 110 then more B s0 g i size n (j + 1) (t ++ u) else none
    | none => none

noncomputable def readP (N : Nat) (B : List (List UInt8)) (s0 : Nat) (g i : Int) : Option (Int × List UInt8 × Nat) :=
  match gp B s0 (markL g i true) with
  | none => none
  | some (kd, T) => if T.length < 8 then none else if 65536 < num (T.take 4) ∨ (T.drop 8).length ≠ min (num (T.take 4)) 102 then none else
    match more B s0 g i (num (T.take 4)) (nb (num (T.take 4)) - 1) 1 (T.drop 8) with
    | none => none
    | some t => if preL N t = T.take 8 then some (kd, t, nb (num (T.take 4))) else none

def resE : Option (Int × List UInt8 × Nat) → EnR
  | none => (zeroE43, false, ())
  | some (kd, t, n) => ((kd, (t, ((n : Int), ()))), true, ())

theorem more_len {B : List (List UInt8)} {s0 : Nat} {g i : Int} {size : Nat} : ∀ (n j : Nat) (t u : List UInt8), t.length ≤ size → more B s0 g i size n j t = some u → u.length ≤ size ∧ (n ≠ 0 → s0 + j + n ≤ B.length) ∧ u.length ≤ t.length + 110 * n
  | 0, j, t, u, h, e => by
    simp only [more, Option.some.injEq] at e
    subst e
    exact ⟨h, fun h => absurd rfl h, by omega⟩
  | n + 1, j, t, u, h, e => by
    rw [more] at e
    split at e
    · rename_i kd v hg
      split at e
      · rename_i hc
        obtain ⟨q1, q2, q3⟩ := more_len n (j + 1) (t ++ v) u (by rw [List.length_append]; omega) e
        rw [List.length_append] at q3
        have hlt : s0 + j < B.length := by
          unfold gp at hg
          split at hg
          · rename_i hh; exact hh.1
          · cases hg
        refine ⟨q1, fun _ => ?_, by omega⟩
        by_cases hn : n = 0
        · omega
        · have := q2 hn; omega
      · cases e
    · cases e

/-- the other blocks -/
theorem more_loop (k : Nat) {d : DskD} (hp : Plain d) (h0 : d.1.length ≠ 0) (hd : d.1.length ≤ 250) {s0 : Nat} {f0 g i : Int} (hf : 0 ≤ f0 ∧ f0 ≤ 5000) (hi : 0 ≤ i ∧ i ≤ 4095) (hs : ((s0 : Nat) : Int) = f0 + i) {size nbk : Nat} (hsz : size ≤ 65536) (hnb : nbk ≤ 600)
    (x8 : Int × (List UInt8 × (Int × Unit))) (head : Fr) (bl : Int) (k0 : DskD → Int × (List UInt8 × (Int × Unit)) → Bool → Option (EnR × (DskD × Unit))) (k1 : DskD → List UInt8 → Option (EnR × (DskD × Unit))) :
    ∀ (n j M : Nat) (t : List UInt8), j + n = nbk → 1 ≤ j → t.length ≤ size → n < M →
      iter (fun (v : DskD × List UInt8 × Int) r => entry_Read_s6 (k + 100) f0 g i x8 head (size : Int) bl ((nbk - 1 : Nat) : Int) v.1 v.2.1 v.2.2 (fun d text x69 => (r (d, text, x69))) k0 k1) M (d, t, ((j - 1 : Nat) : Int)) =
        (match more (d.1.map toStr) s0 g i size n j t with
          | none => k0 d (0, ([], (0, ()))) false
          | some t => k1 d t)
  | 0, j, M, t, hj, h1, ht, hM => by
    obtain ⟨M, rfl⟩ : ∃ m, M = m + 1 := ⟨M - 1, by omega⟩
    rw [iter, entry_Read_s6, more]
    dsimp only
    rw [cond_f (decide_eq_false (by omega))]
  | n + 1, j, M, t, hj, h1, ht, hM => by
    obtain ⟨M, rfl⟩ : ∃ m, M = m + 1 := ⟨M - 1, by omega⟩
    rw [iter, entry_Read_s6, more]
    dsimp only
    rw [cond_t (decide_eq_true (by omega)), wrap_in (x := i + 1) (by unfold I64; omega), wrap_in (x := i + 1 + ((j - 1 : Nat) : Int)) (by unfold I64; omega), show i + 1 + ((j - 1 : Nat) : Int) = i + (j : Int) by omega, emark_eq, Option.bind_some]
    obtain ⟨f, ok, e, hg⟩ := get_at k hp h0 (f0 := f0) (x := i + (j : Int)) (m := markL g (i + (j : Int)) false) (p := s0 + j) hf.1 (by rw [wrap_in (by unfold I64; omega)]; omega)
    rw [e, Option.bind_some]
    dsimp only
    rw [entry_Read_p7, entry_Read_p8]
    generalize gp (d.1.map toStr) (s0 + j) (markL g (i + (j : Int)) false) = q at hg ⊢
    cases q with
    | none =>
      have hok : ok = false := hg
      rw [hok]; rfl
    | some q =>
      obtain ⟨kd, u⟩ := q
      obtain ⟨hok, hkd, hu⟩ : ok = true ∧ f.2.1 = kd ∧ f.2.2.1 = u := hg
      rw [hok, Bool.not_true, cond_false, hkd, hu]
      dsimp only
      by_cases hk0 : kd = 0
      · rw [show (kd != (0 : Int)) = false by rw [hk0]; rfl, cond_false, wrap_in (x := (size : Int) - ((t.length : Nat) : Int)) (by unfold I64; omega)]
        have hmin : (if (110 : Int) < (size : Int) - ((t.length : Nat) : Int) then (110 : Int) else (size : Int) - ((t.length : Nat) : Int)) = ((min (size - t.length) 110 : Nat) : Int) := by split <;> omega
        rw [hmin]
        by_cases hul : u.length = min (size - t.length) 110
        · rw [show ((((List.length u) : Nat) : Int) != ((min (size - t.length) 110 : Nat) : Int)) = false by rw [hul, bne_self_eq_false], cond_false, if_pos ⟨hk0, hul⟩, cond_t (decide_eq_true (by omega)), wrap_in (x := ((j - 1 : Nat) : Int) + 1) (by unfold I64; omega), show ((j - 1 : Nat) : Int) + 1 = ((j + 1 - 1 : Nat) : Int) by omega]
          exact more_loop k hp h0 hd hf hi hs hsz hnb x8 head bl k0 k1 n (j + 1) M (t ++ u) (by omega) (by omega) (by rw [List.length_append]; omega) (by omega)
        · rw [show ((((List.length u) : Nat) : Int) != ((min (size - t.length) 110 : Nat) : Int)) = true by rw [bne_iff_ne]; omega, cond_true, if_neg (fun h => hul h.2)]
      · rw [show (kd != (0 : Int)) = true by rw [bne_iff_ne]; exact hk0, cond_true, cond_true, if_neg (fun h => hk0 h.1)]

end Go.Proofs.YtpmoinpamdbnhaaDoorLg

/- Layer 43: the law of writing. -/
set_option linter.all false
set_option maxRecDepth 100000
namespace Go.Proofs.YtpmoinpamdbnhaaDoorLg
open Go Go.Lift Go.Proofs.YtpmoinpamdbnhaaDoorPx

theorem newN_eq (N : Nat) (hN : 1 < N) {n : Int} : disk_New_none N n = some (if n < 1 ∨ 4096 < n then (none, 7, ()) else (some (List.replicate n.toNat blk0, some [], false, 0, ()), 0, ())) := by
  obtain ⟨M, rfl⟩ : ∃ M, N = M + 1 := ⟨N - 1, by omega⟩
  rw [disk_New_none, disk_New_none_p1, disk_New_none_p2]
  by_cases h1 : n < 1
  · rw [if_pos (.inl h1), cond_t (decide_eq_true h1), cond_true]
  · rw [cond_f (decide_eq_false h1)]
    by_cases h2 : 4096 < n
    · rw [if_pos (.inr h2), decide_eq_true h2, cond_true]
    · rw [if_neg (by omega), decide_eq_false h2, cond_false, cond_t (decide_eq_true (by omega)), disk_New_none_p3, iter, disk_New_none_s3]
      rfl

def zeroD (n : Nat) : DskD := (List.replicate n blk0, some [], false, 0, ())

theorem zero_plain (n : Nat) : Plain (zeroD n) := ⟨rfl, rfl, fun b hb => by rw [List.eq_of_mem_replicate hb]; rfl⟩

theorem frames_none (N : Nat) (hN : 700 < N) {g i kind : Int} {t : List UInt8} (ht : t.length ≤ 70000) (hi : I64 i) (h : ¬ entryOk g i kind t.length) : porterref43_Frames N g i kind t = some [] := by
  rw [porterref43_Frames, rblocks_eq N hN (by unfold I64; omega), Option.bind_some, porterref43_Frames_p1, porterref43_Frames_p2]
  by_cases h1 : 65536 < t.length
  · rw [show blocksI ((t.length : Nat) : Int) = 0 by unfold blocksI; rw [if_pos (by omega)], cond_t (by rfl), cond_true]
  have hb := nb_bounds (n := t.length) (by omega)
  rw [show blocksI ((t.length : Nat) : Int) = ((nb t.length : Nat) : Int) by unfold blocksI; rw [if_neg (by omega), Int.toNat_natCast], cond_f (beq_eq_false_iff_ne.2 (by omega)), rmark_eq, Option.bind_some]
  by_cases h2 : markOk g i
  · have hi3 := h2.2.2
    rw [cond_f (beq_eq_false_iff_ne.2 (fun e => markL_zero.1 e h2)), wrap_in (x := i + ((nb t.length : Nat) : Int)) (by unfold I64; omega), wrap_in (x := i + ((nb t.length : Nat) : Int) - 1) (by unfold I64; omega), rmark_eq, Option.bind_some]
    by_cases h3 : markOk g (i + (nb t.length : Nat) - 1)
    · rw [cond_f (beq_eq_false_iff_ne.2 (fun e => markL_zero.1 e h3))]
      by_cases h4 : kind < 0
      · rw [cond_t (decide_eq_true h4), cond_true]
      rw [cond_f (decide_eq_false h4)]
      have h5 : 255 < kind := Classical.byContradiction fun h5 => h ⟨by omega, h2, h3, ⟨by omega, by omega⟩⟩
      rw [decide_eq_true h5, cond_true]
    · rw [cond_t (beq_iff_eq.2 (markL_zero.2 h3)), cond_true]
  · rw [cond_t (beq_iff_eq.2 (markL_zero.2 h2)), cond_true]

theorem tell_len43 (k : Nat) {h : List Int} (hh : h.length = 8) : (tellL (k + 100) h).length = 32 := by
  unfold tellL
  rw [as_map h 0 hh, tellA]
  simp only [Option.getD_some, List.length_append, List.length_nil]
  rfl

theorem sumL_len43 (k : Nat) {s : List UInt8} (hk : 600 ≤ k) (hl : s.length ≤ 30000) : (sumL (k + 100) s).length = 32 := by
  obtain ⟨_, h⟩ := core_eq k (all := s) (j := 0) hk (by omega) hl
  exact tell_len43 k h

end Go.Proofs.YtpmoinpamdbnhaaDoorLg

/- Layer 43: an entry is read: the program is that function; what it finds. -/
set_option linter.all false
set_option maxRecDepth 100000
namespace Go.Proofs.YtpmoinpamdbnhaaDoorLg
open Go Go.Lift Go.Proofs.YtpmoinpamdbnhaaDoorPx

noncomputable def readQ (N : Nat) (B : List (List UInt8)) (f0 g i : Int) : Option (Int × List UInt8 × Nat) :=
  if 0 ≤ f0 ∧ markOk g i ∧ f0 + i < B.length then readP N B (f0 + i).toNat g i else none

theorem cut_all8 (T : List UInt8) : cut T 8 T.length = T.drop 8 := by unfold cut; rw [List.take_length]

theorem cut_take8 (T : List UInt8) : cut T 0 8 = T.take 8 := cut_take T 8

theorem gp_text {B : List (List UInt8)} {p : Nat} {m kd : Int} {u : List UInt8} (h : gp B p m = some (kd, u)) : u.length ≤ 110 := by
  unfold gp at h
  split at h
  · rename_i hc
    simp only [Option.some.injEq, Prod.mk.injEq] at h
    have hg := hc.2.2.1
    simp only [good, decide_eq_true_eq] at hg
    rw [← h.2]
    simp only [mkF, List.length_take]; omega
  · cases h

theorem eread_eq (k : Nat) (hk : 700 ≤ k) {d : DskD} (hp : Plain d) (h0 : d.1.length ≠ 0) (hd : d.1.length ≤ 250) {f0 g i : Int} (hf : I64 f0) (hi : I64 i) :
    entry_Read (k + 100) d f0 g i = some (resE (readQ (k + 100) (d.1.map toStr) f0 g i), (d, ())) := by
  rw [entry_Read, emark_eq, Option.bind_some]
  by_cases hin : 0 ≤ f0 ∧ markOk g i ∧ f0 + i < (d.1.map toStr).length
  · rw [readQ, if_pos hin]
    obtain ⟨hf0, hm, hfi⟩ := hin
    rw [List.length_map] at hfi
    have hi3 := hm.2.2
    obtain ⟨s0, hs⟩ : ∃ s0 : Nat, ((s0 : Nat) : Int) = f0 + i := ⟨(f0 + i).toNat, by omega⟩
    rw [show (f0 + i).toNat = s0 by omega]
    obtain ⟨f, ok, e, hg⟩ := get_at k hp h0 (f0 := f0) (x := i) (m := markL g i true) (p := s0) hf0 (by rw [wrap_in (by unfold I64; omega)]; omega)
    rw [e, Option.bind_some]
    dsimp only
    rw [entry_Read_p1, entry_Read_p2, readP]
    have ht110 : ∀ kd u, gp (d.1.map toStr) s0 (markL g i true) = some (kd, u) → u.length ≤ 110 := fun kd u h => gp_text h
    generalize gp (d.1.map toStr) s0 (markL g i true) = q at hg ht110 ⊢
    cases q with
    | none =>
      have hok : ok = false := hg
      rw [hok]; rfl
    | some q =>
      obtain ⟨kd, T⟩ := q
      obtain ⟨hok, hkd, hT⟩ : ok = true ∧ f.2.1 = kd ∧ f.2.2.1 = T := hg
      have hT110 := ht110 kd T rfl
      rw [hok, Bool.not_true, cond_false, hT]
      dsimp only
      by_cases h8 : T.length < 8
      · rw [decide_eq_true (show ((T.length : Nat) : Int) < 8 by omega), cond_true, if_pos h8]; rfl
      rw [decide_eq_false (show ¬ ((T.length : Nat) : Int) < 8 by omega), cond_false, if_neg h8, size_loop (k + 100) (by omega) (by rw [hT]; omega), hT]
      have hn4 := num_take_lt T 4
      simp only [Nat.reducePow] at hn4
      generalize hsz : num (T.take 4) = size at hn4 ⊢
      rw [eblocks_eq (k + 100) (by unfold I64; omega), Option.bind_some, cond_t (decide_eq_true (by omega)), entry_Read_p4, entry_Read_p5]
      by_cases hbig : 65536 < size
      · rw [show blocksI ((size : Nat) : Int) = 0 by unfold blocksI; rw [if_pos (by omega)], cond_t (by rfl), cond_true, if_pos (.inl hbig)]; rfl
      have hb := nb_bounds (n := size) (by omega)
      rw [show blocksI ((size : Nat) : Int) = ((nb size : Nat) : Int) by unfold blocksI; rw [if_neg (by omega), Int.toNat_natCast], cond_f (beq_eq_false_iff_ne.2 (by omega)), cut_all8 T]
      have hmin : (if (102 : Int) < ((size : Nat) : Int) then (102 : Int) else ((size : Nat) : Int)) = ((min size 102 : Nat) : Int) := by split <;> omega
      rw [hmin]
      by_cases hl : (T.drop 8).length = min size 102
      · rw [show ((((List.length (T.drop 8)) : Nat) : Int) != ((min size 102 : Nat) : Int)) = false by rw [hl, bne_self_eq_false], cond_false, if_neg (by rintro (h | h) <;> omega), entry_Read_p6, wrap_in (x := ((nb size : Nat) : Int) - 1) (by unfold I64; omega), show ((nb size : Nat) : Int) - 1 = ((nb size - 1 : Nat) : Int) by omega]
        have hml := more_loop k hp h0 hd (s0 := s0) (f0 := f0) (g := g) (i := i) ⟨hf0, by omega⟩ hi3 hs (size := size) (nbk := nb size) (by omega) (by omega) ((0 : Int), (([] : List UInt8), ((0 : Int), ()))) f ((nb size : Nat) : Int)
          (fun d1 x82 x92 => some ((x82, (x92, ())), (d1, ())))
          (fun d2 text => (entry_preface (k + 100) text).bind fun y3 =>
            cond (decide (((0 : Int) ≤ (8 : Int)) ∧ ((8 : Int) ≤ (((List.length T) : Nat) : Int))))
            (cond (!(y3 == (cut T 0 8)))
              (some ((((0 : Int), (([] : List UInt8), ((0 : Int), ()))), (false, ())), (d2, ())))
              (some (((f.2.1, (text, (((nb size : Nat) : Int), ()))), (true, ())), (d2, ()))))
            (none)) (nb size - 1) 1 (k + 100) (T.drop 8) (by omega) (by omega) (by omega) (by omega)
        refine hml.trans ?_
        cases hmo : more (d.1.map toStr) s0 g i size (nb size - 1) 1 (T.drop 8) with
        | none => rfl
        | some t =>
          obtain ⟨q1, q2, q3⟩ := more_len (nb size - 1) 1 (T.drop 8) t (by omega) hmo
          have ht : t.length ≤ 30000 := by
            by_cases hz : nb size - 1 = 0
            · rw [hz] at q3; rw [List.length_drop] at q3; omega
            · have := q2 hz
              rw [List.length_map] at this
              rw [List.length_drop] at q3; omega
          dsimp only
          rw [pre_eq k (by omega) ht (sumL_len43 k (by omega) ht), Option.bind_some, cond_t (decide_eq_true (by omega)), cut_take8]
          by_cases hpre : preL (k + 100) t = T.take 8
          · rw [if_pos hpre, beq_iff_eq.2 hpre, Bool.not_true, cond_false, hkd]; rfl
          · rw [if_neg hpre, beq_eq_false_iff_ne.2 hpre, Bool.not_false, cond_true]; rfl
      · rw [show ((((List.length (T.drop 8)) : Nat) : Int) != ((min size 102 : Nat) : Int)) = true by rw [bne_iff_ne]; omega, cond_true, if_pos (.inr hl)]; rfl
  · rw [readQ, if_neg hin]
    obtain ⟨f, e⟩ := get_off (k + 100) hp h0 (f0 := f0) (x := i) (m := markL g i true) (by
      rw [List.length_map] at hin
      by_cases hf0 : 0 ≤ f0
      · by_cases hm : markOk g i
        · have hi3 := hm.2.2
          have hfi : (d.1.length : Int) ≤ f0 + i := by
            by_cases h : f0 + i < d.1.length
            · exact absurd ⟨hf0, hm, h⟩ hin
            · omega
          by_cases hov : f0 + i ≤ 9223372036854775807
          · exact .inr (.inr (.inr (by rw [wrap_in (by unfold I64; omega)]; exact hfi)))
          · refine .inr (.inr (.inl ?_))
            unfold I64 at hf
            rw [wrap64]; omega
        · exact .inl (markL_zero.2 hm)
      · exact .inr (.inl (by omega)))
    rw [e, Option.bind_some]
    dsimp only
    rw [entry_Read_p1, entry_Read_p2]
    rfl

end Go.Proofs.YtpmoinpamdbnhaaDoorLg

/- Layer 43: what is read is what was written, and nothing else. -/
set_option linter.all false
set_option maxRecDepth 100000
namespace Go.Proofs.YtpmoinpamdbnhaaDoorLg
open Go Go.Lift Go.Proofs.YtpmoinpamdbnhaaDoorPx

/-- the blocks of an entry stand at s0 -/
def Fits (N : Nat) (B : List (List UInt8)) (s0 : Nat) (g i kind : Int) (t : List UInt8) : Prop :=
  entryOk g i kind t.length ∧ s0 + nb t.length ≤ B.length ∧ ∀ j, j < nb t.length → B.getD (s0 + j) [] = blkOf N g i kind t j

theorem markOk_mid {g i : Int} {n : Nat} {kind : Int} (h : entryOk g i kind n) {j : Nat} (hj : j < nb n) : markOk g (i + (j : Nat)) :=
  ⟨h.2.1.1, h.2.1.2.1, by have := h.2.1.2.2; omega, by have := h.2.2.1.2.2; omega⟩

theorem putR_is {m kind : Int} {t : List UInt8} (h1 : 1 ≤ m) (h2 : kindOk kind) (h3 : t.length ≤ 110) : (putR (m, kind, t, ())).1 = blk m.toNat kind.toNat t := by
  unfold putR
  rw [cond_f (decide_eq_false (by have := h2.1; have := h2.2; simp only; omega)), cond_f (decide_eq_false (by simp only; omega))]

theorem gp_put {B : List (List UInt8)} {p : Nat} {m kind : Int} {t : List UInt8} (hp : p < B.length) (h1 : 1 ≤ m) (hI : I64 m) (h2 : kindOk kind) (h3 : t.length ≤ 110) (hB : B.getD p [] = (putR (m, kind, t, ())).1) : gp B p m = some (kind, t) := by
  rw [putR_is h1 h2 h3] at hB
  have hm : m.toNat < 9223372036854775808 := by unfold I64 at hI; omega
  obtain ⟨k1, k2⟩ := h2
  obtain ⟨g1, g2⟩ := good_blk (m := m.toNat) (kd := kind.toNat) (t := t) (by omega) hm (by omega) h3
  unfold gp
  rw [hB, g2, if_pos ⟨hp, by omega, g1, by dsimp only; omega⟩]
  dsimp only
  rw [show ((kind.toNat : Nat) : Int) = kind by omega]

/-- of a frame that there is -/
theorem gp_is {B : List (List UInt8)} {p : Nat} {m kd : Int} {u : List UInt8} (h : gp B p m = some (kd, u)) : p < B.length ∧ m ≠ 0 ∧ kindOk kd ∧ u.length ≤ 110 ∧ B.getD p [] = (putR (m, kd, u, ())).1 := by
  have hu := gp_text h
  unfold gp at h
  split at h
  · rename_i hc
    obtain ⟨c1, c2, c3, c4⟩ := hc
    simp only [Option.some.injEq, Prod.mk.injEq] at h
    have hpm := put_mk c3
    have e : mkF (B.getD p []) = (m, kd, u, ()) := by
      rw [← c4, ← h.1, ← h.2]
    rw [e] at hpm
    refine ⟨c1, c2, ?_, hu, by rw [hpm]⟩
    rw [← h.1]
    simp only [mkF]
    have := u8_lt ((B.getD p []).getD 8 0)
    exact ⟨by omega, by omega⟩
  · cases h

/-! the parts together -/
theorem part_take (t : List UInt8) (j : Nat) : t.take (off j) ++ part t j = t.take (off (j + 1)) := by
  unfold part
  have : t.take (off j) = (t.take (off (j + 1))).take (off j) := by
    rw [List.take_take, Nat.min_eq_left (by rw [off_room]; omega)]
  rw [this, List.take_append_drop]

theorem part_len_in {t : List UInt8} {j : Nat} (h : j + 1 < nb t.length ∨ True) (hj : off j ≤ t.length) : (part t j).length = min (t.length - off j) (if j = 0 then 102 else 110) := by
  rw [part_length, off_room]
  split <;> omega

/-- all the parts are found -/
theorem more_parts (N : Nat) {B : List (List UInt8)} {s0 : Nat} {g i kind : Int} {t : List UInt8} (h : Fits N B s0 g i kind t) :
    ∀ (n j : Nat), j + n = nb t.length → 1 ≤ j → more B s0 g i t.length n j (t.take (off j)) = some t
  | 0, j, hj, h1 => by
    rw [more, show j = nb t.length by omega, List.take_of_length_le off_last]
  | n + 1, j, hj, h1 => by
    have ho := off_in (n := t.length) (j := j) (by omega)
    have hm := markOk_mid h.1 (j := j) (by omega)
    have hmp := markL_pos (h := false) hm
    have hg := gp_put (B := B) (p := s0 + j) (m := markL g (i + (j : Nat)) false) (kind := 0) (t := part t j) (by have := h.2.1; omega) hmp.1 hmp.2 ⟨by decide, by decide⟩ (part_le _ _) (by rw [h.2.2 j (by omega), blkOf, if_neg (by omega)])
    rw [more, hg]
    dsimp only
    rw [if_pos ⟨rfl, by rw [part_len_in (.inr trivial) ho, List.length_take, if_neg (by omega)]; omega⟩, part_take]
    exact more_parts N h n (j + 1) (by omega) (by omega)

theorem readP_fits (k : Nat) (hk : 700 ≤ k) {B : List (List UInt8)} {s0 : Nat} {g i kind : Int} {t : List UInt8} (ht : t.length ≤ 30000) (h : Fits (k + 100) B s0 g i kind t) : readP (k + 100) B s0 g i = some (kind, t, nb t.length) := by
  have hs := sumL_len43 k (s := t) (by omega) ht
  have hpl := preL_length k (by omega) ht hs
  have hp0 := part_zero t
  have hb := nb_bounds h.1.1
  have hmp := markL_pos (h := true) h.1.2.1
  have hg := gp_put (B := B) (p := s0) (m := markL g i true) (kind := kind) (t := preL (k + 100) t ++ part t 0) (by have := h.2.1; omega) hmp.1 hmp.2 h.1.2.2.2 (by rw [List.length_append]; omega) (by have := h.2.2 0 (by omega); rw [Nat.add_zero] at this; rw [this, blkOf, if_pos rfl])
  rw [readP, hg]
  dsimp only
  have e8 : (preL (k + 100) t ++ part t 0).take 8 = preL (k + 100) t := by rw [List.take_append_of_le_length (by omega), List.take_of_length_le (by omega)]
  have d8 : (preL (k + 100) t ++ part t 0).drop 8 = part t 0 := by rw [← hpl, List.drop_left]
  have e4 : (preL (k + 100) t ++ part t 0).take 4 = le 4 t.length := by
    unfold preL
    rw [List.append_assoc, List.take_append_of_le_length (by rw [le_length]; exact Nat.le_refl _), List.take_of_length_le (by rw [le_length]; exact Nat.le_refl _)]
  have hnum : num (le 4 t.length) = t.length := num_le 4 t.length (by omega)
  rw [if_neg (by rw [List.length_append]; omega), e4, hnum, d8, e8]
  have hp0l : (part t 0).length = min t.length 102 := by rw [part_len_in (.inr trivial) (by simp [off]), if_pos rfl]; simp [off]
  rw [if_neg (by rintro (h | h) <;> omega)]
  have hmo := more_parts (k + 100) h (nb t.length - 1) 1 (by omega) (by omega)
  rw [show t.take (off 1) = part t 0 by have := part_take t 0; simpa [off] using this.symm] at hmo
  rw [hmo]
  dsimp only
  rw [if_pos rfl]

/-- what more finds -/
theorem more_is {B : List (List UInt8)} {s0 : Nat} {g i : Int} {size : Nat} : ∀ (n j : Nat) (t u : List UInt8), more B s0 g i size n j t = some u → 1 ≤ j → j + n = nb size → t.length = min size (off j) →
    u.length = size ∧ (∃ v, u = t ++ v) ∧ ∀ q, j ≤ q → q < nb size → s0 + q < B.length ∧ markL g (i + (q : Nat)) false ≠ 0 ∧ B.getD (s0 + q) [] = (putR (markL g (i + (q : Nat)) false, 0, part u q, ())).1
  | 0, j, t, u, h, h1, hj, ht => by
    simp only [more, Option.some.injEq] at h
    subst h
    have := off_last (n := size)
    rw [← show j = nb size by omega] at this
    exact ⟨by omega, ⟨[], by simp⟩, fun q h2 h3 => by omega⟩
  | n + 1, j, t, u, h, h1, hj, ht => by
    have ho := off_in (n := size) (j := j) (by omega)
    have hor := off_room j
    rw [if_neg (by omega)] at hor
    rw [more] at h
    split at h
    · rename_i kd v hg
      split at h
      · rename_i hc
        obtain ⟨hk0, hvl⟩ := hc
        subst hk0
        obtain ⟨q1, ⟨v2, q2⟩, q3⟩ := more_is n (j + 1) (t ++ v) u h (by omega) (by omega) (by rw [List.length_append, hor]; omega)
        refine ⟨q1, ⟨v ++ v2, by rw [q2, List.append_assoc]⟩, fun q h2 h3 => ?_⟩
        by_cases e : q = j
        · subst e
          obtain ⟨g1, g2, g3, g4, g5⟩ := gp_is hg
          have hpart : part u q = v := by
            unfold part
            rw [q2, List.append_assoc]
            have htl : t.length = off q := by omega
            by_cases hfull : off (q + 1) ≤ size
            · have : (t ++ v).length = off (q + 1) := by rw [List.length_append]; omega
              rw [← List.append_assoc, List.take_append_of_le_length (by omega), List.take_of_length_le (by omega), ← htl, List.drop_left]
            · have : (t ++ v).length = size := by rw [List.length_append]; omega
              have hv2 : v2 = [] := by
                have hul := q1
                rw [q2, List.length_append, this] at hul
                exact List.eq_nil_of_length_eq_zero (by omega)
              rw [hv2, List.append_nil, List.take_of_length_le (by omega), ← htl, List.drop_left]
          rw [hpart]
          exact ⟨g1, g2, g5⟩
        · exact q3 q (by omega) h3
      · cases h
    · cases h

theorem readP_is (k : Nat) (hk : 700 ≤ k) {B : List (List UInt8)} {s0 : Nat} {g i kind : Int} {t : List UInt8} {n : Nat} (hB : B.length ≤ 250) (h : readP (k + 100) B s0 g i = some (kind, t, n)) : Fits (k + 100) B s0 g i kind t ∧ n = nb t.length := by
  rw [readP] at h
  split at h
  · cases h
  rename_i kd T hg
  split at h
  · cases h
  rename_i h8
  split at h
  · cases h
  rename_i hc
  split at h
  · cases h
  rename_i u hmo
  split at h
  · rename_i hpre
    simp only [Option.some.injEq, Prod.mk.injEq] at h
    obtain ⟨e1, e2, e3⟩ := h
    replace e1 := e1.symm
    replace e2 := e2.symm
    replace e3 := e3.symm
    subst e1
    subst e2
    subst e3
    have hsz : num (T.take 4) ≤ 65536 := by omega
    have hb := nb_bounds hsz
    generalize hs : num (T.take 4) = size at hc hmo hsz hb ⊢
    have hd : (T.drop 8).length = min size 102 := by omega
    obtain ⟨q1, ⟨v, q2⟩, q3⟩ := more_is (nb size - 1) 1 (T.drop 8) t hmo (by omega) (by omega) (by rw [hd]; simp [off])
    obtain ⟨g1, g2, g3, g4, g5⟩ := gp_is hg
    have hT : T = preL (k + 100) t ++ part t 0 := by
      rw [hpre]
      have : part t 0 = T.drop 8 := by
        unfold part
        rw [show off 0 = 0 from rfl, List.drop_zero, show off (0 + 1) = 102 from rfl, q2]
        by_cases hfull : 102 ≤ size
        · rw [List.take_append_of_le_length (by omega), List.take_of_length_le (by omega)]
        · have hul := q1
          rw [q2, List.length_append, hd] at hul
          have hv : v = [] := List.eq_nil_of_length_eq_zero (by omega)
          rw [hv, List.append_nil, List.take_of_length_le (by omega)]
      rw [this, List.take_append_drop]
    have hm : markOk g i := Classical.byContradiction fun hh => g2 (markL_zero.2 hh)
    subst q1
    have hlast : markOk g (i + (nb t.length : Nat) - 1) := by
      by_cases h1 : nb t.length = 1
      · rw [h1, show i + ((1 : Nat) : Int) - 1 = i by omega]; exact hm
      · have := (q3 (nb t.length - 1) (by omega) (by omega)).2.1
        have := Classical.byContradiction fun hh => this (markL_zero.2 hh)
        rw [show i + ((nb t.length : Nat) : Int) - 1 = i + ((nb t.length - 1 : Nat) : Int) by omega]; exact this
    refine ⟨⟨⟨hsz, hm, hlast, g3⟩, ?_, fun j hj => ?_⟩, rfl⟩
    · by_cases h1 : nb t.length = 1
      · omega
      · have := (q3 (nb t.length - 1) (by omega) (by omega)).1; omega
    · by_cases h0 : j = 0
      · subst h0
        rw [blkOf, if_pos rfl, Nat.add_zero, g5, ← hT]
      · rw [blkOf, if_neg h0]
        exact (q3 j (by omega) hj).2.2
  · cases h

end Go.Proofs.YtpmoinpamdbnhaaDoorLg

/- Layer 43: the document's reading. -/
set_option linter.all false
set_option maxRecDepth 100000
namespace Go.Proofs.YtpmoinpamdbnhaaDoorLg
open Go Go.Lift Go.Proofs.YtpmoinpamdbnhaaDoorPx

abbrev RefR : Type := Int × List UInt8 × Int × Unit

theorem n_expr {a b c : Nat} (ha : a < 256) (hb : b < 256) (hc : c < 256) :
    IntKind.wrap .i64 (IntKind.wrap .i64 (IntKind.wrap .i64 ((a : Nat) : Int) + IntKind.wrap .i64 ((256 : Int) * IntKind.wrap .i64 ((b : Nat) : Int))) + IntKind.wrap .i64 ((65536 : Int) * IntKind.wrap .i64 ((c : Nat) : Int))) = ((a + 256 * b + 65536 * c : Nat) : Int) := by
  rw [wrap_in (x := ((a : Nat) : Int)) (by unfold I64; omega), wrap_in (x := ((b : Nat) : Int)) (by unfold I64; omega), wrap_in (x := ((c : Nat) : Int)) (by unfold I64; omega), wrap_in (x := (256 : Int) * (b : Int)) (by unfold I64; omega), wrap_in (x := (65536 : Int) * (c : Int)) (by unfold I64; omega), wrap_in (x := (a : Int) + 256 * (b : Int)) (by unfold I64; omega), wrap_in (by unfold I64; omega)]
  omega

/-- the blocks compared one by one -/
theorem cmp43 (N : Nat) {B F : List (List UInt8)} {s0 : Nat} {f0 i kind : Int} {kk : Nat} {text : List UInt8} (hN : kk < N) (hk : kk ≤ 600) (hF : F.length = kk) (hB : s0 + kk ≤ B.length) (hBl : B.length ≤ 5000) (hs : IntKind.wrap .i64 (f0 + i) = ((s0 : Nat) : Int)) (k0 : Int → List UInt8 → Int → Option RefR) (k1 : Option RefR) :
    porterref43_Read_p13 N B f0 i kind (kk : Int) text F 0 k0 k1 = if (∀ j, j < kk → F.getD j [] = B.getD (s0 + j) []) then k1 else k0 0 [] 0 := by
  classical
  rw [porterref43_Read_p13]
  refine iter_eq (fun v => ∃ j : Nat, v = (j : Int) ∧ j ≤ kk ∧ ∀ q, q < j → F.getD q [] = B.getD (s0 + q) []) (fun v => kk - v.toNat) (fun _ => if (∀ j, j < kk → F.getD j [] = B.getD (s0 + j) []) then k1 else k0 0 [] 0) ?_ N 0 ⟨0, rfl, by omega, fun q h => by omega⟩ (by omega)
  rintro v r ⟨j, rfl, hj, hq⟩ hr
  rw [porterref43_Read_s13]
  by_cases hlt : j < kk
  · rw [cond_t (decide_eq_true (by omega)), cond_t (inR_nat (by omega)), hs, wrap_in (x := ((s0 : Nat) : Int) + (j : Int)) (by unfold I64; omega), show ((s0 : Nat) : Int) + (j : Int) = ((s0 + j : Nat) : Int) by omega, cond_t (inR_nat (by omega)), Int.toNat_natCast, Int.toNat_natCast]
    by_cases e : F.getD j [] = B.getD (s0 + j) []
    · rw [show (!(F.getD j [] == B.getD (s0 + j) [])) = false by rw [e, beq_self_eq_true]; rfl, cond_false, wrap_succ (by omega)]
      refine hr _ ⟨j + 1, rfl, by omega, fun q h => ?_⟩ (by omega)
      by_cases c : q = j
      · rw [c]; exact e
      · exact hq q (by omega)
    · rw [show (!(F.getD j [] == B.getD (s0 + j) [])) = true by rw [beq_eq_false_iff_ne.2 e]; rfl, cond_true, if_neg (fun h => e (h j hlt))]
  · rw [cond_f (decide_eq_false (by omega)), if_pos (fun q h => hq q (by omega))]

/-- whatever the other blocks are -/
theorem restS (N : Nat) {B : List (List UInt8)} {s0 : Nat} {f0 g i kind n : Int} {kk : Nat} (hN : 700 < N) (hk1 : 1 ≤ kk) (hk : kk ≤ 600) (hB : s0 + kk ≤ B.length) (hBl : B.length ≤ 250) (hi : 0 ≤ i ∧ i ≤ 4095) (hs : IntKind.wrap .i64 (f0 + i) = ((s0 : Nat) : Int)) (t : List UInt8) (ht : t.length ≤ 110) (z : RefR)
    (k0 : Int → List UInt8 → Int → Option RefR) (k1 : List UInt8 → Option RefR) (h0 : k0 0 [] 0 = some z) (h1 : ∀ u, u.length ≤ 30000 → k1 u = some z) :
    porterref43_Read_p7 N B f0 g i kind n (kk : Int) t 1 k0 k1 = some z := by
  rw [porterref43_Read_p7]
  refine iter_eq (fun v => ∃ (j : Nat) (u : List UInt8), v = (u, (j : Int)) ∧ 1 ≤ j ∧ j ≤ kk ∧ u.length ≤ 110 * j) (fun v => 700 - v.2.toNat) (fun _ => some z) ?_ N (t, 1) ⟨1, t, rfl, by omega, by omega, by omega⟩ (by simp only; omega)
  rintro v r ⟨j, u, rfl, hj1, hj, hu⟩ hr
  rw [porterref43_Read_s7]
  dsimp only
  by_cases hlt : j < kk
  · rw [cond_t (decide_eq_true (by omega)), porterref43_Read_p8, hs, wrap_in (x := ((s0 : Nat) : Int) + (j : Int)) (by unfold I64; omega), show ((s0 : Nat) : Int) + (j : Int) = ((s0 + j : Nat) : Int) by omega, cond_t (inR_nat (by omega)), Int.toNat_natCast, refGet_eq N _ (by omega), Option.bind_some, porterref43_Read_p9, porterref43_Read_p10]
    cases hg : good (B.getD (s0 + j) []) with
    | false => rw [cond_false]; exact h0
    | true =>
      rw [cond_true]
      dsimp only
      rw [Bool.not_true, cond_false, wrap_in (x := i + (j : Int)) (by unfold I64; omega), rmark_eq, Option.bind_some]
      cases hm : ((mkF (B.getD (s0 + j) [])).1 != markL g (i + (j : Int)) false) with
      | true => rw [cond_true, cond_true]; exact h0
      | false =>
        rw [cond_false]
        cases hz : ((mkF (B.getD (s0 + j) [])).2.1 != (0 : Int)) with
        | true => rw [cond_true]; exact h0
        | false =>
          have hul : (mkF (B.getD (s0 + j) [])).2.2.1.length ≤ 110 := by
            simp only [good, decide_eq_true_eq] at hg
            simp only [mkF, List.length_take]; omega
          rw [cond_false, cond_t (decide_eq_true (by omega)), wrap_succ (by omega)]
          exact hr _ ⟨j + 1, _, rfl, by omega, by omega, by rw [List.length_append]; omega⟩ (by simp only; omega)
  · rw [cond_f (decide_eq_false (by omega))]
    exact h1 u (by omega)

def zeroR : RefR := (0, [], 0, ())

theorem getD_u8 (T : List UInt8) (j : Nat) : (T.getD j 0).toNat < 256 := u8_lt _

/-- nothing is read where nothing stands -/
theorem refRead_none (k : Nat) (hk : 700 ≤ k) {B : List (List UInt8)} {f0 g i : Int} (hBl : B.length ≤ 250) (hf : I64 f0) (hi : I64 i) (hno : ∀ s0 kind t, ((s0 : Nat) : Int) = f0 + i → 0 ≤ f0 → t.length ≤ 30000 → ¬ Fits (k + 100) B s0 g i kind t) :
    porterref43_Read (k + 100) B f0 g i = some zeroR := by
  rw [porterref43_Read, porterref43_Read_p1, porterref43_Read_p2]
  by_cases hf0 : f0 < 0
  · rw [cond_t (decide_eq_true hf0), cond_true]; rfl
  rw [cond_f (decide_eq_false hf0), rmark_eq, Option.bind_some]
  by_cases hm' : ¬ markOk g i
  · rw [cond_t (beq_iff_eq.2 (markL_zero.2 hm')), cond_true]; rfl
  have hm : markOk g i := Classical.not_not.1 hm'
  have hi3 := hm.2.2
  rw [cond_f (beq_eq_false_iff_ne.2 (fun e => markL_zero.1 e hm)), wrap_in (x := ((B.length : Nat) : Int) - i) (by unfold I64; omega)]
  by_cases hle : ((B.length : Nat) : Int) - i ≤ f0
  · rw [decide_eq_true hle, cond_true]; rfl
  rw [decide_eq_false hle, cond_false]
  obtain ⟨s0, hs0⟩ : ∃ s0 : Nat, ((s0 : Nat) : Int) = f0 + i := ⟨(f0 + i).toNat, by omega⟩
  have hs : IntKind.wrap .i64 (f0 + i) = ((s0 : Nat) : Int) := by rw [wrap_in (by unfold I64; omega)]; omega
  rw [hs, cond_t (inR_nat (by omega)), Int.toNat_natCast, refGet_eq (k + 100) _ (by omega), Option.bind_some, porterref43_Read_p3, porterref43_Read_p4]
  cases hg : good (B.getD s0 []) with
  | false => rfl
  | true =>
    rw [cond_true]
    dsimp only
    rw [Bool.not_true, cond_false, rmark_eq, Option.bind_some]
    have hTl : (mkF (B.getD s0 [])).2.2.1.length ≤ 110 := by
      have := hg
      simp only [good, decide_eq_true_eq] at this
      simp only [mkF, List.length_take]; omega
    generalize hT : (mkF (B.getD s0 [])).2.2.1 = T at hTl ⊢
    generalize hkd : (mkF (B.getD s0 [])).2.1 = kd
    cases hmm : ((mkF (B.getD s0 [])).1 != markL g i true) with
    | true => rfl
    | false =>
      rw [cond_false]
      by_cases h8 : T.length < 8
      · rw [cond_t (decide_eq_true (show ((T.length : Nat) : Int) < 8 by omega)), cond_true]; rfl
      rw [cond_f (decide_eq_false (show ¬ ((T.length : Nat) : Int) < 8 by omega)), cond_t (by unfold inR; exact decide_eq_true ⟨by omega, by omega⟩)]
      by_cases h3 : (0 : Int) < (((T.getD 3 0).toNat : Nat) : Int)
      · rw [decide_eq_true h3, cond_true]; rfl
      rw [decide_eq_false h3, cond_false, cond_t (by unfold inR; exact decide_eq_true ⟨by omega, by omega⟩), cond_t (by unfold inR; exact decide_eq_true ⟨by omega, by omega⟩), cond_t (by unfold inR; exact decide_eq_true ⟨by omega, by omega⟩)]
      rw [n_expr (getD_u8 T 0) (getD_u8 T 1) (getD_u8 T 2)]
      have b0 := getD_u8 T 0; have b1 := getD_u8 T 1; have b2 := getD_u8 T 2
      obtain ⟨n, hn⟩ : ∃ n, n = (T.getD 0 0).toNat + 256 * (T.getD 1 0).toNat + 65536 * (T.getD 2 0).toNat := ⟨_, rfl⟩
      rw [← hn]
      have hnb : n < 16777216 := by omega
      rw [rblocks_eq (k + 100) (by omega) (by unfold I64; omega), Option.bind_some, porterref43_Read_p5, porterref43_Read_p6]
      by_cases hbig : 65536 < n
      · rw [show blocksI ((n : Nat) : Int) = 0 by unfold blocksI; rw [if_pos (by omega)], cond_t (by rfl), cond_true]; rfl
      have hb := nb_bounds (n := n) (by omega)
      rw [show blocksI ((n : Nat) : Int) = ((nb n : Nat) : Int) by unfold blocksI; rw [if_neg (by omega), Int.toNat_natCast], cond_f (beq_eq_false_iff_ne.2 (by omega)), wrap_in (x := ((B.length : Nat) : Int) - f0) (by unfold I64 at hf ⊢; omega), wrap_in (x := ((B.length : Nat) : Int) - f0 - i) (by unfold I64 at hf ⊢; omega)]
      by_cases hfit : ((B.length : Nat) : Int) - f0 - i < ((nb n : Nat) : Int)
      · rw [decide_eq_true hfit, cond_true]; rfl
      rw [decide_eq_false hfit, cond_false, cond_t (decide_eq_true (by omega))]
      refine restS (k + 100) (s0 := s0) (by omega) hb.1 (by omega) (by omega) hBl hi3 hs _ (by unfold cut; rw [List.take_length, List.length_drop]; omega) zeroR _ _ rfl (fun u hu => ?_)
      by_cases ho : entryOk g i kd u.length
      · rw [frames_eq k hk hu hi (sumL_len43 k (by omega) hu) ho, Option.bind_some, porterref43_Read_p11, porterref43_Read_p12]
        by_cases hun : u.length = n
        · subst hun
          rw [show ((((List.length u) : Nat) : Int) != ((u.length : Nat) : Int)) = false by rw [bne_self_eq_false], cond_false]
          have hFl : (framesL (k + 100) g i kd u).length = nb u.length := by simp [framesL]
          rw [hFl, bne_self_eq_false, cond_false, cmp43 (k + 100) (s0 := s0) (by omega) (by omega) hFl (by omega) (by omega) hs]
          refine if_neg (fun hall => hno s0 kd u hs0 (by omega) hu ⟨ho, by omega, fun j hj => ?_⟩)
          rw [← hall j hj, framesL_get hj]
        · rw [show ((((List.length u) : Nat) : Int) != ((n : Nat) : Int)) = true by rw [bne_iff_ne]; omega, cond_true]; rfl
      · rw [frames_none (k + 100) (by omega) (by omega) hi ho, Option.bind_some, porterref43_Read_p11, porterref43_Read_p12]
        by_cases hun : u.length = n
        · rw [show ((((List.length u) : Nat) : Int) != ((n : Nat) : Int)) = false by rw [hun, bne_self_eq_false], cond_false, show ((((List.length ([] : List (List UInt8))) : Nat) : Int) != ((nb n : Nat) : Int)) = true by rw [bne_iff_ne]; simp only [List.length_nil]; omega, cond_true]; rfl
        · rw [show ((((List.length u) : Nat) : Int) != ((n : Nat) : Int)) = true by rw [bne_iff_ne]; omega, cond_true]; rfl

/-- the other blocks of an entry that stands there -/
theorem restC (N : Nat) (hN : 700 < N) {B : List (List UInt8)} {s0 : Nat} {f0 g i kind : Int} {t : List UInt8} (h : Fits N B s0 g i kind t) (hBl : B.length ≤ 5000) (hs : IntKind.wrap .i64 (f0 + i) = ((s0 : Nat) : Int)) (n kd : Int)
    (k0 : Int → List UInt8 → Int → Option RefR) (k1 : List UInt8 → Option RefR) :
    porterref43_Read_p7 N B f0 g i kd n ((nb t.length : Nat) : Int) (part t 0) 1 k0 k1 = k1 t := by
  have hb := nb_bounds h.1.1
  have hi3 := h.1.2.1.2.2
  have hfit := h.2.1
  rw [porterref43_Read_p7]
  refine iter_eq (fun v => ∃ j : Nat, v = (t.take (off j), (j : Int)) ∧ 1 ≤ j ∧ j ≤ nb t.length) (fun v => 700 - v.2.toNat) (fun _ => k1 t) ?_ N (part t 0, 1) ⟨1, by rw [Prod.mk.injEq]; exact ⟨by have := part_take t 0; simpa [off] using this, rfl⟩, by omega, by omega⟩ (by simp only; omega)
  rintro v r ⟨j, rfl, hj1, hj⟩ hr
  rw [porterref43_Read_s7]
  dsimp only
  by_cases hlt : j < nb t.length
  · have hm := markOk_mid h.1 hlt
    have hmp := markL_pos (h := false) hm
    have hB := h.2.2 j hlt
    rw [blkOf, if_neg (by omega), putR_is hmp.1 ⟨by decide, by decide⟩ (part_le _ _)] at hB
    have hmI := hmp.2
    unfold I64 at hmI
    obtain ⟨g1, g2⟩ := good_blk (m := (markL g (i + (j : Nat)) false).toNat) (kd := (0 : Int).toNat) (t := part t j) (by omega) (by omega) (by decide) (part_le _ _)
    rw [cond_t (decide_eq_true (by omega)), porterref43_Read_p8, hs, wrap_in (x := ((s0 : Nat) : Int) + (j : Int)) (by unfold I64; omega), show ((s0 : Nat) : Int) + (j : Int) = ((s0 + j : Nat) : Int) by omega, cond_t (inR_nat (by omega)), Int.toNat_natCast, refGet_eq N _ (by omega), Option.bind_some, hB, g1, g2, cond_true, porterref43_Read_p9, porterref43_Read_p10]
    dsimp only
    rw [Bool.not_true, cond_false, wrap_in (x := i + (j : Int)) (by unfold I64; omega), rmark_eq, Option.bind_some, show (((markL g (i + (j : Int)) false).toNat : Nat) : Int) = markL g (i + (j : Int)) false by omega, bne_self_eq_false, cond_false]
    rw [show ((((0 : Int).toNat : Nat) : Int) != (0 : Int)) = false from rfl, cond_false]
    have hpl := part_le t j
    have htl : (t.take (off j)).length ≤ 70000 := by rw [List.length_take]; have := h.1.1; omega
    rw [cond_t (decide_eq_true (by omega)), wrap_succ (by omega), part_take]
    exact hr _ ⟨j + 1, rfl, by omega, by omega⟩ (by simp only; omega)
  · have : j = nb t.length := by omega
    rw [cond_f (decide_eq_false (by omega)), this, List.take_of_length_le off_last]

theorem pre_get {N : Nat} {t p : List UInt8} (j : Nat) (hj : j < 4) : (preL N t ++ p).getD j 0 = (le 4 t.length).getD j 0 := by
  unfold preL
  have hl := le_length 4 t.length
  rw [List.append_assoc]
  simp only [List.getD, List.getElem?_append_left (show j < (le 4 t.length).length by omega)]

theorem le4_get (n : Nat) : ((le 4 n).getD 0 0).toNat = n % 256 ∧ ((le 4 n).getD 1 0).toNat = n / 256 % 256 ∧ ((le 4 n).getD 2 0).toNat = n / 65536 % 256 ∧ ((le 4 n).getD 3 0).toNat = n / 16777216 % 256 := by
  refine ⟨?_, ?_, ?_, ?_⟩
  · show (u8 (n % 256)).toNat = _
    rw [u8_toNat]; omega
  · show (u8 (n / 256 % 256)).toNat = _
    rw [u8_toNat]; omega
  · show (u8 (n / 256 / 256 % 256)).toNat = _
    rw [u8_toNat]; omega
  · show (u8 (n / 256 / 256 / 256 % 256)).toNat = _
    rw [u8_toNat]; omega

theorem refRead_fits (k : Nat) (hk : 700 ≤ k) {B : List (List UInt8)} {s0 : Nat} {f0 g i kind : Int} {t : List UInt8} (ht : t.length ≤ 30000) (h : Fits (k + 100) B s0 g i kind t) (hBl : B.length ≤ 5000) (hf0 : 0 ≤ f0) (hs0 : ((s0 : Nat) : Int) = f0 + i) :
    porterref43_Read (k + 100) B f0 g i = some (kind, t, ((nb t.length : Nat) : Int), ()) := by
  have hsum := sumL_len43 k (s := t) (by omega) ht
  have hpl := preL_length k (by omega) ht hsum
  have hp0 := part_zero t
  have hb := nb_bounds h.1.1
  have hm := h.1.2.1
  have hi3 := hm.2.2
  have hmp := markL_pos (h := true) hm
  have hfit := h.2.1
  have hs : IntKind.wrap .i64 (f0 + i) = ((s0 : Nat) : Int) := by rw [wrap_in (by unfold I64; omega)]; omega
  have hB := h.2.2 0 (by omega)
  rw [Nat.add_zero, blkOf, if_pos rfl, putR_is hmp.1 h.1.2.2.2 (by rw [List.length_append]; omega)] at hB
  have hmI := hmp.2
  unfold I64 at hmI
  obtain ⟨k1, k2⟩ := h.1.2.2.2
  obtain ⟨g1, g2⟩ := good_blk (m := (markL g i true).toNat) (kd := kind.toNat) (t := preL (k + 100) t ++ part t 0) (by omega) (by omega) (by omega) (by rw [List.length_append]; omega)
  have d8 : cut (preL (k + 100) t ++ part t 0) 8 (preL (k + 100) t ++ part t 0).length = part t 0 := by unfold cut; rw [List.take_length, ← hpl, List.drop_left]
  rw [porterref43_Read, porterref43_Read_p1, porterref43_Read_p2, cond_f (decide_eq_false (by omega)), rmark_eq, Option.bind_some, cond_f (beq_eq_false_iff_ne.2 (fun e => markL_zero.1 e hm)), wrap_in (x := ((B.length : Nat) : Int) - i) (by unfold I64; omega), decide_eq_false (show ¬ ((B.length : Nat) : Int) - i ≤ f0 by omega), cond_false, hs, cond_t (inR_nat (by omega)), Int.toNat_natCast, refGet_eq (k + 100) _ (by omega), Option.bind_some, hB, g1, g2, cond_true, porterref43_Read_p3, porterref43_Read_p4]
  dsimp only
  have hTl : (preL (k + 100) t ++ part t 0).length = 8 + (part t 0).length := by rw [List.length_append, hpl]
  have e0 := pre_get (N := k + 100) (t := t) (p := part t 0) 0 (by omega)
  have e1 := pre_get (N := k + 100) (t := t) (p := part t 0) 1 (by omega)
  have e2 := pre_get (N := k + 100) (t := t) (p := part t 0) 2 (by omega)
  have e3 := pre_get (N := k + 100) (t := t) (p := part t 0) 3 (by omega)
  obtain ⟨l0, l1, l2, l3⟩ := le4_get t.length
  rw [← e0] at l0
  rw [← e1] at l1
  rw [← e2] at l2
  rw [← e3] at l3
  generalize preL (k + 100) t ++ part t 0 = T at d8 hTl l0 l1 l2 l3 ⊢
  rw [Bool.not_true, cond_false, rmark_eq, Option.bind_some, show (((markL g i true).toNat : Nat) : Int) = markL g i true by omega, bne_self_eq_false, cond_false, cond_f (decide_eq_false (by omega)), cond_t (by unfold inR; exact decide_eq_true ⟨by omega, by omega⟩), decide_eq_false (show ¬ (0 : Int) < (((T.getD 3 0).toNat : Nat) : Int) by omega), cond_false]
  rw [cond_t (by unfold inR; exact decide_eq_true ⟨by omega, by omega⟩), cond_t (by unfold inR; exact decide_eq_true ⟨by omega, by omega⟩), cond_t (by unfold inR; exact decide_eq_true ⟨by omega, by omega⟩)]
  rw [n_expr (getD_u8 T 0) (getD_u8 T 1) (getD_u8 T 2), show (T.getD 0 0).toNat + 256 * (T.getD 1 0).toNat + 65536 * (T.getD 2 0).toNat = t.length by omega]
  rw [rblocks_eq (k + 100) (by omega) (by unfold I64; omega), Option.bind_some, porterref43_Read_p5, porterref43_Read_p6, show blocksI ((t.length : Nat) : Int) = ((nb t.length : Nat) : Int) by unfold blocksI; rw [if_neg (by omega), Int.toNat_natCast], cond_f (beq_eq_false_iff_ne.2 (by omega)), wrap_in (x := ((B.length : Nat) : Int) - f0) (by unfold I64; omega), wrap_in (x := ((B.length : Nat) : Int) - f0 - i) (by unfold I64; omega), decide_eq_false (show ¬ ((B.length : Nat) : Int) - f0 - i < ((nb t.length : Nat) : Int) by omega), cond_false, cond_t (decide_eq_true (by omega)), d8]
  rw [restC (k + 100) (by omega) h hBl hs, show (((kind.toNat : Nat)) : Int) = kind by omega, frames_eq k hk ht (by unfold I64; omega) hsum h.1, Option.bind_some, porterref43_Read_p11, porterref43_Read_p12, bne_self_eq_false, cond_false]
  have hFl : (framesL (k + 100) g i kind t).length = nb t.length := by simp [framesL]
  rw [hFl, bne_self_eq_false, cond_false, cmp43 (k + 100) (s0 := s0) (by omega) (by omega) hFl (by omega) (by omega) hs]
  exact if_pos (fun j hj => by rw [framesL_get hj, h.2.2 j hj])

end Go.Proofs.YtpmoinpamdbnhaaDoorLg

/- Layer 43: the law of reading. -/
set_option linter.all false
set_option maxRecDepth 100000
namespace Go.Proofs.YtpmoinpamdbnhaaDoorLg
open Go Go.Lift Go.Proofs.YtpmoinpamdbnhaaDoorPx

/-- the disk is filled -/
theorem fill43 (N : Nat) {blocks : List (List UInt8)} {l : List Int} (hn : blocks.length ≤ 20) (h0 : blocks.length ≠ 0) (hN : 700 < N) (hw : porterlaw43_works N = some true) (k1 : DskD → Option Bool)
    (h1 : ∀ d, Plain d → d.1 = blocks.map ofStr → k1 d = some true) : porterlaw43_EntryReads_p3 N blocks l (zeroD blocks.length) 0 (fun x41 => some x41) k1 = some true := by
  rw [porterlaw43_EntryReads_p3]
  refine iter_eq (fun v => ∃ (j : Nat) (d : DskD), v = (d, (j : Int)) ∧ j ≤ blocks.length ∧ Plain d ∧ d.1.length = blocks.length ∧ ∀ q, q < j → d.1.getD q [] = ofStr (blocks.getD q [])) (fun v => blocks.length - v.2.toNat) (fun _ => some true) ?_ N (zeroD blocks.length, 0) ⟨0, _, rfl, by omega, zero_plain _, by simp [zeroD], fun q h => by omega⟩ (by simp only; omega)
  rintro v r ⟨j, d, rfl, hj, hp, hl, hq⟩ hr
  rw [porterlaw43_EntryReads_s3]
  dsimp only
  by_cases hlt : j < blocks.length
  · rw [cond_t (decide_eq_true (by omega)), porterlaw43_EntryReads_p4, porterlaw43_EntryReads_p5, cond_t (inR_nat hlt), Int.toNat_natCast]
    by_cases h128 : (blocks.getD j []).length = 128
    · rw [show ((((List.length (blocks.getD j [])) : Nat) : Int) != (128 : Int)) = false by rw [h128]; rfl, cond_false, cond_t (inR_nat hlt)]
      obtain ⟨w1, w2, w3⟩ := plain_wr (d := d) (i := j) (s := blocks.getD j []) hp (by omega) h128
      rw [write_eq41 N (plain_keeps hp), Option.bind_some]
      dsimp only
      rw [w1, bne_self_eq_false, cond_false, wrap_succ (by omega)]
      refine hr _ ⟨j + 1, _, rfl, by omega, w2, by rw [w3, List.length_set]; exact hl, fun q h => ?_⟩ (by simp only; omega)
      rw [w3]
      by_cases e : q = j
      · subst e
        simp [List.getD, List.getElem?_set, show q < d.1.length by omega]
      · rw [← hq q (by omega)]
        simp [List.getD, List.getElem?_set, show ¬ j = q by omega]
    · rw [show ((((List.length (blocks.getD j [])) : Nat) : Int) != (128 : Int)) = true by rw [bne_iff_ne]; omega, cond_true, cond_true, cond_t (inR_nat hlt), cond_true, hw]; rfl
  · rw [cond_f (decide_eq_false (by omega))]
    refine h1 d hp ?_
    apply List.ext_getElem
    · rw [hl, List.length_map]
    · intro q a1 a2
      have := hq q (by omega)
      rw [List.getElem_map]
      simpa [List.getD, a1, show q < blocks.length by omega] using this

theorem map_back (blocks : List (List UInt8)) : (blocks.map ofStr).map toStr = blocks := by
  rw [List.map_map]
  conv => rhs; rw [← List.map_id blocks]
  exact List.map_congr_left fun b _ => toStr_ofStr b

theorem reads_of {N : Nat} {blocks : List (List UInt8)} {l : List Int} {d : DskD} {x : EnR} {z : RefR} (hl : l.length = 3) (hw : porterlaw43_works N = some true)
    (h1 : entry_Read N d (l.getD 0 0) (l.getD 1 0) (l.getD 2 0) = some (x, (d, ()))) (h2 : porterref43_Read N blocks (l.getD 0 0) (l.getD 1 0) (l.getD 2 0) = some z)
    (h3 : x.2.1 = decide (0 < z.2.2.1)) (h4 : x.1 = (z.1, (z.2.1, (z.2.2.1, ())))) :
    (cond (decide (0 < (List.length l)))
        (cond (decide (1 < (List.length l)))
          (cond (decide (2 < (List.length l)))
            ((entry_Read N d (List.getD l 0 (0 : Int)) (List.getD l 1 (0 : Int)) (List.getD l 2 (0 : Int))).bind fun y1 =>
              cond (decide (0 < (List.length l)))
              (cond (decide (1 < (List.length l)))
                (cond (decide (2 < (List.length l)))
                  ((porterref43_Read N blocks (List.getD l 0 (0 : Int)) (List.getD l 1 (0 : Int)) (List.getD l 2 (0 : Int))).bind fun y2 =>
                    cond (y1.1.2.1 == (decide ((0 : Int) < y2.2.2.1)))
                    (cond (eqD (T.pair (T.int Go.IntKind.i64) (T.pair T.str (T.pair (T.int Go.IntKind.i64) T.unit))) y1.1.1 (y2.1, (y2.2.1, (y2.2.2.1, ()))))
                      ((porterlaw43_works N).bind fun y3 =>
                        some y3)
                      (some false))
                    (some false))
                  (none))
                (none))
              (none))
            (none))
          (none))
        (none)) = some true := by
  have d0 : decide (0 < l.length) = true := decide_eq_true (by omega)
  have d1 : decide (1 < l.length) = true := decide_eq_true (by omega)
  have d2 : decide (2 < l.length) = true := decide_eq_true (by omega)
  rw [d0, d1, d2, cond_true, cond_true, cond_true, h1, Option.bind_some, cond_true, cond_true, cond_true, h2, Option.bind_some]
  dsimp only
  rw [h3, beq_self_eq_true, cond_true, h4, cond_t (eqD_self (by rfl) _), hw]
  rfl

theorem reads_law (k : Nat) (hk : 900 ≤ k) (hw : porterlaw43_works (k + 100) = some true) {blocks : List (List UInt8)} {l : List Int} (hl : l.length = 3) (hI : ∀ x ∈ l, I64 x) : porterlaw43_EntryReads (k + 100) blocks l = some true := by
  rw [porterlaw43_EntryReads, porterlaw43_EntryReads_p1, porterlaw43_EntryReads_p2]
  by_cases h1 : blocks.length < 1
  · rw [cond_t (decide_eq_true (by omega)), cond_true, hw]; rfl
  rw [cond_f (decide_eq_false (by omega))]
  by_cases h2 : 20 < blocks.length
  · rw [decide_eq_true (show (20 : Int) < ((blocks.length : Nat) : Int) by omega), cond_true, hw]; rfl
  rw [decide_eq_false (show ¬ (20 : Int) < ((blocks.length : Nat) : Int) by omega), cond_false, newN_eq (k + 100) (by omega), if_neg (by omega), Option.bind_some, Int.toNat_natCast]
  rw [show Option.isSome ((some (List.replicate blocks.length blk0, some [], false, 0, ()), 0, ()) : Option DskD × Int × Unit).1 = true from rfl, cond_true]
  rw [show Option.getD ((some (List.replicate blocks.length blk0, some [], false, 0, ()), 0, ()) : Option DskD × Int × Unit).1 (([] : List (List Int)), ((Option.none), (false, ((0 : Int), ())))) = zeroD blocks.length from rfl]
  refine fill43 (k + 100) (by omega) (by omega) (by omega) hw _ (fun d hp hd => ?_)
  have hJ : ∀ j, I64 (l.getD j 0) := fun j => by
    by_cases hj : j < l.length
    · exact hI _ (getD_mem l 0 j hj)
    · rw [show l.getD j 0 = 0 by simp [List.getD, List.getElem?_eq_none (show l.length ≤ j by omega)]]; unfold I64; omega
  have hdl : d.1.length = blocks.length := by rw [hd, List.length_map]
  have hB : d.1.map toStr = blocks := by rw [hd, map_back]
  have hr := eread_eq k (by omega) hp (by omega) (by omega) (hJ 0) (hJ 2) (g := l.getD 1 0)
  rw [hB] at hr
  by_cases hex : ∃ s0 kind t, ((s0 : Nat) : Int) = l.getD 0 0 + l.getD 2 0 ∧ 0 ≤ l.getD 0 0 ∧ t.length ≤ 30000 ∧ Fits (k + 100) blocks s0 (l.getD 1 0) (l.getD 2 0) kind t
  · obtain ⟨s0, kind, t, e1, e2, e3, e4⟩ := hex
    have hb := nb_bounds e4.1.1
    have hfit := e4.2.1
    have hq : readQ (k + 100) blocks (l.getD 0 0) (l.getD 1 0) (l.getD 2 0) = some (kind, t, nb t.length) := by
      rw [readQ, if_pos ⟨e2, e4.1.2.1, by omega⟩, show (l.getD 0 0 + l.getD 2 0).toNat = s0 by omega, readP_fits k (by omega) e3 e4]
    rw [hq] at hr
    have h2' := refRead_fits k (by omega) e3 e4 (by omega) e2 e1
    exact reads_of hl hw hr h2' (by simp only [resE]; exact (decide_eq_true (by omega)).symm) rfl
  · have hq : readQ (k + 100) blocks (l.getD 0 0) (l.getD 1 0) (l.getD 2 0) = none := by
      cases hq : readQ (k + 100) blocks (l.getD 0 0) (l.getD 1 0) (l.getD 2 0) with
      | none => rfl
      | some y =>
        obtain ⟨kind, t, n⟩ := y
        exfalso
        rw [readQ] at hq
        split at hq
        · rename_i hc
          obtain ⟨hF, _⟩ := readP_is k (by omega) (by omega) hq
          have hfit := hF.2.1
          refine hex ⟨_, kind, t, ?_, hc.1, ?_, hF⟩
          · have := hc.2.1.2.2; have := hc.1; omega
          · unfold nb at hfit; omega
        · cases hq
    rw [hq] at hr
    have h2' := refRead_none k (by omega) (B := blocks) (g := l.getD 1 0) (by omega) (hJ 0) (hJ 2) (fun s0 kind t a b c hF => hex ⟨s0, kind, t, a, b, c, hF⟩)
    exact reads_of hl hw hr h2' rfl rfl

end Go.Proofs.YtpmoinpamdbnhaaDoorLg

