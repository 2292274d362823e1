/- Layer 39: what Put, Get, Batch and Read give, beside the document's. -/
import Derived.Test.YtdgmejgepcodnaaLgRdrG
set_option linter.all false
set_option maxRecDepth 100000
namespace Go.Proofs.YtdgmejgepcodnaaLg
open Go Go.Lift Go.Proofs.YtdgmejgepcodnaaPx

abbrev EvD : Type := Int × (List UInt8 × (Int × (Int × (List UInt8 × Unit))))

def inL (x low : Int) : Bool := decide (low ≤ x) && decide (x ≤ 1099511627776)

theorem within_eq (N : Nat) (n low : Int) : ring_within N n low = some (inL n low) := by
  rw [ring_within]
  unfold inL
  by_cases h : low ≤ n
  · rw [cond_t (decide_eq_true h), decide_eq_true h]; rfl
  · rw [cond_f (decide_eq_false h), decide_eq_false h]; rfl

theorem rin_eq (N : Nat) (n low : Int) : porterref38_in N n low = some (inL n low) := by
  rw [porterref38_in]
  unfold inL
  by_cases h : low ≤ n
  · rw [cond_t (decide_eq_true h), decide_eq_true h]; rfl
  · rw [cond_f (decide_eq_false h), decide_eq_false h]; rfl

/-- is an event of the form -/
def formL (v : EvD) : Bool :=
  if v.1 = 1 then (wordL v.2.1 && inL v.2.2.1 1) && (inL v.2.2.2.1 0 && decide (v.2.2.2.2.1 = []))
  else if v.1 = 2 then (wordL v.2.1 && inL v.2.2.1 1) && (decide (v.2.2.2.1 = 0) && decide (v.2.2.2.2.1.length = 32))
  else if v.1 = 3 then (wordL v.2.1 && inL v.2.2.1 1) && (decide (v.2.2.2.1 = 0) && decide (v.2.2.2.2.1 = []))
  else if v.1 = 4 then inL v.2.2.1 0 && (decide (v.2.1 = []) && (decide (v.2.2.2.1 = 0) && decide (v.2.2.2.2.1 = [])))
  else false

theorem beq_nil (z : List UInt8) : (z == []) = decide (z = []) := by
  cases z <;> rfl

theorem beq_int (a b : Int) : (a == b) = decide (a = b) := by
  by_cases h : a = b
  · rw [h, beq_self_eq_true, decide_eq_true rfl]
  · rw [beq_eq_false_iff_ne.2 h, decide_eq_false h]

theorem len_32 (z : List UInt8) : decide (((List.length z : Nat) : Int) = 32) = decide (z.length = 32) := by
  by_cases h : z.length = 32
  · rw [decide_eq_true h, decide_eq_true (by omega)]
  · rw [decide_eq_false h, decide_eq_false (by omega)]

theorem form_eq (N : Nat) (hN : 40 < N) (v : EvD) : ring_Form N v = some (formL v) := by
  obtain ⟨k, t, n, e, z, u⟩ := v
  cases u
  rw [ring_Form, ring_Form_p1, word_eq N hN]
  simp only [Option.bind_some, within_eq, formL, beq_nil, len_32, beq_int]
  by_cases h1 : k = 1
  · subst h1
    cases wordL t <;> cases inL n 1 <;> cases inL e 0 <;> simp
  · by_cases h2 : k = 2
    · subst h2
      cases wordL t <;> cases inL n 1 <;> by_cases he : e = 0 <;> simp [he]
    · by_cases h3 : k = 3
      · subst h3
        cases wordL t <;> cases inL n 1 <;> by_cases he : e = 0 <;> simp [he]
      · by_cases h4 : k = 4
        · subst h4
          cases wordL t <;> cases inL n 1 <;> cases inL n 0 <;> by_cases he : e = 0 <;> by_cases ht : t = [] <;> simp [he, ht]
        · cases wordL t <;> simp [h1, h2, h3, h4]

theorem in_pos {x : Int} (h : inL x 1 = true) : inL x 0 = true := by
  unfold inL at h ⊢
  have := Bool.and_eq_true _ _ ▸ h
  rw [decide_eq_true (by have := of_decide_eq_true this.1; omega), this.2]; rfl

theorem in_zero : inL 0 0 = true := by decide

theorem rform_eq (N : Nat) (hN : 40 < N) (v : EvD) : porterref38_Form N v = some (formL v) := by
  obtain ⟨k, t, n, e, z, u⟩ := v
  cases u
  rw [porterref38_Form, porterref38_Form_p1, porterref38_Form_p2, refWord_eq N hN]
  simp only [Option.bind_some, rin_eq, formL, beq_nil, beq_int, bne, len_32]
  by_cases h1 : k = 1
  · subst h1
    by_cases hz : z = [] <;> cases wordL t <;> cases inL n 1 <;> cases inL e 0 <;> simp [hz]
  · by_cases h2 : k = 2
    · subst h2
      by_cases hz : z.length = 32 <;> by_cases he : e = 0 <;> cases wordL t <;> cases inL n 1 <;> simp [hz, he, in_zero]
    · by_cases h3 : k = 3
      · subst h3
        by_cases hz : z = [] <;> by_cases he : e = 0 <;> cases wordL t <;> cases inL n 1 <;> simp [hz, he, in_zero]
      · by_cases h4 : k = 4
        · subst h4
          by_cases hz : z = [] <;> by_cases he : e = 0 <;> by_cases ht : t = [] <;> cases inL n 0 <;> simp [hz, he, ht]
        · have : k < 1 ∨ 4 < k := by omega
          rcases this with h | h
          · simp [h1, h2, h3, h4, h]
          · by_cases h' : k < 1 <;> simp [h1, h2, h3, h4, h, h']

structure FormR (v : EvD) : Prop where
  k : 1 ≤ v.1 ∧ v.1 ≤ 4
  t : v.2.1.length ≤ 32
  n : 0 ≤ v.2.2.1 ∧ v.2.2.1 ≤ 1099511627776
  e : 0 ≤ v.2.2.2.1 ∧ v.2.2.2.1 ≤ 1099511627776
  z : v.2.2.2.2.1.length ≤ 32

theorem in_of {x low : Int} (h : inL x low = true) : low ≤ x ∧ x ≤ 1099511627776 := by
  unfold inL at h
  have := Bool.and_eq_true _ _ ▸ h
  exact ⟨of_decide_eq_true this.1, of_decide_eq_true this.2⟩

theorem form_of {v : EvD} (h : formL v = true) : FormR v := by
  obtain ⟨k, t, n, e, z, u⟩ := v
  unfold formL at h
  simp only at h
  split at h
  · rename_i hk
    simp only [Bool.and_eq_true, decide_eq_true_eq] at h
    obtain ⟨⟨h1, h2⟩, h3, h4⟩ := h
    have := in_of h2; have := in_of h3; have := word_len h1
    exact ⟨by simp only; omega, this, by simp only; omega, by simp only; omega, by simp only [h4]; simp⟩
  · split at h
    · simp only [Bool.and_eq_true, decide_eq_true_eq] at h
      obtain ⟨⟨h1, h2⟩, h3, h4⟩ := h
      have := in_of h2; have := word_len h1
      exact ⟨by simp only; omega, this, by simp only; omega, by simp only; omega, by simp only; omega⟩
    · split at h
      · simp only [Bool.and_eq_true, decide_eq_true_eq] at h
        obtain ⟨⟨h1, h2⟩, h3, h4⟩ := h
        have := in_of h2; have := word_len h1
        exact ⟨by simp only; omega, this, by simp only; omega, by simp only; omega, by simp only [h4]; simp⟩
      · split at h
        · simp only [Bool.and_eq_true, decide_eq_true_eq] at h
          obtain ⟨h1, h2, h3, h4⟩ := h
          have := in_of h1
          exact ⟨by simp only; omega, by simp only [h2]; simp, by simp only; omega, by simp only; omega, by simp only [h4]; simp⟩
        · cases h

/-- an event's bytes -/
def encE (v : EvD) : List UInt8 :=
  [UInt8.ofNat v.1.toNat] ++ (putL v.2.1.length ++ v.2.1) ++ (putL v.2.2.2.1.toNat ++ putL v.2.2.1.toNat) ++ (putL v.2.2.2.2.1.length ++ v.2.2.2.2.1)

def putE (v : EvD) : List UInt8 × Int × Unit := cond (formL v) (encE v, 0, ()) ([], 2, ())

theorem enc_len {v : EvD} (h : FormR v) : 1 ≤ (encE v).length ∧ (encE v).length ≤ 105 := by
  have h1 := putL_len v.2.1.length
  have h2 := putL_len v.2.2.2.1.toNat
  have h3 := putL_len v.2.2.1.toNat
  have h4 := putL_len v.2.2.2.2.1.length
  have ht := h.t
  have hz := h.z
  unfold encE
  simp only [List.length_append, List.length_cons, List.length_nil]
  omega

theorem fnum_int (N : Nat) (hN : 20 < N) {n : Int} (h : 0 ≤ n ∧ n ≤ 1099511627776) : field_Num N n = some (putL n.toNat) := by
  have := fnum_eq N hN (n := n.toNat) (by omega)
  rw [show ((n.toNat : Nat) : Int) = n by omega] at this
  exact this

theorem put_eq' (N : Nat) (hN : 60 < N) (v : EvD) : record_Put N v = some (putE v) := by
  rw [record_Put, form_eq N (by omega)]
  simp only [Option.bind_some]
  unfold putE
  cases hf : formL v with
  | false => rfl
  | true =>
    have h := form_of hf
    have ht := h.t
    have hz := h.z
    rw [Bool.not_true, cond_false, cond_true, ftext_eq N (by omega) (by omega), fnum_int N (by omega) h.e, fnum_int N (by omega) h.n, ftext_eq N (by omega) (by omega)]
    simp only [Option.bind_some]
    have hl := enc_len h
    unfold encE at hl
    simp only [List.length_append, List.length_cons, List.length_nil] at hl
    have hk := h.k
    rw [cond_t (decide_eq_true ⟨⟨Int.le_trans (by decide) hk.1, Int.le_trans hk.2 (by decide)⟩, h.e, h.n, by simp only [List.length_append]; omega⟩)]
    rfl

theorem byte_str {k : Int} (h : 0 ≤ k ∧ k ≤ 255) : toStr ([(Go.IntKind.wrap Go.IntKind.u8 k)] : List Int) = [UInt8.ofNat k.toNat] := by
  rw [wrap_u8_in h.1 (by omega)]
  rfl

theorem rnum_int (N : Nat) (hN : 20 < N) {n : Int} (h : 0 ≤ n ∧ n ≤ 1099511627776) : porterref07_Put N (Go.IntKind.wrap .u64 n) = some (putL n.toNat) := by
  have e : n = ((n.toNat : Nat) : Int) := by omega
  rw [show Go.IntKind.wrap .u64 n = ((n.toNat : Nat) : Int) by rw [e, wrap_u64_nat (by omega)]; omega]
  exact refPutL N (by omega) (by omega)

theorem rput_eq (N : Nat) (hN : 60 < N) (v : EvD) : porterref39_Put N v = some (putE v) := by
  rw [porterref39_Put, rform_eq N (by omega)]
  simp only [Option.bind_some]
  unfold putE
  cases hf : formL v with
  | false => rfl
  | true =>
    have h := form_of hf
    have ht := h.t
    have hz := h.z
    have hk := h.k
    have hl := enc_len h
    unfold encE at hl
    simp only [List.length_append, List.length_cons, List.length_nil] at hl
    rw [Bool.not_true, cond_false, cond_true, byte_str (by omega), rtextp_eq N (by omega) (by omega), rnum_int N (by omega) h.e, rnum_int N (by omega) h.n, rtextp_eq N (by omega) (by omega)]
    simp only [Option.bind_some]
    rw [cond_t (decide_eq_true (by simp only [List.length_append, List.length_cons, List.length_nil]; omega)), cond_t (decide_eq_true (by simp only [List.length_append, List.length_cons, List.length_nil]; omega)),
      cond_t (decide_eq_true (by simp only [List.length_append, List.length_cons, List.length_nil]; omega)), cond_t (decide_eq_true (by simp only [List.length_append, List.length_cons, List.length_nil]; omega))]
    unfold encE
    simp only [List.append_assoc]

/-! Batch -/
theorem okB_str (s : List UInt8) : okBytes (ofStr s) = true := by
  unfold okBytes ofStr
  rw [List.all_map, List.all_eq_true]
  intro b _
  have := b.toNat_lt
  simp only [Function.comp, Bool.and_eq_true, decide_eq_true_eq]
  omega

def chunk (v : EvD) : List UInt8 := putL (encE v).length ++ encE v

def batR : List UInt8 → List EvD → List UInt8 × Int × Unit
  | out, [] => (out, 0, ())
  | out, v :: l => cond (formL v) (batR (out ++ chunk v) l) ([], 2, ())

theorem chunk_len {v : EvD} (h : FormR v) : (chunk v).length ≤ 115 := by
  have := enc_len h
  have := putL_len (encE v).length
  unfold chunk
  rw [List.length_append]; omega

theorem rbatch_loop (N : Nat) (hN : 60 < N) (l : List EvD) (hl : l.length ≤ 256) (h2 : 300 < N) (out : List UInt8) (ho : out.length ≤ 10) :
    porterref39_Batch_p1 N l out 0 (fun x2 x3 => some (x2, (x3, ()))) (fun out => some (out, ((0 : Int), ()))) = some (batR out l) := by
  rw [porterref39_Batch_p1]
  refine (iter_eq (fun v => ∃ i : Nat, v.2 = (i : Int) ∧ i ≤ l.length ∧ v.1.length ≤ 10 + 115 * i) (fun v => ((l.length : Int) - v.2).toNat) (fun v => some (batR v.1 (l.drop v.2.toNat))) ?_ N (out, 0) ⟨0, rfl, by omega, by simpa using ho⟩ (by simp only; omega)).trans (by rfl)
  rintro ⟨o, i⟩ r ⟨i, rfl, hi, hlen⟩ hr
  try simp only at hlen
  simp only [Int.toNat_natCast]
  rw [porterref39_Batch_s1]
  by_cases hlt : i < l.length
  · rw [cond_t (decide_eq_true (by omega)), cond_t (inR_nat hlt), rput_eq N hN, Option.bind_some, Int.toNat_natCast, drop_cons l ((0 : Int), (([] : List UInt8), ((0 : Int), ((0 : Int), (([] : List UInt8), ()))))) i hlt, batR]
    generalize l.getD i ((0 : Int), (([] : List UInt8), ((0 : Int), ((0 : Int), (([] : List UInt8), ()))))) = v
    unfold putE
    cases hf : formL v with
    | false => rfl
    | true =>
      have hF := form_of hf
      have hc := chunk_len hF
      have he := enc_len hF
      simp only [cond_true]
      rw [cond_f (by rfl), rtextp_eq N (by omega) (by omega), Option.bind_some]
      rw [cond_t (decide_eq_true (by unfold chunk at hc; omega)), wrap_succ (by omega)]
      rw [hr _ ⟨i + 1, rfl, by omega, by simp only [List.length_append]; unfold chunk at hc; simp only [List.length_append] at hc; omega⟩ (by simp only; omega)]
      simp only [Int.toNat_natCast]
      rfl
  · rw [cond_f (decide_eq_false (by omega)), drop_nil' l (by omega), batR]

theorem rbatch_eq (N : Nat) (hN : 300 < N) (l : List EvD) : porterref39_Batch N l = some (if 256 < l.length then ([], 3, ()) else batR (putL l.length) l) := by
  rw [porterref39_Batch]
  by_cases h : 256 < l.length
  · rw [cond_t (decide_eq_true (by omega)), if_pos h]
  · rw [cond_f (decide_eq_false (by omega)), if_neg h, wrap_u64_nat (by omega), refPutL N (by omega) (by omega), Option.bind_some]
    exact rbatch_loop N (by omega) l (by omega) hN _ (putL_len _).2

theorem write_eq (N : Nat) {o s : List UInt8} (h : o.length + s.length ≤ 1000000) : strings_Builder_WriteString N ((), (ofStr o, ())) s = some ((((s.length : Nat) : Int), (Go.Value.nilIface, ())), (((), (ofStr (o ++ s), ())), ())) := by
  rw [strings_Builder_WriteString]
  simp only [ofStr_length]
  rw [cond_t (decide_eq_true (by omega))]
  simp [ofStr]

theorem batch_loop (N : Nat) (hN : 300 < N) (l : List EvD) (hl : l.length ≤ 256) (out : List UInt8) (ho : out.length ≤ 10) :
    record_Batch_p1 N ((), (ofStr out, ())) l ((l.length : Nat) : Int) 0 (fun x2 x3 => some (x2, (x3, ()))) (fun out => (str_F (out, ())).bind fun y2 => some (y2.1, ((0 : Int), ()))) = some (batR out l) := by
  rw [record_Batch_p1]
  refine (iter_eq (fun v => ∃ i : Nat, ∃ o : List UInt8, v.1 = ((), (ofStr o, ())) ∧ v.2 = (i : Int) ∧ i ≤ l.length ∧ o.length ≤ 10 + 115 * i) (fun v => ((l.length : Int) - v.2).toNat) (fun v => some (batR (toStr v.1.2.1) (l.drop v.2.toNat))) ?_ N (((), (ofStr out, ())), 0) ⟨0, out, rfl, rfl, by omega, by simpa using ho⟩ (by simp only; omega)).trans (by simp only [toStr_ofStr]; rfl)
  rintro ⟨o, i⟩ r ⟨i, o, rfl, rfl, hi, hlen⟩ hr
  try simp only at hlen
  simp only [Int.toNat_natCast, toStr_ofStr]
  rw [record_Batch_s1]
  by_cases hlt : i < l.length
  · rw [cond_t (decide_eq_true (by omega)), cond_t (inR_nat hlt), put_eq' N (by omega), Option.bind_some, Int.toNat_natCast, drop_cons l ((0 : Int), (([] : List UInt8), ((0 : Int), ((0 : Int), (([] : List UInt8), ()))))) i hlt, batR]
    generalize l.getD i ((0 : Int), (([] : List UInt8), ((0 : Int), ((0 : Int), (([] : List UInt8), ()))))) = v
    unfold putE
    cases hf : formL v with
    | false => rfl
    | true =>
      have hF := form_of hf
      have hc := chunk_len hF
      have he := enc_len hF
      unfold chunk at hc
      simp only [cond_true]
      rw [cond_f (by rfl), ftext_eq N (by omega) (by omega), Option.bind_some, write_eq N (by omega), Option.bind_some, wrap_succ (by omega)]
      simp only [List.length_append] at hc
      rw [hr _ ⟨i + 1, _, rfl, rfl, by omega, by simp only [List.length_append]; omega⟩ (by simp only; omega)]
      simp only [Int.toNat_natCast, toStr_ofStr]
      rfl
  · rw [cond_f (decide_eq_false (by omega)), drop_nil' l (by omega), batR]
    simp only [str_F]
    rw [okB_str, Bool.true_and, cond_t (decide_eq_true (by rw [ofStr_length]; omega)), toStr_ofStr]
    rfl

theorem batch_eq (N : Nat) (hN : 300 < N) (l : List EvD) : record_Batch N l = some (if 256 < l.length then ([], 3, ()) else batR (putL l.length) l) := by
  rw [record_Batch]
  by_cases h : 256 < l.length
  · rw [cond_t (decide_eq_true (by omega)), if_pos h]
  · rw [cond_f (decide_eq_false (by omega)), if_neg h, wrap_u64_nat (by omega), fnum_eq N (by omega) (by omega), Option.bind_some]
    have hw := write_eq N (o := []) (s := putL l.length) (by have := putL_len l.length; simp only [List.length_nil]; omega)
    rw [show (ofStr [] : List Int) = [] from rfl] at hw
    rw [hw, Option.bind_some]
    exact batch_loop N hN l (by omega) _ (putL_len _).2

/-! sameness -/
theorem same_events (N : Nat) (l : List EvD) (hl : l.length < N) (hl' : l.length ≤ 1000000) : porterbase_SameEvents N l l = some true := by
  rw [porterbase_SameEvents, bne_self_eq_false, cond_false, porterbase_SameEvents_p1]
  refine (iter_eq (fun v => ∃ i : Nat, v = (i : Int) ∧ i ≤ l.length) (fun v => ((l.length : Int) - v).toNat) (fun _ => some true) ?_ N 0 ⟨0, rfl, by omega⟩ (by omega))
  rintro _ r ⟨i, rfl, hi⟩ hr
  rw [porterbase_SameEvents_s1]
  by_cases hlt : i < l.length
  · rw [cond_t (decide_eq_true (by omega)), cond_t (inR_nat hlt), cond_t (inR_nat hlt), eqD_self (by rfl), Bool.not_true, cond_false, wrap_succ (by omega)]
    exact hr _ ⟨i + 1, rfl, by omega⟩ (by omega)
  · rw [cond_f (decide_eq_false (by omega))]

end Go.Proofs.YtdgmejgepcodnaaLg
