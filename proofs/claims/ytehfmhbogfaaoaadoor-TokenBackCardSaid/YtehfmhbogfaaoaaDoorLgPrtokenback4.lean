import Derived.Test.YtehfmhbogfaaoaaDoorLgPrtokenback3
import Derived.Test.YtehfmhbogfaaoaaDoorLgPrtokenback1
import Derived.Lib.MapLaws
set_option linter.all false
set_option maxRecDepth 100000
namespace Go.Proofs.YtehfmhbogfaaoaaDoorLg
open Go Go.Lift Go.Proofs.YtehfmhbogfaaoaaDoorPx

def failR (s : List UInt8) (e f : Int) : List UInt8 × Int := if e ≠ 0 then (s, e) else ([], f)

theorem fail_eq (N : Nat) (s : List UInt8) (e : Int) {f : Int} (hf : f ≠ 0) : field_Reader_Fail N (rdr s e) f = some ((), (rdr (failR s e f).1 (failR s e f).2, ())) := by
  unfold failR
  by_cases he : e = 0
  · subst he
    rw [if_neg (by simp)]; exact fail_on N s hf
  · rw [if_pos he]; exact fail_off N s he f
theorem fail_inv {s : List UInt8} {e : Int} (h : Inv8 s e) (f : Int) : Inv8 (failR s e f).1 (failR s e f).2 := by
  unfold failR
  by_cases he : e = 0
  · subst he
    rw [if_neg (by simp)]; exact inv_bad f
  · rw [if_pos he]; exact h

def byteR (s : List UInt8) : Int × List UInt8 × Int := match s with
  | [] => (0, [], 1)
  | a :: l => ((a.toNat : Int), l, 0)

theorem byte_eq (N : Nat) {s : List UInt8} (hs : s.length ≤ 1000000) : field_Reader_Byte N (rdr s 0) = some ((byteR s).1, (rdr (byteR s).2.1 (byteR s).2.2, ())) := by
  cases s with
  | nil => rfl
  | cons a l => exact byte_one N a l hs
theorem byteR_inv {s : List UInt8} (hs : s.length ≤ 1000000) : Inv8 (byteR s).2.1 (byteR s).2.2 := by
  cases s with
  | nil => exact inv_bad 1
  | cons a l => exact ⟨by simp only [List.length_cons] at hs; simp only [byteR]; omega, fun h => absurd rfl h⟩

def endR (s : List UInt8) (e : Int) : Int := if s = [] then e else 2

theorem end_eq (N : Nat) {s : List UInt8} {e : Int} (h : Inv8 s e) : field_Reader_End N (rdr s e) = some (endR s e, (rdr [] (endR s e), ())) := by
  cases s with
  | nil =>
    rw [field_Reader_End, field_Reader_End_p1, show (rdr [] e).2.1 = [] from rfl, cond_f (by rfl), err_t]
    rfl
  | cons a l =>
    have he : e = 0 := Decidable.byContradiction fun he => by cases h.2 he
    subst he
    rw [field_Reader_End, field_Reader_End_p1, show (rdr (a :: l) 0).2.1 = a :: l from rfl, cond_t (decide_eq_true (by simp only [List.length_cons]; omega)), fail_on N _ (by decide)]
    rfl
theorem num_back {s s' : List UInt8} {e most v : Int} (h : numS s e most = (v, s', 0)) : e = 0 ∧ ∃ n : Nat, v = (n : Int) ∧ n < 18446744073709551616 ∧ (n : Int) ≤ most ∧ s = putL n ++ s' := by
  unfold numS at h
  split at h
  · rename_i he
    cases h
    exact absurd rfl he
  · rename_i he
    split at h
    · rename_i hf
      exact absurd (Prod.mk.inj (Prod.mk.inj h).2).2 hf
    · rename_i hf
      split at h
      · cases h
      · rename_i hm
        cases h
        have hf' : (takeL s).2.2 = 0 := by simpa using hf
        have := Go.Proofs.YtehfmhbogfaaoaaDoorPx.take_ok (s := s) (n := (takeL s).1) (k := (takeL s).2.1) (by rw [← hf'])
        exact ⟨by simpa using he, (takeL s).1, rfl, this.1, by omega, by rw [this.2.2.2, List.take_append_drop]⟩

theorem num_fwd {n : Nat} {s' : List UInt8} {most : Int} (hn : n < 18446744073709551616) (hm : (n : Int) ≤ most) : numS (putL n ++ s') 0 most = ((n : Int), s', 0) := by
  unfold numS
  rw [if_neg (by simp), take_put hn]
  simp only
  rw [if_neg (by simp), if_neg (by omega), List.drop_left]

end Go.Proofs.YtehfmhbogfaaoaaDoorLg

set_option linter.all false
set_option maxRecDepth 100000
namespace Go.Proofs.YtehfmhbogfaaoaaDoorLg
open Go Go.Lift Go.Proofs.YtehfmhbogfaaoaaDoorPx

abbrev LnkD := List UInt8 × (List UInt8 × Unit)
abbrev TokD := List UInt8 × (List LnkD × (List UInt8 × Unit))

def longL (l : LnkD) : Bool := if l.2.1 = [] then decide (2048 < l.1.length) else decide (4144 < l.1.length) || decide (4144 < l.2.1.length)
def putX (t : List UInt8) : List UInt8 := putL t.length ++ t
def encL (l : LnkD) : List UInt8 := if l.2.1 = [] then (0 : UInt8) :: putX l.1 else (1 : UInt8) :: (putX l.1 ++ putX l.2.1)
def encLs : List LnkD → List UInt8
  | [] => []
  | l :: ls => encL l ++ encLs ls
def encB (t : TokD) : List UInt8 := putX t.1 ++ (putL t.2.1.length ++ encLs t.2.1)
def badB (t : TokD) : Int := if 64 < t.2.1.length then 3 else if t.2.1.any longL then 3 else if 4144 < t.1.length then 3 else 0
def badT (t : TokD) : Int := if badB t ≠ 0 then badB t else if t.2.2.1.length ≠ 32 then 7 else 0
def putT (t : TokD) : List UInt8 × Int × Unit := if badT t ≠ 0 then ([], badT t, ()) else (encB t ++ t.2.2.1, 0, ())

noncomputable def vE (c : Int) : Value := if c = 0 then .nilIface else eV c

theorem vE_ifc (c : Int) : isIfc (vE c) = true := by unfold vE; split <;> rfl
theorem vE_nil (c : Int) : isNilV (vE c) = decide (c = 0) := by
  unfold vE
  by_cases h : c = 0
  · rw [if_pos h, decide_eq_true h]; rfl
  · rw [if_neg h, decide_eq_false h]; rfl
theorem vE_code (N : Nat) (c : Int) : token_codeOf N (vE c) = some c := by
  unfold vE
  by_cases h : c = 0
  · rw [if_pos h, h]; rfl
  · rw [if_neg h]; rfl

theorem within_eq (N : Nat) (s : List UInt8) (m : Int) : token_within N s m = some (vE (if m < (s.length : Int) then 3 else 0)) := by
  rw [token_within]
  by_cases h : m < (s.length : Int)
  · rw [cond_t (decide_eq_true h), if_pos h]; rfl
  · rw [cond_f (decide_eq_false h), if_neg h]; rfl

theorem checkLink_eq (N : Nat) (l : LnkD) : token_checkLink N l = some (vE (if longL l then 3 else 0)) := by
  rw [token_checkLink, within_eq, within_eq, within_eq]
  simp only [Option.bind_some, vE_ifc, vE_nil, cond_true]
  unfold longL
  by_cases h : l.2.1 = []
  · rw [cond_t (by rw [h]; rfl), if_pos h]
    by_cases h1 : 2048 < l.1.length
    · rw [if_pos (by omega), if_pos (decide_eq_true h1)]
    · rw [if_neg (by omega), if_neg (by simpa using h1)]
  · rw [cond_f (beq_eq_false_iff_ne.2 h), if_neg h]
    by_cases h1 : 4144 < l.1.length
    · rw [if_pos (by omega), cond_t (by rfl), if_pos (by simp [h1])]
    · rw [if_neg (by omega), cond_f (by rfl)]
      by_cases h2 : 4144 < l.2.1.length
      · rw [if_pos (by omega), if_pos (by simp [h2])]
      · rw [if_neg (by omega), if_neg (by simp [h1, h2])]

theorem check_loop (N : Nat) (t : TokD) (l : List LnkD) (hl : l.length < N) (hl' : l.length ≤ 1000000) (K : Option Value) :
    token_checkBody_p1 N t l ((l.length : Nat) : Int) 0 (fun x2 => some x2) K = cond (l.any longL) (some (vE 3)) K := by
  rw [token_checkBody_p1]
  refine (iter_eq (fun v => ∃ i : Nat, v = (i : Int) ∧ i ≤ l.length) (fun v => ((l.length : Int) - v).toNat) (fun v => cond ((l.drop v.toNat).any longL) (some (vE 3)) K) ?_ N 0 ⟨0, rfl, by omega⟩ (by omega)).trans (by rfl)
  rintro _ r ⟨i, rfl, hi⟩ hr
  simp only [Int.toNat_natCast]
  rw [token_checkBody_s1]
  by_cases hlt : i < l.length
  · rw [cond_t (decide_eq_true (by omega)), cond_t (inR_nat hlt), Int.toNat_natCast, drop_cons l (([] : List UInt8), (([] : List UInt8), ())) i hlt, checkLink_eq, Option.bind_some, vE_ifc, cond_true, vE_nil]
    generalize l.getD i (([] : List UInt8), (([] : List UInt8), ())) = v
    simp only [List.any_cons]
    cases hv : longL v with
    | true => rfl
    | false =>
      rw [wrap_succ (by omega), hr _ ⟨i + 1, rfl, by omega⟩ (by omega)]
      rfl
  · rw [cond_f (decide_eq_false (by omega)), drop_nil' l (by omega)]; rfl

theorem checkBody_eq (N : Nat) (hN : 100 < N) (t : TokD) : token_checkBody N t = some (vE (badB t)) := by
  rw [token_checkBody]
  unfold badB
  by_cases h : 64 < t.2.1.length
  · rw [cond_t (decide_eq_true (by omega)), if_pos h]; rfl
  · rw [cond_f (decide_eq_false (by omega)), if_neg h, check_loop N t _ (by omega) (by omega), within_eq, Option.bind_some]
    cases h1 : t.2.1.any longL with
    | true => rfl
    | false =>
      rw [cond_false, if_neg (show ¬ (false = true) by simp)]
      by_cases h2 : 4144 < t.1.length
      · rw [if_pos (by omega), if_pos h2]
      · rw [if_neg (by omega), if_neg h2]

theorem check_eq (N : Nat) (hN : 100 < N) (t : TokD) : token_check N t = some (vE (badT t)) := by
  rw [token_check, checkBody_eq N hN, Option.bind_some, vE_ifc, cond_true, vE_nil]
  unfold badT
  by_cases h : badB t = 0
  · rw [cond_f (by rw [h]; rfl), if_neg (by simpa using h)]
    by_cases h1 : t.2.2.1.length = 32
    · rw [cond_f (by rw [h1]; rfl), if_neg (by simpa using h1)]; rfl
    · rw [cond_t (by rw [bne_iff_ne]; omega), if_pos h1]; rfl
  · rw [cond_t (by rw [decide_eq_false h]; rfl), if_pos h]

def Sz (t : TokD) : Prop := t.1.length ≤ 6000 ∧ t.2.1.length ≤ 70 ∧ (∀ l ∈ t.2.1, l.1.length ≤ 6000 ∧ l.2.1.length ≤ 6000) ∧ t.2.2.1.length ≤ 6000

theorem putX_len (t : List UInt8) : (putX t).length ≤ 10 + t.length := by
  have := (putL_len t.length).2
  unfold putX; rw [List.length_append]; omega

theorem encL_len {l : LnkD} (h : l.1.length ≤ 6000 ∧ l.2.1.length ≤ 6000) : (encL l).length ≤ 12021 := by
  have h1 := putX_len l.1
  have h2 := putX_len l.2.1
  unfold encL
  split <;> simp only [List.length_cons, List.length_append] <;> omega

theorem w_byte (N : Nat) {o : List UInt8} (b : UInt8) (h : o.length + 1 ≤ 1000000) : strings_Builder_WriteByte N ((), (ofStr o, ())) ((b.toNat : Nat) : Int) = some (Go.Value.nilIface, (((), (ofStr (o ++ [b]), ())), ())) := by
  rw [strings_Builder_WriteByte]
  simp only [ofStr_length]
  rw [cond_t (decide_eq_true (by omega))]
  simp [ofStr]

theorem w_str (N : Nat) {o s : List UInt8} (h : o.length + s.length ≤ 1000000) : strings_Builder_WriteString N ((), (ofStr o, ())) s = some ((((s.length : Nat) : Int), (Go.Value.nilIface, ())), (((), (ofStr (o ++ s), ())), ())) := by
  rw [strings_Builder_WriteString]
  simp only [ofStr_length]
  rw [cond_t (decide_eq_true (by omega))]
  simp [ofStr]

theorem okB_str' (s : List UInt8) : okBytes (ofStr s) = true := by
  unfold okBytes ofStr
  rw [List.all_map, List.all_eq_true]
  intro b _
  have := b.toNat_lt
  simp only [Function.comp, Bool.and_eq_true, decide_eq_true_eq]
  omega

theorem body_loop (N : Nat) (hN : 100 < N) (l : List LnkD) (hl : l.length ≤ 70) (hz : ∀ x ∈ l, x.1.length ≤ 6000 ∧ x.2.1.length ≤ 6000) (out : List UInt8) (ho : out.length ≤ 7000) :
    token_body_p1 N ((), (ofStr out, ())) l ((l.length : Nat) : Int) 0 (fun out => (str_F (out, ())).bind fun y4 => some y4.1) = some (out ++ encLs l) := by
  rw [token_body_p1]
  refine (iter_eq (fun v => ∃ i : Nat, ∃ o : List UInt8, v.1 = ((), (ofStr o, ())) ∧ v.2 = (i : Int) ∧ i ≤ l.length ∧ o.length ≤ 7000 + 12100 * i) (fun v => ((l.length : Int) - v.2).toNat) (fun v => some (toStr v.1.2.1 ++ encLs (l.drop v.2.toNat))) ?_ N (((), (ofStr out, ())), 0) ⟨0, out, rfl, rfl, by omega, by simpa using ho⟩ (by simp only; omega)).trans (by simp only [toStr_ofStr]; rfl)
  rintro ⟨o, i⟩ r ⟨i, o, rfl, rfl, hi, hlen⟩ hr
  try simp only at hlen
  simp only [Int.toNat_natCast, toStr_ofStr]
  rw [token_body_s1]
  by_cases hlt : i < l.length
  · rw [cond_t (decide_eq_true (by omega)), cond_t (inR_nat hlt), Int.toNat_natCast, drop_cons l (([] : List UInt8), (([] : List UInt8), ())) i hlt]
    have hv : (l.getD i (([] : List UInt8), (([] : List UInt8), ()))).1.length ≤ 6000 ∧ (l.getD i (([] : List UInt8), (([] : List UInt8), ()))).2.1.length ≤ 6000 := hz _ (by
      rw [List.getD_eq_getElem?_getD, List.getElem?_eq_getElem hlt, Option.getD_some]; exact List.getElem_mem hlt)
    generalize l.getD i (([] : List UInt8), (([] : List UInt8), ())) = v at hv ⊢
    have h1 := putX_len v.1
    have h2 := putX_len v.2.1
    have b0 := w_byte N (o := o) 0 (by omega)
    have b1 := w_byte N (o := o) 1 (by omega)
    rw [show (((0 : UInt8).toNat : Nat) : Int) = 0 from rfl] at b0
    rw [show (((1 : UInt8).toNat : Nat) : Int) = 1 from rfl] at b1
    by_cases he : v.2.1 = []
    · rw [cond_t (by rw [he]; rfl), b0, Option.bind_some, ftext_eq N (by omega) (by omega), Option.bind_some]
      simp only
      rw [show putL v.1.length ++ v.1 = putX v.1 from rfl, w_str N (by simp only [List.length_append, List.length_cons, List.length_nil]; omega), Option.bind_some, wrap_succ (by omega)]
      simp only
      rw [hr _ ⟨i + 1, _, rfl, rfl, by omega, by simp only [List.length_append, List.length_cons, List.length_nil]; omega⟩ (by simp only; omega)]
      simp only [Int.toNat_natCast, toStr_ofStr, encLs, encL, if_pos he, List.append_assoc, List.cons_append, List.nil_append]
    · rw [cond_f (beq_eq_false_iff_ne.2 he), b1, Option.bind_some, ftext_eq N (by omega) (by omega), Option.bind_some]
      simp only
      rw [show putL v.1.length ++ v.1 = putX v.1 from rfl, w_str N (by simp only [List.length_append, List.length_cons, List.length_nil]; omega), Option.bind_some, ftext_eq N (by omega) (by omega), Option.bind_some]
      simp only
      rw [show putL v.2.1.length ++ v.2.1 = putX v.2.1 from rfl, w_str N (by simp only [List.length_append, List.length_cons, List.length_nil]; omega), Option.bind_some, wrap_succ (by omega)]
      simp only
      rw [hr _ ⟨i + 1, _, rfl, rfl, by omega, by simp only [List.length_append, List.length_cons, List.length_nil]; omega⟩ (by simp only; omega)]
      simp only [Int.toNat_natCast, toStr_ofStr, encLs, encL, if_neg he, List.append_assoc, List.cons_append, List.nil_append]
  · rw [cond_f (decide_eq_false (by omega)), drop_nil' l (by omega), encLs]
    simp only [str_F]
    rw [okB_str', Bool.true_and, cond_t (decide_eq_true (by rw [ofStr_length]; omega)), toStr_ofStr, List.append_nil]
    rfl

theorem body_eq (N : Nat) (hN : 100 < N) {t : TokD} (h : Sz t) : token_body N t = some (encB t) := by
  obtain ⟨h1, h2, h3, h4⟩ := h
  have hx := putX_len t.1
  have hp := putL_len t.2.1.length
  rw [token_body, ftext_eq N (by omega) (by omega), Option.bind_some]
  have hw := w_str N (o := []) (s := putX t.1) (by simp only [List.length_nil]; omega)
  rw [show (ofStr [] : List Int) = [] from rfl] at hw
  rw [show putL t.1.length ++ t.1 = putX t.1 from rfl, hw, Option.bind_some, wrap_u64_nat (by omega), fnum_eq N (by omega) (by omega), Option.bind_some]
  simp only
  rw [w_str N (by simp only [List.length_nil, List.nil_append]; omega), Option.bind_some]
  simp only
  rw [body_loop N hN _ h2 h3 _ (by simp only [List.length_append, List.length_nil]; omega)]
  simp only [encB, List.nil_append, List.append_assoc]

theorem encLs_len : ∀ {l : List LnkD}, (∀ x ∈ l, x.1.length ≤ 6000 ∧ x.2.1.length ≤ 6000) → (encLs l).length ≤ 12021 * l.length
  | [], _ => by simp [encLs]
  | x :: l, h => by
    have h1 := encL_len (h x (List.mem_cons_self ..))
    have h2 := encLs_len (l := l) (fun y hy => h y (List.mem_cons_of_mem _ hy))
    simp only [encLs, List.length_append, List.length_cons]; omega

theorem encB_len {t : TokD} (h : Sz t) : (encB t).length ≤ 900000 := by
  obtain ⟨h1, h2, h3, h4⟩ := h
  have hx := putX_len t.1
  have hp := putL_len t.2.1.length
  have hl := encLs_len h3
  unfold encB
  simp only [List.length_append]; omega

theorem tput_eq (N : Nat) (hN : 100 < N) {t : TokD} (h : Sz t) : token_Put N t = some (putT t) := by
  have hl := encB_len h
  have h4 := h.2.2.2
  rw [token_Put, check_eq N hN, Option.bind_some, vE_code, Option.bind_some]
  unfold putT
  by_cases hb : badT t = 0
  · rw [cond_f (by rw [hb]; rfl), if_neg (by simpa using hb), body_eq N hN h, Option.bind_some, cond_t (decide_eq_true (by omega))]
  · rw [cond_t (by rw [bne_iff_ne]; exact hb), if_pos hb]

theorem tsize_eq (N : Nat) (hN : 100 < N) {t : TokD} (h : Sz t) : token_Size N t = some (if badB t = 0 then (((encB t).length + 32 : Nat) : Int) else 0) := by
  have hl := encB_len h
  rw [token_Size, checkBody_eq N hN, Option.bind_some, vE_code, Option.bind_some]
  by_cases hb : badB t = 0
  · rw [cond_f (by rw [hb]; rfl), if_pos hb, body_eq N hN h, Option.bind_some, wrap_in (by unfold I64; omega)]
    rfl
  · rw [cond_t (by rw [bne_iff_ne]; exact hb), if_neg hb]


end Go.Proofs.YtehfmhbogfaaoaaDoorLg

set_option linter.all false
set_option maxRecDepth 100000
namespace Go.Proofs.YtehfmhbogfaaoaaDoorLg
open Go Go.Lift Go.Proofs.YtehfmhbogfaaoaaDoorPx

def byteS (s : List UInt8) (e : Int) : Int × List UInt8 × Int := if e ≠ 0 then (0, s, e) else byteR s

theorem byteS_eq (N : Nat) {s : List UInt8} {e : Int} (h : Inv8 s e) : field_Reader_Byte N (rdr s e) = some ((byteS s e).1, (rdr (byteS s e).2.1 (byteS s e).2.2, ())) := by
  unfold byteS
  by_cases he : e = 0
  · subst he; rw [if_neg (by simp)]; exact byte_eq N h.1
  · rw [if_pos he]; exact byte_bad N s he

theorem byteS_inv {s : List UInt8} {e : Int} (h : Inv8 s e) : Inv8 (byteS s e).2.1 (byteS s e).2.2 := by
  unfold byteS
  by_cases he : e = 0
  · subst he; rw [if_neg (by simp)]; exact byteR_inv h.1
  · rw [if_pos he]; exact h

def l0 (s : List UInt8) (e : Int) := textS (byteS s e).2.1 (byteS s e).2.2 2048
def l1 (s : List UInt8) (e : Int) := textS (byteS s e).2.1 (byteS s e).2.2 4144
def l2 (s : List UInt8) (e : Int) := textS (l1 s e).2.1 (l1 s e).2.2 4144

def linkS (s : List UInt8) (e : Int) : LnkD × (List UInt8 × Int) :=
 if (byteS s e).1 = 0 then (((l0 s e).1, ([], ())), (l0 s e).2)
 else if (byteS s e).1 = 1 then (((l1 s e).1, ((l2 s e).1, ())), if (l2 s e).1 = [] then failR (l2 s e).2.1 (l2 s e).2.2 2 else (l2 s e).2)
 else (([], ([], ())), failR (byteS s e).2.1 (byteS s e).2.2 2)

theorem link_inv {s : List UInt8} {e : Int} (h : Inv8 s e) : Inv8 (linkS s e).2.1 (linkS s e).2.2 := by
  have hb := byteS_inv h
  have h0 : Inv8 (l0 s e).2.1 (l0 s e).2.2 := text_inv hb
  have h1 : Inv8 (l1 s e).2.1 (l1 s e).2.2 := text_inv hb
  have h2 : Inv8 (l2 s e).2.1 (l2 s e).2.2 := text_inv h1
  unfold linkS
  split
  · exact h0
  · split
    · show Inv8 (if (l2 s e).1 = [] then failR (l2 s e).2.1 (l2 s e).2.2 2 else (l2 s e).2).1 (if (l2 s e).1 = [] then failR (l2 s e).2.1 (l2 s e).2.2 2 else (l2 s e).2).2
      split
      · exact fail_inv h2 2
      · exact h2
    · exact fail_inv hb 2

theorem getLink_eq (N : Nat) (hN : 20 < N) {s : List UInt8} {e : Int} (h : Inv8 s e) : token_getLink N (rdr s e) = some ((linkS s e).1, (rdr (linkS s e).2.1 (linkS s e).2.2, ())) := by
  have hb := byteS_inv h
  have h1 : Inv8 (l1 s e).2.1 (l1 s e).2.2 := text_inv hb
  have q0 : field_Reader_Text N (rdr (byteS s e).2.1 (byteS s e).2.2) 2048 = some ((l0 s e).1, (rdr (l0 s e).2.1 (l0 s e).2.2, ())) := text_eq N hN hb (by decide)
  have q1 : field_Reader_Text N (rdr (byteS s e).2.1 (byteS s e).2.2) 4144 = some ((l1 s e).1, (rdr (l1 s e).2.1 (l1 s e).2.2, ())) := text_eq N hN hb (by decide)
  have q2 : field_Reader_Text N (rdr (l1 s e).2.1 (l1 s e).2.2) 4144 = some ((l2 s e).1, (rdr (l2 s e).2.1 (l2 s e).2.2, ())) := text_eq N hN h1 (by decide)
  rw [token_getLink, byteS_eq N h, Option.bind_some]
  unfold linkS
  by_cases c0 : (byteS s e).1 = 0
  · rw [cond_t (beq_iff_eq.2 c0), if_pos c0, q0]; rfl
  · rw [cond_f (beq_eq_false_iff_ne.2 c0), if_neg c0]
    by_cases c1 : (byteS s e).1 = 1
    · rw [cond_t (beq_iff_eq.2 c1), if_pos c1, q1, Option.bind_some, q2, Option.bind_some]
      by_cases c2 : (l2 s e).1 = []
      · rw [cond_t (beq_iff_eq.2 c2), if_pos c2, fail_eq N _ _ (by decide)]; rfl
      · rw [cond_f (beq_eq_false_iff_ne.2 c2), if_neg c2]
    · rw [cond_f (beq_eq_false_iff_ne.2 c1), if_neg c1, fail_eq N _ _ (by decide)]; rfl

theorem failR_ne {s : List UInt8} {e f : Int} (hf : f ≠ 0) : (failR s e f).2 ≠ 0 := by
  unfold failR
  by_cases he : e = 0
  · rw [if_neg (by simpa using he)]; exact hf
  · rw [if_pos he]; exact he

def linksS : Nat → List UInt8 → Int → List LnkD → List LnkD × (List UInt8 × Int)
  | 0, s, e, acc => (acc, (s, e))
  | n + 1, s, e, acc => linksS n (linkS s e).2.1 (linkS s e).2.2 (acc ++ [(linkS s e).1])

theorem links_inv : ∀ (n : Nat) {s : List UInt8} {e : Int} (acc : List LnkD), Inv8 s e → Inv8 (linksS n s e acc).2.1 (linksS n s e acc).2.2
  | 0, _, _, _, h => h
  | n + 1, _, _, _, h => links_inv n _ (link_inv h)

theorem get_links (N : Nat) (hN : 100 < N) {s : List UInt8} {e : Int} (h : Inv8 s e) (n : Nat) (hn : n ≤ 64) (x2 : TokD) (id : List UInt8) (K : RdrT.den → TokD → Option (TokD × Int × Unit)) :
    token_Get_p1 N x2 (rdr s e) (id, ([], ([], ()))) (n : Int) 0 K = K (rdr (linksS n s e []).2.1 (linksS n s e []).2.2) (id, ((linksS n s e []).1, ([], ()))) := by
  rw [token_Get_p1]
  refine (iter_eq (fun v => ∃ i s e acc, v = (rdr s e, ((id, (acc, ([], ()))), ((i : Nat) : Int))) ∧ i ≤ n ∧ Inv8 s e ∧ acc.length = i) (fun v => ((n : Int) - v.2.2).toNat) (fun v => K (rdr (linksS (n - v.2.2.toNat) v.1.2.1 v.1.2.2.1 v.2.1.2.1).2.1 (linksS (n - v.2.2.toNat) v.1.2.1 v.1.2.2.1 v.2.1.2.1).2.2) (id, ((linksS (n - v.2.2.toNat) v.1.2.1 v.1.2.2.1 v.2.1.2.1).1, ([], ())))) ?_ N (rdr s e, ((id, ([], ([], ()))), 0)) ⟨0, s, e, [], rfl, by omega, h, rfl⟩ (by simp only; omega)).trans (by rfl)
  rintro _ r ⟨i, s, e, acc, rfl, hi, hinv, hacc⟩ hr
  simp only [Int.toNat_natCast]
  rw [token_Get_s1]
  by_cases hlt : i < n
  · rw [cond_t (decide_eq_true (by omega)), getLink_eq N (by omega) hinv, Option.bind_some]
    simp only
    rw [cond_t (decide_eq_true (by omega)), show (((i : Nat) : Int) + 1) = ((i + 1 : Nat) : Int) from rfl, wrap_u64_nat (by omega)]
    rw [hr _ ⟨i + 1, _, _, _, rfl, by omega, link_inv hinv, by simp [hacc]⟩ (by simp only; omega)]
    simp only [Int.toNat_natCast]
    rw [show n - i = (n - (i + 1)) + 1 by omega]
    rfl
  · rw [cond_f (decide_eq_false (by omega)), show n - i = 0 by omega]
    rfl

def tagS : Nat → Nat → List UInt8 → Int → List Int → List Int × (List UInt8 × Int)
  | 0, _, s, e, tag => (tag, (s, e))
  | k + 1, i, s, e, tag => tagS k (i + 1) (byteS s e).2.1 (byteS s e).2.2 (tag.set i (byteS s e).1)

theorem tag_off : ∀ (k i : Nat) {s : List UInt8} {e : Int} (tag : List Int), e ≠ 0 → (tagS k i s e tag).2 = (s, e)
  | 0, _, _, _, _, _ => rfl
  | k + 1, i, s, e, tag, h => by
    have hb : byteS s e = (0, s, e) := by unfold byteS; rw [if_pos h]
    rw [tagS, hb]
    exact tag_off k (i + 1) _ h

theorem tag_ok : ∀ (k i : Nat) (s : List UInt8) (tag : List Int), tag.length = i + k → k ≤ s.length → tagS k i s 0 tag = (tag.take i ++ ofStr (s.take k), (s.drop k, 0))
  | 0, i, s, tag, h, _ => by
    rw [tagS, List.take_of_length_le (by omega)]
    simp [ofStr]
  | k + 1, i, [], tag, h, hk => by simp at hk
  | k + 1, i, a :: s, tag, h, hk => by
    have hb : byteS (a :: s) 0 = ((a.toNat : Int), s, 0) := by unfold byteS; rw [if_neg (by simp)]; rfl
    simp only [List.length_cons] at hk
    rw [tagS, hb]
    simp only
    rw [tag_ok k (i + 1) s _ (by rw [List.length_set]; omega) (by omega), List.take_set, List.take_succ_cons, List.drop_succ_cons]
    have hi : i < tag.length := by omega
    congr 1
    have : (tag.take (i + 1)).set i (a.toNat : Int) = tag.take i ++ [(a.toNat : Int)] := by
      rw [List.take_succ, List.getElem?_eq_getElem hi, Option.toList_some, List.set_append_right _ _ (by rw [List.length_take]; omega), List.length_take, Nat.min_eq_left (by omega), Nat.sub_self]
      rfl
    rw [this, List.append_assoc]
    simp [ofStr]

theorem tag_short : ∀ (k i : Nat) (s : List UInt8) (tag : List Int), s.length < k → (tagS k i s 0 tag).2 = ([], 1)
  | 0, i, s, tag, h => by omega
  | k + 1, i, [], tag, _ => by
    have hb : byteS [] 0 = (0, [], 1) := by unfold byteS; rw [if_neg (by simp)]; rfl
    rw [tagS, hb]
    exact tag_off k (i + 1) _ (by decide)
  | k + 1, i, a :: s, tag, h => by
    have hb : byteS (a :: s) 0 = ((a.toNat : Int), s, 0) := by unfold byteS; rw [if_neg (by simp)]; rfl
    simp only [List.length_cons] at h
    rw [tagS, hb]
    exact tag_short k (i + 1) s _ (by omega)

theorem get_tag (N : Nat) (hN : 100 < N) {s : List UInt8} {e : Int} (h : Inv8 s e) (x2 t : TokD) (K : RdrT.den → List Int → Option (TokD × Int × Unit)) :
    token_Get_p2 N x2 (rdr s e) t (List.replicate 32 (0 : Int)) (((List.length (List.replicate 32 (0 : Int))) : Nat) : Int) 0 K = K (rdr (tagS 32 0 s e (List.replicate 32 0)).2.1 (tagS 32 0 s e (List.replicate 32 0)).2.2) (tagS 32 0 s e (List.replicate 32 0)).1 := by
  rw [token_Get_p2, show (((List.length (List.replicate 32 (0 : Int))) : Nat) : Int) = 32 from rfl]
  refine (iter_eq (fun v => ∃ i s e tag, v = (rdr s e, (tag, ((i : Nat) : Int))) ∧ i ≤ 32 ∧ Inv8 s e ∧ tag.length = 32) (fun v => ((32 : Int) - v.2.2).toNat) (fun v => K (rdr (tagS (32 - v.2.2.toNat) v.2.2.toNat v.1.2.1 v.1.2.2.1 v.2.1).2.1 (tagS (32 - v.2.2.toNat) v.2.2.toNat v.1.2.1 v.1.2.2.1 v.2.1).2.2) (tagS (32 - v.2.2.toNat) v.2.2.toNat v.1.2.1 v.1.2.2.1 v.2.1).1) ?_ N (rdr s e, (List.replicate 32 0, 0)) ⟨0, s, e, _, rfl, by omega, h, rfl⟩ (by simp only; omega)).trans (by rfl)
  rintro _ r ⟨i, s, e, tag, rfl, hi, hinv, htag⟩ hr
  simp only [Int.toNat_natCast]
  rw [token_Get_s2]
  by_cases hlt : i < 32
  · rw [cond_t (decide_eq_true (by omega)), byteS_eq N hinv, Option.bind_some, cond_t (inR_nat (by omega)), cond_t (decide_eq_true (by rw [Int.toNat_natCast]; omega)), wrap_succ (by omega)]
    simp only [Int.toNat_natCast]
    rw [hr _ ⟨i + 1, _, _, _, rfl, by omega, byteS_inv hinv, by rw [List.length_set]; exact htag⟩ (by simp only; omega)]
    simp only [Int.toNat_natCast]
    rw [show 32 - i = (32 - (i + 1)) + 1 by omega]
    rfl
  · rw [cond_f (decide_eq_false (by omega)), show 32 - i = 0 by omega]
    rfl

def zeroT : TokD := ([], ([], ([], ())))
def gi (s : List UInt8) := textS s 0 4144
def gn (s : List UInt8) := numS (gi s).2.1 (gi s).2.2 64
def gl (s : List UInt8) := linksS (gn s).1.toNat (gn s).2.1 (gn s).2.2 []

def getT (s : List UInt8) : TokD × Int × Unit :=
 if (gl s).2.2 ≠ 0 then (zeroT, (gl s).2.2, ())
 else if (gl s).2.1.length < 32 then (zeroT, 1, ())
 else if 32 < (gl s).2.1.length then (zeroT, 2, ())
 else (((gi s).1, ((gl s).1, ((gl s).2.1, ()))), 0, ())

theorem num_le {s : List UInt8} {e m : Int} (hm : 0 ≤ m) : (numS s e m).1 ≤ m := by
  unfold numS
  split
  · exact hm
  · split
    · exact hm
    · split
      · exact hm
      · rename_i h; simp only; omega

theorem g_invs {s : List UInt8} (hs : s.length ≤ 1000000) : Inv8 (gi s).2.1 (gi s).2.2 ∧ Inv8 (gn s).2.1 (gn s).2.2 ∧ Inv8 (gl s).2.1 (gl s).2.2 ∧ (∃ n : Nat, (gn s).1 = (n : Int) ∧ n ≤ 64) := by
  have h0 : Inv8 s 0 := ⟨hs, fun h => absurd rfl h⟩
  have h1 : Inv8 (gi s).2.1 (gi s).2.2 := text_inv h0
  have h2 : Inv8 (gn s).2.1 (gn s).2.2 := num_inv h1
  have h3 := num_pos (gi s).2.1 (gi s).2.2 64
  have h4 := num_le (s := (gi s).2.1) (e := (gi s).2.2) (m := 64) (by decide)
  exact ⟨h1, h2, links_inv _ _ h2, (gn s).1.toNat, by unfold gn; omega, by unfold gn; omega⟩

theorem tget_eq (N : Nat) (hN : 100 < N) {s : List UInt8} (hs : s.length ≤ 1000000) : token_Get N s = some (getT s) := by
  obtain ⟨i1, i2, i3, n, hn, hn'⟩ := g_invs hs
  have h0 : Inv8 s 0 := ⟨hs, fun h => absurd rfl h⟩
  have q1 : field_Reader_Text N (true, (s, ((0 : Int), ()))) 4144 = some ((gi s).1, (rdr (gi s).2.1 (gi s).2.2, ())) := text_eq N (by omega) h0 (by decide)
  have q2 : field_Reader_Num N (rdr (gi s).2.1 (gi s).2.2) 64 = some ((gn s).1, (rdr (gn s).2.1 (gn s).2.2, ())) := num_eq N (by omega) i1 64
  have hgl : linksS n (gn s).2.1 (gn s).2.2 [] = gl s := by unfold gl; rw [hn, Int.toNat_natCast]
  rw [token_Get, q1, Option.bind_some, q2, Option.bind_some]
  simp only
  rw [hn, get_links N hN i2 n hn', hgl, get_tag N hN i3]
  simp only
  unfold getT
  by_cases he : (gl s).2.2 = 0
  · rw [he] at i3 ⊢
    rw [if_neg (by simp)]
    by_cases hl : (gl s).2.1.length < 32
    · have ht := tag_short 32 0 (gl s).2.1 (List.replicate 32 0) hl
      rw [ht, if_pos hl, end_eq N (inv_bad 1), Option.bind_some]
      rfl
    · have ht := tag_ok 32 0 (gl s).2.1 (List.replicate 32 0) rfl (by omega)
      have hd : Inv8 ((gl s).2.1.drop 32) 0 := inv_drop i3.1 32
      rw [ht, if_neg hl, end_eq N hd, Option.bind_some]
      simp only
      unfold endR
      by_cases hm : 32 < (gl s).2.1.length
      · rw [if_neg (show (gl s).2.1.drop 32 ≠ [] from fun h => by have := congrArg List.length h; rw [List.length_drop] at this; simp at this; omega), if_pos hm]
        rfl
      · rw [if_pos (List.drop_of_length_le (by omega)), if_neg hm, List.take_zero, List.nil_append, toStr_ofStr, List.take_of_length_le (by omega)]
        rfl
  · have ht := tag_off 32 0 (s := (gl s).2.1) (List.replicate 32 0) he
    rw [ht, if_pos he, i3.2 he, end_eq N (inv_bad _), Option.bind_some]
    simp only [endR, if_true]
    rw [cond_t (bne_iff_ne.2 he)]
    rfl

end Go.Proofs.YtehfmhbogfaaoaaDoorLg

set_option linter.all false
set_option maxRecDepth 100000
namespace Go.Proofs.YtehfmhbogfaaoaaDoorLg
open Go Go.Lift Go.Proofs.YtehfmhbogfaaoaaDoorPx

theorem text_backM {s s' t : List UInt8} {e : Int} {m : Nat} (h : textS s e (m : Int) = (t, s', 0)) : e = 0 ∧ t.length ≤ m ∧ s = putL t.length ++ t ++ s' := by
  unfold textS textT at h
  rw [if_neg (show ¬ ((m : Nat) : Int) < 0 by omega)] at h
  obtain ⟨v, s1, f, hy⟩ : ∃ v s1 f, numS s e (m : Int) = (v, s1, f) := ⟨_, _, _, rfl⟩
  rw [hy] at h
  simp only at h
  by_cases hf : f = 0
  · subst hf
    rw [if_neg (by simp)] at h
    obtain ⟨he, n, rfl, _, hm, rfl⟩ := num_back hy
    by_cases hl : (s1.length : Int) < (n : Int)
    · rw [if_pos hl] at h
      cases h
    · rw [if_neg hl, Int.toNat_natCast] at h
      cases h
      have hn : (s1.take n).length = n := by rw [List.length_take]; omega
      exact ⟨he, by omega, by rw [hn, List.append_assoc, List.take_append_drop]⟩
  · rw [if_pos hf] at h
    cases h
    exact absurd rfl hf

theorem text_fwdM {t s' : List UInt8} {m : Nat} (hm : m < 1000000) (ht : t.length ≤ m) : textS (putL t.length ++ t ++ s') 0 (m : Int) = (t, s', 0) := by
  unfold textS textT
  rw [if_neg (show ¬ ((m : Nat) : Int) < 0 by omega), List.append_assoc, num_fwd (by omega) (by omega)]
  simp only
  rw [if_neg (by simp), if_neg (by simp only [List.length_append]; omega), Int.toNat_natCast, List.take_left, List.drop_left]


theorem textX_back {s s' t : List UInt8} {e : Int} {m : Nat} (h : textS s e (m : Int) = (t, s', 0)) : e = 0 ∧ t.length ≤ m ∧ s = putX t ++ s' := by
  obtain ⟨h1, h2, h3⟩ := text_backM h
  exact ⟨h1, h2, by rw [h3]; simp only [putX, List.append_assoc]⟩

theorem textX_fwd {t s' : List UInt8} {m : Nat} (hm : m < 1000000) (ht : t.length ≤ m) : textS (putX t ++ s') 0 (m : Int) = (t, s', 0) := by
  have := text_fwdM (s' := s') hm ht
  unfold putX
  exact this

theorem pair_eta {α β : Type} {p : α × β} {b : β} (h : p.2 = b) : p = (p.1, b) := by rw [← h]

theorem link_back {s s' : List UInt8} {e : Int} {l : LnkD} (h : linkS s e = (l, (s', 0))) : e = 0 ∧ longL l = false ∧ s = encL l ++ s' := by
  by_cases he : e = 0
  case neg =>
    have hb : byteS s e = (0, s, e) := by unfold byteS; rw [if_pos he]
    unfold linkS at h
    rw [if_pos (by rw [hb])] at h
    unfold l0 at h
    rw [hb] at h
    simp only at h
    rw [textS_bad s he] at h
    exact absurd (congrArg (fun x => x.2.2) h) he
  subst he
  refine ⟨rfl, ?_⟩
  cases s with
  | nil =>
    have hb : byteS [] 0 = (0, [], 1) := by unfold byteS; rw [if_neg (by simp)]; rfl
    unfold linkS at h
    rw [if_pos (by rw [hb])] at h
    unfold l0 at h
    rw [hb] at h
    simp only at h
    rw [textS_bad [] (by decide)] at h
    exact absurd (congrArg (fun x => x.2.2) h) (show ¬ ((1 : Int) = 0) by decide)
  | cons a r =>
    have hb : byteS (a :: r) 0 = ((a.toNat : Int), r, 0) := by unfold byteS; rw [if_neg (by simp)]; rfl
    have ea : ∀ k : Nat, k < 256 → (a.toNat : Int) = (k : Int) → a = UInt8.ofNat k := by
      intro k hk h
      apply UInt8.toNat_inj.1
      rw [UInt8.toNat_ofNat']; omega
    unfold linkS at h
    rw [hb] at h
    simp only at h
    by_cases c0 : (a.toNat : Int) = 0
    · rw [if_pos c0] at h
      have h1 : l = ((l0 (a :: r) 0).1, ([], ())) := (congrArg (·.1) h).symm
      have h2 : (l0 (a :: r) 0).2 = (s', 0) := congrArg (·.2) h
      have h3 : textS r 0 ((2048 : Nat) : Int) = ((l0 (a :: r) 0).1, (s', 0)) := by
        rw [← h2]; unfold l0; rw [hb]; rfl
      obtain ⟨_, hl, hs⟩ := textX_back h3
      subst h1
      refine ⟨?_, ?_⟩
      · unfold longL; rw [if_pos rfl]; exact decide_eq_false (by show ¬ 2048 < (l0 (a :: r) 0).1.length; omega)
      · unfold encL
        rw [if_pos rfl, List.cons_append, ← hs, ea 0 (by decide) c0]; rfl
    · rw [if_neg c0] at h
      by_cases c1 : (a.toNat : Int) = 1
      · rw [if_pos c1] at h
        have h1 : l = ((l1 (a :: r) 0).1, ((l2 (a :: r) 0).1, ())) := (congrArg (·.1) h).symm
        have h2 : (if (l2 (a :: r) 0).1 = [] then failR (l2 (a :: r) 0).2.1 (l2 (a :: r) 0).2.2 2 else (l2 (a :: r) 0).2) = (s', 0) := congrArg (·.2) h
        by_cases c2 : (l2 (a :: r) 0).1 = []
        · rw [if_pos c2] at h2
          exact absurd (congrArg (·.2) h2) (failR_ne (by decide))
        · rw [if_neg c2] at h2
          have h3 : textS (l1 (a :: r) 0).2.1 (l1 (a :: r) 0).2.2 ((4144 : Nat) : Int) = ((l2 (a :: r) 0).1, (s', 0)) := by
            rw [← h2]; unfold l2; rfl
          obtain ⟨g1, g2, g3⟩ := textX_back h3
          have h4 : textS r 0 ((4144 : Nat) : Int) = ((l1 (a :: r) 0).1, ((l1 (a :: r) 0).2.1, 0)) := by
            have : (l1 (a :: r) 0).2 = ((l1 (a :: r) 0).2.1, (0 : Int)) := pair_eta g1
            rw [← this]; unfold l1; rw [hb]; rfl
          obtain ⟨_, k2, k3⟩ := textX_back h4
          subst h1
          refine ⟨?_, ?_⟩
          · unfold longL
            rw [if_neg c2]
            show (decide (4144 < (l1 (a :: r) 0).1.length) || decide (4144 < (l2 (a :: r) 0).1.length)) = false
            rw [decide_eq_false (by omega), decide_eq_false (by omega)]; rfl
          · unfold encL
            rw [if_neg c2, List.cons_append, List.append_assoc, ← g3, ← k3, ea 1 (by decide) c1]; rfl
      · rw [if_neg c1] at h
        exact absurd (congrArg (fun x => x.2.2) h) (failR_ne (by decide))

theorem link_fwd {l : LnkD} (h : longL l = false) (s' : List UInt8) : linkS (encL l ++ s') 0 = (l, (s', 0)) := by
  obtain ⟨t, u, ⟨⟩⟩ := l
  unfold longL at h
  simp only at h
  unfold encL
  simp only
  by_cases hu : u = []
  · subst hu
    rw [if_pos rfl] at h
    have ht : t.length ≤ 2048 := by have := of_decide_eq_false h; omega
    rw [if_pos rfl]
    have hb : byteS ((0 : UInt8) :: putX t ++ s') 0 = (0, putX t ++ s', 0) := by unfold byteS; rw [if_neg (by simp)]; rfl
    have h0 : l0 ((0 : UInt8) :: putX t ++ s') 0 = (t, (s', 0)) := by unfold l0; rw [hb]; exact textX_fwd (m := 2048) (by decide) ht
    unfold linkS
    rw [if_pos (by rw [hb]), h0]
  · rw [if_neg hu] at h
    have ht : t.length ≤ 4144 ∧ u.length ≤ 4144 := by
      rw [Bool.or_eq_false_iff] at h
      have h1 := of_decide_eq_false h.1
      have h2 := of_decide_eq_false h.2
      omega
    rw [if_neg hu]
    have hb : byteS ((1 : UInt8) :: (putX t ++ putX u) ++ s') 0 = (1, putX t ++ (putX u ++ s'), 0) := by
      unfold byteS; rw [if_neg (by simp), List.cons_append, List.append_assoc]; rfl
    have h1 : l1 ((1 : UInt8) :: (putX t ++ putX u) ++ s') 0 = (t, (putX u ++ s', 0)) := by unfold l1; rw [hb]; exact textX_fwd (m := 4144) (by decide) ht.1
    have h2 : l2 ((1 : UInt8) :: (putX t ++ putX u) ++ s') 0 = (u, (s', 0)) := by unfold l2; rw [h1]; exact textX_fwd (m := 4144) (by decide) ht.2
    unfold linkS
    rw [if_neg (by rw [hb]; show ¬ ((1 : Int) = 0); decide), if_pos (by rw [hb]), h1, h2]
    simp only
    rw [if_neg hu]

theorem links_back : ∀ (n : Nat) {s s' : List UInt8} {e : Int} {acc ls : List LnkD}, linksS n s e acc = (ls, (s', 0)) → ∃ new, ls = acc ++ new ∧ new.length = n ∧ e = 0 ∧ s = encLs new ++ s' ∧ new.any longL = false
  | 0, s, s', e, acc, ls, h => by
    rw [linksS] at h
    cases h
    exact ⟨[], by simp, rfl, rfl, rfl, rfl⟩
  | n + 1, s, s', e, acc, ls, h => by
    rw [linksS] at h
    obtain ⟨new, h1, h2, h3, h4, h5⟩ := links_back n h
    have hk : linkS s e = ((linkS s e).1, ((linkS s e).2.1, 0)) := by
      have : (linkS s e).2 = ((linkS s e).2.1, (0 : Int)) := pair_eta h3
      rw [← this]
    obtain ⟨g1, g2, g3⟩ := link_back hk
    refine ⟨(linkS s e).1 :: new, by rw [h1, List.append_assoc]; rfl, by simp [h2], g1, ?_, by rw [List.any_cons, g2, h5]; rfl⟩
    rw [encLs, List.append_assoc, ← h4]; exact g3

theorem links_fwd : ∀ (new : List LnkD) {s' : List UInt8} {acc : List LnkD}, new.any longL = false → linksS new.length (encLs new ++ s') 0 acc = (acc ++ new, (s', 0))
  | [], s', acc, _ => by simp [linksS, encLs]
  | l :: new, s', acc, h => by
    rw [List.any_cons, Bool.or_eq_false_iff] at h
    rw [List.length_cons, linksS, encLs, List.append_assoc, link_fwd h.1]
    simp only
    rw [links_fwd new h.2, List.append_assoc]; rfl

theorem badT_zero {t : TokD} : badT t = 0 ↔ t.2.1.length ≤ 64 ∧ t.2.1.any longL = false ∧ t.1.length ≤ 4144 ∧ t.2.2.1.length = 32 := by
  unfold badT badB
  by_cases c1 : 64 < t.2.1.length
  · rw [if_pos c1]; simp; omega
  · rw [if_neg c1]
    by_cases c2 : t.2.1.any longL = true
    · rw [if_pos c2]; simp only [c2]; simp
    · rw [if_neg c2]
      have c2' : t.2.1.any longL = false := by simpa using c2
      by_cases c3 : 4144 < t.1.length
      · rw [if_pos c3]; simp; omega
      · rw [if_neg c3, if_neg (by simp)]
        by_cases c4 : t.2.2.1.length = 32
        · rw [if_neg (by simpa using c4)]
          exact ⟨fun _ => ⟨by omega, c2', by omega, c4⟩, fun _ => rfl⟩
        · rw [if_pos c4]
          exact ⟨fun h => absurd h (by decide), fun h => absurd h.2.2.2 c4⟩

theorem sz_of_good {t : TokD} (h : badT t = 0) : Sz t := by
  obtain ⟨h1, h2, h3, h4⟩ := badT_zero.1 h
  refine ⟨by omega, by omega, fun l hl => ?_, by omega⟩
  have := List.any_eq_false.1 h2 l hl
  unfold longL at this
  by_cases hu : l.2.1 = []
  · rw [if_pos hu] at this
    rw [hu]
    have := of_decide_eq_false (by simpa using this : decide (2048 < l.1.length) = false)
    simp only [List.length_nil]; omega
  · rw [if_neg hu, Bool.not_eq_true, Bool.or_eq_false_iff] at this
    have h1 := of_decide_eq_false this.1
    have h2 := of_decide_eq_false this.2
    omega

theorem getT_back {s : List UInt8} {t : TokD} (h : getT s = (t, 0, ())) : badT t = 0 ∧ s = encB t ++ t.2.2.1 := by
  unfold getT at h
  by_cases c1 : (gl s).2.2 = 0
  · rw [if_neg (by simpa using c1)] at h
    by_cases c2 : (gl s).2.1.length < 32
    · rw [if_pos c2] at h; exact absurd (congrArg (fun x => x.2.1) h) (by simp)
    · rw [if_neg c2] at h
      by_cases c3 : 32 < (gl s).2.1.length
      · rw [if_pos c3] at h; exact absurd (congrArg (fun x => x.2.1) h) (by simp)
      · rw [if_neg c3] at h
        have ht : t = ((gi s).1, ((gl s).1, ((gl s).2.1, ()))) := (congrArg (·.1) h).symm
        have hg : linksS (gn s).1.toNat (gn s).2.1 (gn s).2.2 [] = ((gl s).1, ((gl s).2.1, 0)) := by
          have : (gl s).2 = ((gl s).2.1, (0 : Int)) := pair_eta c1
          rw [← this]; rfl
        obtain ⟨new, h1, h2, h3, h4, h5⟩ := links_back _ hg
        rw [List.nil_append] at h1
        have hn : numS (gi s).2.1 (gi s).2.2 64 = ((gn s).1, ((gn s).2.1, 0)) := by
          have : (gn s).2 = ((gn s).2.1, (0 : Int)) := pair_eta h3
          rw [← this]; rfl
        obtain ⟨k1, n, k2, k3, k4, k5⟩ := num_back hn
        have hi : textS s 0 ((4144 : Nat) : Int) = ((gi s).1, ((gi s).2.1, 0)) := by
          have : (gi s).2 = ((gi s).2.1, (0 : Int)) := pair_eta k1
          rw [← this]; rfl
        obtain ⟨_, m1, m2⟩ := textX_back hi
        have hlen : new.length = n := by rw [h2, k2, Int.toNat_natCast]
        subst ht
        refine ⟨badT_zero.2 ⟨?_, ?_, m1, ?_⟩, ?_⟩
        · show (gl s).1.length ≤ 64
          rw [h1]; omega
        · show (gl s).1.any longL = false
          rw [h1]; exact h5
        · show (gl s).2.1.length = 32
          omega
        · show s = (putX (gi s).1 ++ (putL (gl s).1.length ++ encLs (gl s).1)) ++ (gl s).2.1
          rw [h1, hlen, List.append_assoc, List.append_assoc, ← h4, ← k5]
          exact m2
  · rw [if_pos c1] at h
    exact absurd (congrArg (fun x => x.2.1) h) c1

theorem getT_fwd {t : TokD} (h : badT t = 0) : getT (encB t ++ t.2.2.1) = (t, 0, ()) := by
  obtain ⟨h1, h2, h3, h4⟩ := badT_zero.1 h
  have e1 : gi (encB t ++ t.2.2.1) = (t.1, (putL t.2.1.length ++ (encLs t.2.1 ++ t.2.2.1), 0)) := by
    unfold gi encB
    rw [List.append_assoc, List.append_assoc]
    exact textX_fwd (m := 4144) (by decide) h3
  have e2 : gn (encB t ++ t.2.2.1) = (((t.2.1.length : Nat) : Int), (encLs t.2.1 ++ t.2.2.1, 0)) := by
    unfold gn
    rw [e1]
    exact num_fwd (by omega) (by omega)
  have e3 : gl (encB t ++ t.2.2.1) = (t.2.1, (t.2.2.1, 0)) := by
    unfold gl
    rw [e2]
    simp only [Int.toNat_natCast]
    rw [links_fwd _ h2, List.nil_append]
  unfold getT
  rw [e3, e1]
  simp only
  rw [if_neg (by simp), if_neg (by omega), if_neg (by omega)]

theorem getT_err {s : List UInt8} (h : (getT s).2.1 ≠ 0) : (getT s).1 = zeroT := by
  unfold getT at h ⊢
  split
  · rfl
  · split
    · rfl
    · split
      · rfl
      · rename_i h1 h2 h3
        rw [if_neg h1, if_neg h2, if_neg h3] at h
        exact absurd rfl h

def bigL (l : LnkD) : Bool := decide (4200 < l.1.length) || decide (4200 < l.2.1.length)
def sumW : Int → List LnkD → Bool
  | a, [] => decide (20000 < a)
  | a, l :: ls => sumW (Go.IntKind.wrap .i64 (Go.IntKind.wrap .i64 (a + ((l.1.length : Nat) : Int)) + ((l.2.1.length : Nat) : Int))) ls
def greatB (t : TokD) : Bool := decide (4200 < t.1.length) || (decide (100 < t.2.2.1.length) || (decide (70 < t.2.1.length) || (t.2.1.any bigL || sumW 0 t.2.1)))

theorem great_loop (N : Nat) (t : TokD) (hl : t.2.1.length < N) (hl' : t.2.1.length ≤ 1000000) :
    porterref30_Great_p3 N t 0 0 (fun x21 => some x21) (fun all => some (decide ((20000 : Int) < all))) = some (t.2.1.any bigL || sumW 0 t.2.1) := by
  rw [porterref30_Great_p3]
  refine (iter_eq (fun v => ∃ i : Nat, v.2 = (i : Int) ∧ i ≤ t.2.1.length) (fun v => ((t.2.1.length : Int) - v.2).toNat) (fun v => some ((t.2.1.drop v.2.toNat).any bigL || sumW v.1 (t.2.1.drop v.2.toNat))) ?_ N (0, 0) ⟨0, rfl, by omega⟩ (by simp only; omega)).trans (by rfl)
  rintro ⟨a, i⟩ r ⟨i, rfl, hi⟩ hr
  simp only [Int.toNat_natCast]
  rw [porterref30_Great_s3]
  by_cases hlt : i < t.2.1.length
  · rw [cond_t (decide_eq_true (by omega)), porterref30_Great_p4, porterref30_Great_p5, porterref30_Great_p6, cond_t (inR_nat hlt), cond_t (inR_nat hlt), cond_t (inR_nat hlt), cond_t (inR_nat hlt), Int.toNat_natCast, drop_cons t.2.1 (([] : List UInt8), (([] : List UInt8), ())) i hlt]
    generalize t.2.1.getD i (([] : List UInt8), (([] : List UInt8), ())) = v
    simp only [List.any_cons, bigL, sumW]
    by_cases c1 : 4200 < v.1.length
    · rw [cond_t (decide_eq_true (by omega)), decide_eq_true c1]; rfl
    · rw [cond_f (decide_eq_false (by omega)), decide_eq_false c1]
      by_cases c2 : 4200 < v.2.1.length
      · rw [cond_t (decide_eq_true (by omega)), decide_eq_true c2]; rfl
      · rw [cond_f (decide_eq_false (by omega)), decide_eq_false c2, wrap_succ (by omega)]
        rw [hr _ ⟨i + 1, rfl, by omega⟩ (by simp only; omega)]
        simp only [Int.toNat_natCast, Bool.false_or]
  · rw [cond_f (decide_eq_false (by omega)), drop_nil' t.2.1 (by omega)]; rfl

theorem great_eq (N : Nat) (hN : 100 < N) (t : TokD) : porterref30_Great N t = some (greatB t) := by
  rw [porterref30_Great, porterref30_Great_p1, porterref30_Great_p2]
  unfold greatB
  by_cases c1 : 4200 < t.1.length
  · rw [cond_t (decide_eq_true (by omega)), decide_eq_true c1]; rfl
  · rw [cond_f (decide_eq_false (by omega)), decide_eq_false c1, Bool.false_or]
    by_cases c2 : 100 < t.2.2.1.length
    · rw [cond_t (decide_eq_true (by omega)), decide_eq_true c2]; rfl
    · rw [cond_f (decide_eq_false (by omega)), decide_eq_false c2, Bool.false_or]
      by_cases c3 : 70 < t.2.1.length
      · rw [cond_t (decide_eq_true (by omega)), decide_eq_true c3]; rfl
      · rw [cond_f (decide_eq_false (by omega)), decide_eq_false c3, Bool.false_or, great_loop N t (by omega) (by omega)]

theorem sz_of_great {t : TokD} (h : greatB t = false) : Sz t := by
  unfold greatB at h
  simp only [Bool.or_eq_false_iff, decide_eq_false_iff_not] at h
  obtain ⟨h1, h2, h3, h4, _⟩ := h
  refine ⟨by omega, by omega, fun l hl => ?_, by omega⟩
  have := List.any_eq_false.1 h4 l hl
  rw [Bool.not_eq_true] at this
  simp only [bigL, Bool.or_eq_false_iff, decide_eq_false_iff_not] at this
  omega

theorem same_tok (N : Nat) (t : TokD) (hl : t.2.1.length < N) (hl' : t.2.1.length ≤ 1000000) : porterbase_SameToken N t t = some true := by
  rw [porterbase_SameToken, porterbase_SameToken_p1, porterbase_SameToken_p2, beq_self_eq_true, beq_self_eq_true, bne_self_eq_false, Bool.not_true, cond_false, cond_false, cond_false, porterbase_SameToken_p3]
  refine (iter_eq (fun v => ∃ i : Nat, v = (i : Int) ∧ i ≤ t.2.1.length) (fun v => ((t.2.1.length : Int) - v).toNat) (fun _ => some true) ?_ N 0 ⟨0, rfl, by omega⟩ (by omega))
  rintro _ r ⟨i, rfl, hi⟩ hr
  rw [porterbase_SameToken_s3]
  by_cases hlt : i < t.2.1.length
  · rw [cond_t (decide_eq_true (by omega)), cond_t (inR_nat hlt), cond_t (inR_nat hlt), eqD_self (t := T.pair T.str (T.pair T.str T.unit)) rfl, Bool.not_true, cond_false, wrap_succ (by omega)]
    exact hr _ ⟨i + 1, rfl, by omega⟩ (by omega)
  · rw [cond_f (decide_eq_false (by omega))]

end Go.Proofs.YtehfmhbogfaaoaaDoorLg

set_option linter.all false
set_option maxRecDepth 100000
namespace Go.Proofs.YtehfmhbogfaaoaaDoorLg
open Go Go.Lift Go.Proofs.YtehfmhbogfaaoaaDoorPx

theorem works30 (N : Nat) (hN : 100 < N) : porterlaw30_works N = some true := by
  rw [porterlaw30_works]
  have hz : Sz (([(97 : UInt8)] : List UInt8), (([] : List LnkD), (([48, 49, 50, 51, 52, 53, 54, 55, 56, 57, 97, 98, 99, 100, 101, 102, 48, 49, 50, 51, 52, 53, 54, 55, 56, 57, 97, 98, 99, 100, 101, 102] : List UInt8), ()))) := by
    exact ⟨by decide, by decide, (fun l h => by cases h), by decide⟩
  have hb : badT (([(97 : UInt8)] : List UInt8), (([] : List LnkD), (([48, 49, 50, 51, 52, 53, 54, 55, 56, 57, 97, 98, 99, 100, 101, 102, 48, 49, 50, 51, 52, 53, 54, 55, 56, 57, 97, 98, 99, 100, 101, 102] : List UInt8), ()))) = 0 := by decide
  have hp : putT (([(97 : UInt8)] : List UInt8), (([] : List LnkD), (([48, 49, 50, 51, 52, 53, 54, 55, 56, 57, 97, 98, 99, 100, 101, 102, 48, 49, 50, 51, 52, 53, 54, 55, 56, 57, 97, 98, 99, 100, 101, 102] : List UInt8), ()))) = ([1, 97, 0, 48, 49, 50, 51, 52, 53, 54, 55, 56, 57, 97, 98, 99, 100, 101, 102, 48, 49, 50, 51, 52, 53, 54, 55, 56, 57, 97, 98, 99, 100, 101, 102], 0, ()) := by kernel_rfl
  have hg : getT [1, 97, 0, 48, 49, 50, 51, 52, 53, 54, 55, 56, 57, 97, 98, 99, 100, 101, 102, 48, 49, 50, 51, 52, 53, 54, 55, 56, 57, 97, 98, 99, 100, 101, 102] = ((([(97 : UInt8)] : List UInt8), (([] : List LnkD), (([48, 49, 50, 51, 52, 53, 54, 55, 56, 57, 97, 98, 99, 100, 101, 102, 48, 49, 50, 51, 52, 53, 54, 55, 56, 57, 97, 98, 99, 100, 101, 102] : List UInt8), ()))), 0, ()) := by
    have := getT_fwd hb
    have e : encB (([(97 : UInt8)] : List UInt8), (([] : List LnkD), (([48, 49, 50, 51, 52, 53, 54, 55, 56, 57, 97, 98, 99, 100, 101, 102, 48, 49, 50, 51, 52, 53, 54, 55, 56, 57, 97, 98, 99, 100, 101, 102] : List UInt8), ()))) = [1, 97, 0] := by kernel_rfl
    rw [e] at this
    exact this
  rw [tput_eq N hN hz, hp, Option.bind_some, tget_eq N hN (by decide), hg, Option.bind_some, cond_t (by rfl), cond_t (by rfl), same_tok N _ (by simp only [List.length_nil]; omega) (by simp), Option.bind_some, cond_true, cond_t (by rfl), tsize_eq N hN hz, Option.bind_some]
  rw [if_pos (by decide)]
  rfl

theorem tokenBack_law (N : Nat) (hN : 100 < N) (t : TokD) (s : List UInt8) : porterlaw30_TokenBack N t s = some true := by
  rw [porterlaw30_TokenBack, porterlaw30_TokenBack_p1, porterlaw30_TokenBack_p2, works30 N hN, great_eq N hN, Option.bind_some]
  cases hgr : greatB t with
  | true => rfl
  | false =>
    have hz := sz_of_great hgr
    rw [cond_false]
    by_cases hs : 6000 < s.length
    · rw [cond_t (decide_eq_true (by omega))]; rfl
    · rw [cond_f (decide_eq_false (by omega)), tput_eq N hN hz, Option.bind_some, porterlaw30_TokenBack_p3]
      have rest : ((token_Get N s).bind fun y1 =>
          (token_Put N y1.1).bind fun y2 =>
          cond (y1.2.1 != (0 : Int))
          ((some true : Option Bool).bind fun y3 => some y3)
          (cond (y2.2.1 == (0 : Int))
            (cond (y2.1 == s)
              ((some true : Option Bool).bind fun y4 => some y4)
              (some false))
            (some false))) = some true := by
        rw [tget_eq N hN (by omega), Option.bind_some]
        by_cases he : (getT s).2.1 = 0
        · have hg : getT s = ((getT s).1, 0, ()) := by
            have : (getT s).2 = ((0 : Int), ()) := by rw [← he]
            rw [← this]
          obtain ⟨hb, hse⟩ := getT_back hg
          rw [tput_eq N hN (sz_of_good hb), Option.bind_some, cond_f (by rw [he]; rfl)]
          unfold putT
          rw [if_neg (by simpa using hb), cond_t (by rfl), cond_t (beq_iff_eq.2 hse.symm)]; rfl
        · rw [getT_err he, tput_eq N hN ⟨by decide, by decide, fun l h => (by cases h), by decide⟩, Option.bind_some, cond_t (bne_iff_ne.2 he)]; rfl
      unfold putT
      by_cases hb : badT t = 0
      · rw [if_neg (by simpa using hb), cond_t (by rfl), tget_eq N hN (by have := encB_len hz; have := hz.2.2.2; rw [List.length_append]; omega), getT_fwd hb, Option.bind_some, porterlaw30_TokenBack_p4, cond_f (by rfl), same_tok N t (by have := hz.2.1; omega) (by have := hz.2.1; omega), Option.bind_some, Bool.not_true, cond_false]
        exact rest
      · rw [if_pos hb, cond_f (beq_eq_false_iff_ne.2 hb)]
        exact rest

end Go.Proofs.YtehfmhbogfaaoaaDoorLg
