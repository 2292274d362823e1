import Derived.Test.YtaackaafmidjkaaDoorLgPrBb5
import Derived.Test.YtaackaafmidjkaaDoorLgPrBb1
import Derived.Lib.MapLaws
set_option linter.all false
set_option maxRecDepth 100000
namespace Go.Proofs.YtaackaafmidjkaaDoorLg
noncomputable section
open Go Go.Lift Go.Proofs.YtaackaafmidjkaaDoorPx

def zla (s : List UInt8) (e f : Int) : List UInt8 × Int := if e ≠ 0 then (s, e) else ([], f)

theorem zwl (N : Nat) (s : List UInt8) (e : Int) {f : Int} (hf : f ≠ 0) : zk N (rdr s e) f = some ((), (rdr (zla s e f).1 (zla s e f).2, ())) := by
  unfold zla
  by_cases he : e = 0
  . subst he
    rw [if_neg (by simp)]; exact z133 N s hf
  . rw [if_pos he]; exact z15b N s he f
theorem zt5 {s : List UInt8} {e : Int} (h : z8e s e) (f : Int) : z8e (zla s e f).1 (zla s e f).2 := by
  unfold zla
  by_cases he : e = 0
  . subst he
    rw [if_neg (by simp)]; exact zjt f
  . rw [if_pos he]; exact h

def zwt (s : List UInt8) : Int × List UInt8 × Int := match s with
  | [] => (0, [], 1)
  | a :: l => ((a.toNat : Int), l, 0)

theorem z18a (N : Nat) {s : List UInt8} (hs : s.length <= 1000000) : z12 N (rdr s 0) = some ((zwt s).1, (rdr (zwt s).2.1 (zwt s).2.2, ())) := by
  cases s with
  | nil => rfl
  | cons a l => exact z15j N a l hs
theorem z13k {s : List UInt8} (hs : s.length <= 1000000) : z8e (zwt s).2.1 (zwt s).2.2 := by
  cases s with
  | nil => exact zjt 1
  | cons a l => exact ⟨by simp only [List.length_cons] at hs; simp only [zwt]; omega, fun h => absurd rfl h⟩

def z183 (s : List UInt8) (e : Int) : Int := if s = [] then e else 2

theorem zyn (N : Nat) {s : List UInt8} {e : Int} (h : z8e s e) : z2c N (rdr s e) = some (z183 s e, (rdr [] (z183 s e), ())) := by
  cases s with
  | nil =>
    rw [z2c, z3v, show (rdr [] e).2.1 = [] from rfl, z14 (by rfl), err_t]
    rfl
  | cons a l =>
    have he : e = 0 := Decidable.byContradiction fun he => by cases h.2 he
    subst he
    rw [z2c, z3v, show (rdr (a :: l) 0).2.1 = a :: l from rfl, zb (decide_eq_true (by simp only [List.length_cons]; omega)), z133 N _ (by decide)]
    rfl
theorem zss {s s' : List UInt8} {e most v : Int} (h : zil s e most = (v, s', 0)) : e = 0 /\ ∃ n : Nat, v = (n : Int) /\ n < 18446744073709551616 /\ (n : Int) <= most /\ s = z5p n ++ s' := by
  unfold zil at h
  split at h
  . rename_i he
    cases h
    exact absurd rfl he
  . rename_i he
    split at h
    . rename_i hf
      exact absurd (Prod.mk.inj (Prod.mk.inj h).2).2 hf
    . rename_i hf
      split at h
      . cases h
      . rename_i hm
        cases h
        have hf' : (z4v s).2.2 = 0 := by simpa using hf
        have := Go.Proofs.YtaackaafmidjkaaDoorPx.take_ok (s := s) (n := (z4v s).1) (k := (z4v s).2.1) (by rw [<- hf'])
        exact ⟨by simpa using he, (z4v s).1, rfl, this.1, by omega, by rw [this.2.2.2, List.take_append_drop]⟩

theorem zwa {n : Nat} {s' : List UInt8} {most : Int} (hn : n < 18446744073709551616) (hm : (n : Int) <= most) : zil (z5p n ++ s') 0 most = ((n : Int), s', 0) := by
  unfold zil
  rw [if_neg (by simp), z14e hn]
  simp only
  rw [if_neg (by simp), if_neg (by omega), List.drop_left]

end
end Go.Proofs.YtaackaafmidjkaaDoorLg

set_option linter.all false
set_option maxRecDepth 100000
namespace Go.Proofs.YtaackaafmidjkaaDoorLg
noncomputable section
open Go Go.Lift Go.Proofs.YtaackaafmidjkaaDoorPx

abbrev znz := List UInt8 × (List UInt8 × Unit)
abbrev z5l := List UInt8 × (List znz × (List UInt8 × Unit))

def zf0 (l : znz) : Bool := if l.2.1 = [] then decide (2048 < l.1.length) else decide (4144 < l.1.length) || decide (4144 < l.2.1.length)
def zjo (t : List UInt8) : List UInt8 := z5p t.length ++ t
def z145 (l : znz) : List UInt8 := if l.2.1 = [] then (0 : UInt8) :: zjo l.1 else (1 : UInt8) :: (zjo l.1 ++ zjo l.2.1)
def zft : List znz -> List UInt8
  | [] => []
  | l :: ls => z145 l ++ zft ls
def zq8 (t : z5l) : List UInt8 := zjo t.1 ++ (z5p t.2.1.length ++ zft t.2.1)
def zs1 (t : z5l) : Int := if 64 < t.2.1.length then 3 else if t.2.1.any zf0 then 3 else if 4144 < t.1.length then 3 else 0
def zea (t : z5l) : Int := if zs1 t ≠ 0 then zs1 t else if t.2.2.1.length ≠ 32 then 7 else 0
def putT (t : z5l) : List UInt8 × Int × Unit := if zea t ≠ 0 then ([], zea t, ()) else (zq8 t ++ t.2.2.1, 0, ())

def vE (c : Int) : Value := if c = 0 then .nilIface else eV c

theorem z10u (c : Int) : isIfc (vE c) = true := by unfold vE; split <;> rfl
theorem z10t (c : Int) : isNilV (vE c) = decide (c = 0) := by
  unfold vE
  by_cases h : c = 0
  . rw [if_pos h, decide_eq_true h]; rfl
  . rw [if_neg h, decide_eq_false h]; rfl
theorem z10v (N : Nat) (c : Int) : zbv N (vE c) = some c := by
  unfold vE
  by_cases h : c = 0
  . rw [if_pos h, h]; rfl
  . rw [if_neg h]; rfl

theorem zk8 (N : Nat) (s : List UInt8) (m : Int) : z3j N s m = some (vE (if m < (s.length : Int) then 3 else 0)) := by
  rw [z3j]
  by_cases h : m < (s.length : Int)
  . rw [zb (decide_eq_true h), if_pos h]; rfl
  . rw [z14 (decide_eq_false h), if_neg h]; rfl

theorem zvb (N : Nat) (l : znz) : z4j N l = some (vE (if zf0 l then 3 else 0)) := by
  rw [z4j, zk8, zk8, zk8]
  simp only [Option.bind_some, z10u, z10t, cond_true]
  unfold zf0
  by_cases h : l.2.1 = []
  . rw [zb (by rw [h]; rfl), if_pos h]
    by_cases h1 : 2048 < l.1.length
    . rw [if_pos (by omega), if_pos (decide_eq_true h1)]
    . rw [if_neg (by omega), if_neg (by simpa using h1)]
  . rw [z14 (beq_eq_false_iff_ne.2 h), if_neg h]
    by_cases h1 : 4144 < l.1.length
    . rw [if_pos (by omega), zb (by rfl), if_pos (by simp [h1])]
    . rw [if_neg (by omega), z14 (by rfl)]
      by_cases h2 : 4144 < l.2.1.length
      . rw [if_pos (by omega), if_pos (by simp [h2])]
      . rw [if_neg (by omega), if_neg (by simp [h1, h2])]

theorem z10f (N : Nat) (t : z5l) (l : List znz) (hl : l.length < N) (hl' : l.length <= 1000000) (K : Option Value) :
    z6x N t l ((l.length : Nat) : Int) 0 (fun x2 => some x2) K = cond (l.any zf0) (some (vE 3)) K := by
  rw [z6x]
  refine (z78 (fun v => ∃ i : Nat, v = (i : Int) /\ i <= l.length) (fun v => ((l.length : Int) - v).toNat) (fun v => cond ((l.drop v.toNat).any zf0) (some (vE 3)) K) ?_ N 0 ⟨0, rfl, by omega⟩ (by omega)).trans (by rfl)
  rintro _ r ⟨i, rfl, hi⟩ hr
  simp only [Int.toNat_natCast]
  rw [z6w]
  by_cases hlt : i < l.length
  . rw [zb (decide_eq_true (by omega)), zb (z3r hlt), Int.toNat_natCast, zpp l (([] : List UInt8), (([] : List UInt8), ())) i hlt, zvb, Option.bind_some, z10u, cond_true, z10t]
    generalize l.getD i (([] : List UInt8), (([] : List UInt8), ())) = v
    simp only [List.any_cons]
    cases hv : zf0 v with
    | true => rfl
    | false =>
      rw [z3y (by omega), hr _ ⟨i + 1, rfl, by omega⟩ (by omega)]
      rfl
  . rw [z14 (decide_eq_false (by omega)), zpo l (by omega)]; rfl

theorem zn9 (N : Nat) (hN : 100 < N) (t : z5l) : z35 N t = some (vE (zs1 t)) := by
  rw [z35]
  unfold zs1
  by_cases h : 64 < t.2.1.length
  . rw [zb (decide_eq_true (by omega)), if_pos h]; rfl
  . rw [z14 (decide_eq_false (by omega)), if_neg h, z10f N t _ (by omega) (by omega), zk8, Option.bind_some]
    cases h1 : t.2.1.any zf0 with
    | true => rfl
    | false =>
      rw [cond_false, if_neg (show ¬ (false = true) by simp)]
      by_cases h2 : 4144 < t.1.length
      . rw [if_pos (by omega), if_pos h2]
      . rw [if_neg (by omega), if_neg h2]

theorem z15g (N : Nat) (hN : 100 < N) (t : z5l) : zag N t = some (vE (zea t)) := by
  rw [zag, zn9 N hN, Option.bind_some, z10u, cond_true, z10t]
  unfold zea
  by_cases h : zs1 t = 0
  . rw [z14 (by rw [h]; rfl), if_neg (by simpa using h)]
    by_cases h1 : t.2.2.1.length = 32
    . rw [z14 (by rw [h1]; rfl), if_neg (by simpa using h1)]; rfl
    . rw [zb (by rw [bne_iff_ne]; omega), if_pos h1]; rfl
  . rw [zb (by rw [decide_eq_false h]; rfl), if_pos h]

def Sz (t : z5l) : Prop := t.1.length <= 6000 /\ t.2.1.length <= 70 /\ (∀ l ∈ t.2.1, l.1.length <= 6000 /\ l.2.1.length <= 6000) /\ t.2.2.1.length <= 6000

theorem zeo (t : List UInt8) : (zjo t).length <= 10 + t.length := by
  have := (z6y t.length).2
  unfold zjo; rw [List.length_append]; omega

theorem z15e {l : znz} (h : l.1.length <= 6000 /\ l.2.1.length <= 6000) : (z145 l).length <= 12021 := by
  have h1 := zeo l.1
  have h2 := zeo l.2.1
  unfold z145
  split <;> simp only [List.length_cons, List.length_append] <;> omega

theorem z164 (N : Nat) {o : List UInt8} (b : UInt8) (h : o.length + 1 <= 1000000) : z18 N ((), (ofStr o, ())) ((b.toNat : Nat) : Int) = some (Go.Value.nilIface, (((), (ofStr (o ++ [b]), ())), ())) := by
  rw [z18]
  simp only [zh6]
  rw [zb (decide_eq_true (by omega))]
  simp [ofStr]

theorem z10s (N : Nat) {o s : List UInt8} (h : o.length + s.length <= 1000000) : z9 N ((), (ofStr o, ())) s = some ((((s.length : Nat) : Int), (Go.Value.nilIface, ())), (((), (ofStr (o ++ s), ())), ())) := by
  rw [z9]
  simp only [zh6]
  rw [zb (decide_eq_true (by omega))]
  simp [ofStr]

theorem z14v (s : List UInt8) : zm3 (ofStr s) = true := by
  unfold zm3 ofStr
  rw [List.all_map, List.all_eq_true]
  intro b _
  have := b.toNat_lt
  simp only [Function.comp, Bool.and_eq_true, decide_eq_true_eq]
  omega

theorem z13o (N : Nat) (hN : 100 < N) (l : List znz) (hl : l.length <= 70) (hz : ∀ x ∈ l, x.1.length <= 6000 /\ x.2.1.length <= 6000) (out : List UInt8) (ho : out.length <= 7000) :
    zeh N ((), (ofStr out, ())) l ((l.length : Nat) : Int) 0 (fun out => (zvr (out, ())).bind fun y4 => some y4.1) = some (out ++ zft l) := by
  rw [zeh]
  refine (z78 (fun v => ∃ i : Nat, ∃ o : List UInt8, v.1 = ((), (ofStr o, ())) /\ v.2 = (i : Int) /\ i <= l.length /\ o.length <= 7000 + 12100 * i) (fun v => ((l.length : Int) - v.2).toNat) (fun v => some (toStr v.1.2.1 ++ zft (l.drop v.2.toNat))) ?_ N (((), (ofStr out, ())), 0) ⟨0, out, rfl, rfl, by omega, by simpa using ho⟩ (by simp only; omega)).trans (by simp only [z81]; rfl)
  rintro ⟨o, i⟩ r ⟨i, o, rfl, rfl, hi, hlen⟩ hr
  try simp only at hlen
  simp only [Int.toNat_natCast, z81]
  rw [zeg]
  by_cases hlt : i < l.length
  . rw [zb (decide_eq_true (by omega)), zb (z3r hlt), Int.toNat_natCast, zpp l (([] : List UInt8), (([] : List UInt8), ())) i hlt]
    have hv : (l.getD i (([] : List UInt8), (([] : List UInt8), ()))).1.length <= 6000 /\ (l.getD i (([] : List UInt8), (([] : List UInt8), ()))).2.1.length <= 6000 := hz _ (by
      rw [List.getD_eq_getElem?_getD, List.getElem?_eq_getElem hlt, Option.getD_some]; exact List.getElem_mem hlt)
    generalize l.getD i (([] : List UInt8), (([] : List UInt8), ())) = v at hv ⊢
    have h1 := zeo v.1
    have h2 := zeo v.2.1
    have b0 := z164 N (o := o) 0 (by omega)
    have b1 := z164 N (o := o) 1 (by omega)
    rw [show (((0 : UInt8).toNat : Nat) : Int) = 0 from rfl] at b0
    rw [show (((1 : UInt8).toNat : Nat) : Int) = 1 from rfl] at b1
    by_cases he : v.2.1 = []
    . rw [zb (by rw [he]; rfl), b0, Option.bind_some, zl5 N (by omega) (by omega), Option.bind_some]
      simp only
      rw [show z5p v.1.length ++ v.1 = zjo v.1 from rfl, z10s N (by simp only [List.length_append, List.length_cons, List.length_nil]; omega), Option.bind_some, z3y (by omega)]
      simp only
      rw [hr _ ⟨i + 1, _, rfl, rfl, by omega, by simp only [List.length_append, List.length_cons, List.length_nil]; omega⟩ (by simp only; omega)]
      simp only [Int.toNat_natCast, z81, zft, z145, if_pos he, List.append_assoc, List.cons_append, List.nil_append]
    . rw [z14 (beq_eq_false_iff_ne.2 he), b1, Option.bind_some, zl5 N (by omega) (by omega), Option.bind_some]
      simp only
      rw [show z5p v.1.length ++ v.1 = zjo v.1 from rfl, z10s N (by simp only [List.length_append, List.length_cons, List.length_nil]; omega), Option.bind_some, zl5 N (by omega) (by omega), Option.bind_some]
      simp only
      rw [show z5p v.2.1.length ++ v.2.1 = zjo v.2.1 from rfl, z10s N (by simp only [List.length_append, List.length_cons, List.length_nil]; omega), Option.bind_some, z3y (by omega)]
      simp only
      rw [hr _ ⟨i + 1, _, rfl, rfl, by omega, by simp only [List.length_append, List.length_cons, List.length_nil]; omega⟩ (by simp only; omega)]
      simp only [Int.toNat_natCast, z81, zft, z145, if_neg he, List.append_assoc, List.cons_append, List.nil_append]
  . rw [z14 (decide_eq_false (by omega)), zpo l (by omega), zft]
    simp only [zvr]
    rw [z14v, Bool.true_and, zb (decide_eq_true (by rw [zh6]; omega)), z81, List.append_nil]
    rfl

theorem z13p (N : Nat) (hN : 100 < N) {t : z5l} (h : Sz t) : za6 N t = some (zq8 t) := by
  obtain ⟨h1, h2, h3, h4⟩ := h
  have hx := zeo t.1
  have hp := z6y t.2.1.length
  rw [za6, zl5 N (by omega) (by omega), Option.bind_some]
  have hw := z10s N (o := []) (s := zjo t.1) (by simp only [List.length_nil]; omega)
  rw [show (ofStr [] : List Int) = [] from rfl] at hw
  rw [show z5p t.1.length ++ t.1 = zjo t.1 from rfl, hw, Option.bind_some, z2r (by omega), zt1 N (by omega) (by omega), Option.bind_some]
  simp only
  rw [z10s N (by simp only [List.length_nil, List.nil_append]; omega), Option.bind_some]
  simp only
  rw [z13o N hN _ h2 h3 _ (by simp only [List.length_append, List.length_nil]; omega)]
  simp only [zq8, List.nil_append, List.append_assoc]

theorem zv4 : ∀ {l : List znz}, (∀ x ∈ l, x.1.length <= 6000 /\ x.2.1.length <= 6000) -> (zft l).length <= 12021 * l.length
  | [], _ => by simp [zft]
  | x :: l, h => by
    have h1 := z15e (h x (List.mem_cons_self ..))
    have h2 := zv4 (l := l) (fun y hy => h y (List.mem_cons_of_mem _ hy))
    simp only [zft, List.length_append, List.length_cons]; omega

theorem zi1 {t : z5l} (h : Sz t) : (zq8 t).length <= 900000 := by
  obtain ⟨h1, h2, h3, h4⟩ := h
  have hx := zeo t.1
  have hp := z6y t.2.1.length
  have hl := zv4 h3
  unfold zq8
  simp only [List.length_append]; omega

theorem z17g (N : Nat) (hN : 100 < N) {t : z5l} (h : Sz t) : zd9 N t = some (putT t) := by
  have hl := zi1 h
  have h4 := h.2.2.2
  rw [zd9, z15g N hN, Option.bind_some, z10v, Option.bind_some]
  unfold putT
  by_cases hb : zea t = 0
  . rw [z14 (by rw [hb]; rfl), if_neg (by simpa using hb), z13p N hN h, Option.bind_some, zb (decide_eq_true (by omega))]
  . rw [zb (by rw [bne_iff_ne]; exact hb), if_pos hb]

theorem z14a (N : Nat) (hN : 100 < N) {t : z5l} (h : Sz t) : zd8 N t = some (if zs1 t = 0 then (((zq8 t).length + 32 : Nat) : Int) else 0) := by
  have hl := zi1 h
  rw [zd8, zn9 N hN, Option.bind_some, z10v, Option.bind_some]
  by_cases hb : zs1 t = 0
  . rw [z14 (by rw [hb]; rfl), if_pos hb, z13p N hN h, Option.bind_some, zfu (by unfold I64; omega)]
    rfl
  . rw [zb (by rw [bne_iff_ne]; exact hb), if_neg hb]


end
end Go.Proofs.YtaackaafmidjkaaDoorLg

set_option linter.all false
set_option maxRecDepth 100000
namespace Go.Proofs.YtaackaafmidjkaaDoorLg
noncomputable section
open Go Go.Lift Go.Proofs.YtaackaafmidjkaaDoorPx

def z32 (s : List UInt8) (e : Int) : Int × List UInt8 × Int := if e ≠ 0 then (0, s, e) else zwt s

theorem zys (N : Nat) {s : List UInt8} {e : Int} (h : z8e s e) : z12 N (rdr s e) = some ((z32 s e).1, (rdr (z32 s e).2.1 (z32 s e).2.2, ())) := by
  unfold z32
  by_cases he : e = 0
  . subst he; rw [if_neg (by simp)]; exact z18a N h.1
  . rw [if_pos he]; exact z15m N s he

theorem zpw {s : List UInt8} {e : Int} (h : z8e s e) : z8e (z32 s e).2.1 (z32 s e).2.2 := by
  unfold z32
  by_cases he : e = 0
  . subst he; rw [if_neg (by simp)]; exact z13k h.1
  . rw [if_pos he]; exact h

def l0 (s : List UInt8) (e : Int) := z4a (z32 s e).2.1 (z32 s e).2.2 2048
def l1 (s : List UInt8) (e : Int) := z4a (z32 s e).2.1 (z32 s e).2.2 4144
def l2 (s : List UInt8) (e : Int) := z4a (l1 s e).2.1 (l1 s e).2.2 4144

def zas (s : List UInt8) (e : Int) : znz × (List UInt8 × Int) :=
 if (z32 s e).1 = 0 then (((l0 s e).1, ([], ())), (l0 s e).2)
 else if (z32 s e).1 = 1 then (((l1 s e).1, ((l2 s e).1, ())), if (l2 s e).1 = [] then zla (l2 s e).2.1 (l2 s e).2.2 2 else (l2 s e).2)
 else (([], ([], ())), zla (z32 s e).2.1 (z32 s e).2.2 2)

theorem zyc {s : List UInt8} {e : Int} (h : z8e s e) : z8e (zas s e).2.1 (zas s e).2.2 := by
  have hb := zpw h
  have h0 : z8e (l0 s e).2.1 (l0 s e).2.2 := zhv hb
  have h1 : z8e (l1 s e).2.1 (l1 s e).2.2 := zhv hb
  have h2 : z8e (l2 s e).2.1 (l2 s e).2.2 := zhv h1
  unfold zas
  split
  . exact h0
  . split
    . show z8e (if (l2 s e).1 = [] then zla (l2 s e).2.1 (l2 s e).2.2 2 else (l2 s e).2).1 (if (l2 s e).1 = [] then zla (l2 s e).2.1 (l2 s e).2.2 2 else (l2 s e).2).2
      split
      . exact zt5 h2 2
      . exact h2
    . exact zt5 hb 2

theorem z106 (N : Nat) (hN : 20 < N) {s : List UInt8} {e : Int} (h : z8e s e) : z6v N (rdr s e) = some ((zas s e).1, (rdr (zas s e).2.1 (zas s e).2.2, ())) := by
  have hb := zpw h
  have h1 : z8e (l1 s e).2.1 (l1 s e).2.2 := zhv hb
  have q0 : zn N (rdr (z32 s e).2.1 (z32 s e).2.2) 2048 = some ((l0 s e).1, (rdr (l0 s e).2.1 (l0 s e).2.2, ())) := zoh N hN hb (by decide)
  have q1 : zn N (rdr (z32 s e).2.1 (z32 s e).2.2) 4144 = some ((l1 s e).1, (rdr (l1 s e).2.1 (l1 s e).2.2, ())) := zoh N hN hb (by decide)
  have q2 : zn N (rdr (l1 s e).2.1 (l1 s e).2.2) 4144 = some ((l2 s e).1, (rdr (l2 s e).2.1 (l2 s e).2.2, ())) := zoh N hN h1 (by decide)
  rw [z6v, zys N h, Option.bind_some]
  unfold zas
  by_cases c0 : (z32 s e).1 = 0
  . rw [zb (beq_iff_eq.2 c0), if_pos c0, q0]; rfl
  . rw [z14 (beq_eq_false_iff_ne.2 c0), if_neg c0]
    by_cases c1 : (z32 s e).1 = 1
    . rw [zb (beq_iff_eq.2 c1), if_pos c1, q1, Option.bind_some, q2, Option.bind_some]
      by_cases c2 : (l2 s e).1 = []
      . rw [zb (beq_iff_eq.2 c2), if_pos c2, zwl N _ _ (by decide)]; rfl
      . rw [z14 (beq_eq_false_iff_ne.2 c2), if_neg c2]
    . rw [z14 (beq_eq_false_iff_ne.2 c1), if_neg c1, zwl N _ _ (by decide)]; rfl

theorem zt6 {s : List UInt8} {e f : Int} (hf : f ≠ 0) : (zla s e f).2 ≠ 0 := by
  unfold zla
  by_cases he : e = 0
  . rw [if_neg (by simpa using he)]; exact hf
  . rw [if_pos he]; exact he

def z7v : Nat -> List UInt8 -> Int -> List znz -> List znz × (List UInt8 × Int)
  | 0, s, e, acc => (acc, (s, e))
  | n + 1, s, e, acc => z7v n (zas s e).2.1 (zas s e).2.2 (acc ++ [(zas s e).1])

theorem zuo : ∀ (n : Nat) {s : List UInt8} {e : Int} (acc : List znz), z8e s e -> z8e (z7v n s e acc).2.1 (z7v n s e acc).2.2
  | 0, _, _, _, h => h
  | n + 1, _, _, _, h => zuo n _ (zyc h)

theorem z12r (N : Nat) (hN : 100 < N) {s : List UInt8} {e : Int} (h : z8e s e) (n : Nat) (hn : n <= 64) (x2 : z5l) (id : List UInt8) (K : RdrT.den -> z5l -> Option (z5l × Int × Unit)) :
    zgg N x2 (rdr s e) (id, ([], ([], ()))) (n : Int) 0 K = K (rdr (z7v n s e []).2.1 (z7v n s e []).2.2) (id, ((z7v n s e []).1, ([], ()))) := by
  rw [zgg]
  refine (z78 (fun v => ∃ i s e acc, v = (rdr s e, ((id, (acc, ([], ()))), ((i : Nat) : Int))) /\ i <= n /\ z8e s e /\ acc.length = i) (fun v => ((n : Int) - v.2.2).toNat) (fun v => K (rdr (z7v (n - v.2.2.toNat) v.1.2.1 v.1.2.2.1 v.2.1.2.1).2.1 (z7v (n - v.2.2.toNat) v.1.2.1 v.1.2.2.1 v.2.1.2.1).2.2) (id, ((z7v (n - v.2.2.toNat) v.1.2.1 v.1.2.2.1 v.2.1.2.1).1, ([], ())))) ?_ N (rdr s e, ((id, ([], ([], ()))), 0)) ⟨0, s, e, [], rfl, by omega, h, rfl⟩ (by simp only; omega)).trans (by rfl)
  rintro _ r ⟨i, s, e, acc, rfl, hi, hinv, hacc⟩ hr
  simp only [Int.toNat_natCast]
  rw [zge]
  by_cases hlt : i < n
  . rw [zb (decide_eq_true (by omega)), z106 N (by omega) hinv, Option.bind_some]
    simp only
    rw [zb (decide_eq_true (by omega)), show (((i : Nat) : Int) + 1) = ((i + 1 : Nat) : Int) from rfl, z2r (by omega)]
    rw [hr _ ⟨i + 1, _, _, _, rfl, by omega, zyc hinv, by simp [hacc]⟩ (by simp only; omega)]
    simp only [Int.toNat_natCast]
    rw [show n - i = (n - (i + 1)) + 1 by omega]
    rfl
  . rw [z14 (decide_eq_false (by omega)), show n - i = 0 by omega]
    rfl

def zvp : Nat -> Nat -> List UInt8 -> Int -> List Int -> List Int × (List UInt8 × Int)
  | 0, _, s, e, tag => (tag, (s, e))
  | k + 1, i, s, e, tag => zvp k (i + 1) (z32 s e).2.1 (z32 s e).2.2 (tag.set i (z32 s e).1)

theorem zvo : ∀ (k i : Nat) {s : List UInt8} {e : Int} (tag : List Int), e ≠ 0 -> (zvp k i s e tag).2 = (s, e)
  | 0, _, _, _, _, _ => rfl
  | k + 1, i, s, e, tag, h => by
    have hb : z32 s e = (0, s, e) := by unfold z32; rw [if_pos h]
    rw [zvp, hb]
    exact zvo k (i + 1) _ h

theorem z165 : ∀ (k i : Nat) (s : List UInt8) (tag : List Int), tag.length = i + k -> k <= s.length -> zvp k i s 0 tag = (tag.take i ++ ofStr (s.take k), (s.drop k, 0))
  | 0, i, s, tag, h, _ => by
    rw [zvp, List.take_of_length_le (by omega)]
    simp [ofStr]
  | k + 1, i, [], tag, h, hk => by simp at hk
  | k + 1, i, a :: s, tag, h, hk => by
    have hb : z32 (a :: s) 0 = ((a.toNat : Int), s, 0) := by unfold z32; rw [if_neg (by simp)]; rfl
    simp only [List.length_cons] at hk
    rw [zvp, hb]
    simp only
    rw [z165 k (i + 1) s _ (by rw [List.length_set]; omega) (by omega), List.take_set, List.take_succ_cons, List.drop_succ_cons]
    have hi : i < tag.length := by omega
    congr 1
    have : (tag.take (i + 1)).set i (a.toNat : Int) = tag.take i ++ [(a.toNat : Int)] := by
      rw [List.take_succ, List.getElem?_eq_getElem hi, Option.toList_some, List.set_append_right _ _ (by rw [List.length_take]; omega), List.length_take, Nat.min_eq_left (by omega), Nat.sub_self]
      rfl
    rw [this, List.append_assoc]
    simp [ofStr]

theorem zty : ∀ (k i : Nat) (s : List UInt8) (tag : List Int), s.length < k -> (zvp k i s 0 tag).2 = ([], 1)
  | 0, i, s, tag, h => by omega
  | k + 1, i, [], tag, _ => by
    have hb : z32 [] 0 = (0, [], 1) := by unfold z32; rw [if_neg (by simp)]; rfl
    rw [zvp, hb]
    exact zvo k (i + 1) _ (by decide)
  | k + 1, i, a :: s, tag, h => by
    have hb : z32 (a :: s) 0 = ((a.toNat : Int), s, 0) := by unfold z32; rw [if_neg (by simp)]; rfl
    simp only [List.length_cons] at h
    rw [zvp, hb]
    exact zty k (i + 1) s _ (by omega)

theorem z180 (N : Nat) (hN : 100 < N) {s : List UInt8} {e : Int} (h : z8e s e) (x2 t : z5l) (K : RdrT.den -> List Int -> Option (z5l × Int × Unit)) :
    zgf N x2 (rdr s e) t (List.replicate 32 (0 : Int)) (((List.length (List.replicate 32 (0 : Int))) : Nat) : Int) 0 K = K (rdr (zvp 32 0 s e (List.replicate 32 0)).2.1 (zvp 32 0 s e (List.replicate 32 0)).2.2) (zvp 32 0 s e (List.replicate 32 0)).1 := by
  rw [zgf, show (((List.length (List.replicate 32 (0 : Int))) : Nat) : Int) = 32 from rfl]
  refine (z78 (fun v => ∃ i s e tag, v = (rdr s e, (tag, ((i : Nat) : Int))) /\ i <= 32 /\ z8e s e /\ tag.length = 32) (fun v => ((32 : Int) - v.2.2).toNat) (fun v => K (rdr (zvp (32 - v.2.2.toNat) v.2.2.toNat v.1.2.1 v.1.2.2.1 v.2.1).2.1 (zvp (32 - v.2.2.toNat) v.2.2.toNat v.1.2.1 v.1.2.2.1 v.2.1).2.2) (zvp (32 - v.2.2.toNat) v.2.2.toNat v.1.2.1 v.1.2.2.1 v.2.1).1) ?_ N (rdr s e, (List.replicate 32 0, 0)) ⟨0, s, e, _, rfl, by omega, h, rfl⟩ (by simp only; omega)).trans (by rfl)
  rintro _ r ⟨i, s, e, tag, rfl, hi, hinv, htag⟩ hr
  simp only [Int.toNat_natCast]
  rw [zgd]
  by_cases hlt : i < 32
  . rw [zb (decide_eq_true (by omega)), zys N hinv, Option.bind_some, zb (z3r (by omega)), zb (decide_eq_true (by rw [Int.toNat_natCast]; omega)), z3y (by omega)]
    simp only [Int.toNat_natCast]
    rw [hr _ ⟨i + 1, _, _, _, rfl, by omega, zpw hinv, by rw [List.length_set]; exact htag⟩ (by simp only; omega)]
    simp only [Int.toNat_natCast]
    rw [show 32 - i = (32 - (i + 1)) + 1 by omega]
    rfl
  . rw [z14 (decide_eq_false (by omega)), show 32 - i = 0 by omega]
    rfl

def znc : z5l := ([], ([], ([], ())))
def gi (s : List UInt8) := z4a s 0 4144
def gn (s : List UInt8) := zil (gi s).2.1 (gi s).2.2 64
def gl (s : List UInt8) := z7v (gn s).1.toNat (gn s).2.1 (gn s).2.2 []

def z12t (s : List UInt8) : z5l × Int × Unit :=
 if (gl s).2.2 ≠ 0 then (znc, (gl s).2.2, ())
 else if (gl s).2.1.length < 32 then (znc, 1, ())
 else if 32 < (gl s).2.1.length then (znc, 2, ())
 else (((gi s).1, ((gl s).1, ((gl s).2.1, ()))), 0, ())

theorem z16d {s : List UInt8} {e m : Int} (hm : 0 <= m) : (zil s e m).1 <= m := by
  unfold zil
  split
  . exact hm
  . split
    . exact hm
    . split
      . exact hm
      . rename_i h; simp only; omega

theorem z193 {s : List UInt8} (hs : s.length <= 1000000) : z8e (gi s).2.1 (gi s).2.2 /\ z8e (gn s).2.1 (gn s).2.2 /\ z8e (gl s).2.1 (gl s).2.2 /\ (∃ n : Nat, (gn s).1 = (n : Int) /\ n <= 64) := by
  have h0 : z8e s 0 := ⟨hs, fun h => absurd rfl h⟩
  have h1 : z8e (gi s).2.1 (gi s).2.2 := zhv h0
  have h2 : z8e (gn s).2.1 (gn s).2.2 := zsr h1
  have h3 := z11z (gi s).2.1 (gi s).2.2 64
  have h4 := z16d (s := (gi s).2.1) (e := (gi s).2.2) (m := 64) (by decide)
  exact ⟨h1, h2, zuo _ _ h2, (gn s).1.toNat, by unfold gn; omega, by unfold gn; omega⟩

theorem z17h (N : Nat) (hN : 100 < N) {s : List UInt8} (hs : s.length <= 1000000) : zgh N s = some (z12t s) := by
  obtain ⟨i1, i2, i3, n, hn, hn'⟩ := z193 hs
  have h0 : z8e s 0 := ⟨hs, fun h => absurd rfl h⟩
  have q1 : zn N (true, (s, ((0 : Int), ()))) 4144 = some ((gi s).1, (rdr (gi s).2.1 (gi s).2.2, ())) := zoh N (by omega) h0 (by decide)
  have q2 : z21 N (rdr (gi s).2.1 (gi s).2.2) 64 = some ((gn s).1, (rdr (gn s).2.1 (gn s).2.2, ())) := z16e N (by omega) i1 64
  have hgl : z7v n (gn s).2.1 (gn s).2.2 [] = gl s := by unfold gl; rw [hn, Int.toNat_natCast]
  rw [zgh, q1, Option.bind_some, q2, Option.bind_some]
  simp only
  rw [hn, z12r N hN i2 n hn', hgl, z180 N hN i3]
  simp only
  unfold z12t
  by_cases he : (gl s).2.2 = 0
  . rw [he] at i3 ⊢
    rw [if_neg (by simp)]
    by_cases hl : (gl s).2.1.length < 32
    . have ht := zty 32 0 (gl s).2.1 (List.replicate 32 0) hl
      rw [ht, if_pos hl, zyn N (zjt 1), Option.bind_some]
      rfl
    . have ht := z165 32 0 (gl s).2.1 (List.replicate 32 0) rfl (by omega)
      have hd : z8e ((gl s).2.1.drop 32) 0 := zsy i3.1 32
      rw [ht, if_neg hl, zyn N hd, Option.bind_some]
      simp only
      unfold z183
      by_cases hm : 32 < (gl s).2.1.length
      . rw [if_neg (show (gl s).2.1.drop 32 ≠ [] from fun h => by have := congrArg List.length h; rw [List.length_drop] at this; simp at this; omega), if_pos hm]
        rfl
      . rw [if_pos (List.drop_of_length_le (by omega)), if_neg hm, List.take_zero, List.nil_append, z81, List.take_of_length_le (by omega)]
        rfl
  . have ht := zvo 32 0 (s := (gl s).2.1) (List.replicate 32 0) he
    rw [ht, if_pos he, i3.2 he, zyn N (zjt _), Option.bind_some]
    simp only [z183, if_true]
    rw [zb (bne_iff_ne.2 he)]
    rfl

end
end Go.Proofs.YtaackaafmidjkaaDoorLg

set_option linter.all false
set_option maxRecDepth 100000
namespace Go.Proofs.YtaackaafmidjkaaDoorLg
noncomputable section
open Go Go.Lift Go.Proofs.YtaackaafmidjkaaDoorPx

theorem zz3 {s s' t : List UInt8} {e : Int} {m : Nat} (h : z4a s e (m : Int) = (t, s', 0)) : e = 0 /\ t.length <= m /\ s = z5p t.length ++ t ++ s' := by
  unfold z4a zse at h
  rw [if_neg (show ¬ ((m : Nat) : Int) < 0 by omega)] at h
  obtain ⟨v, s1, f, hy⟩ : ∃ v s1 f, zil s e (m : Int) = (v, s1, f) := ⟨_, _, _, rfl⟩
  rw [hy] at h
  simp only at h
  by_cases hf : f = 0
  . subst hf
    rw [if_neg (by simp)] at h
    obtain ⟨he, n, rfl, _, hm, rfl⟩ := zss hy
    by_cases hl : (s1.length : Int) < (n : Int)
    . rw [if_pos hl] at h
      cases h
    . rw [if_neg hl, Int.toNat_natCast] at h
      cases h
      have hn : (s1.take n).length = n := by rw [List.length_take]; omega
      exact ⟨he, by omega, by rw [hn, List.append_assoc, List.take_append_drop]⟩
  . rw [if_pos hf] at h
    cases h
    exact absurd rfl hf

theorem z110 {t s' : List UInt8} {m : Nat} (hm : m < 1000000) (ht : t.length <= m) : z4a (z5p t.length ++ t ++ s') 0 (m : Int) = (t, s', 0) := by
  unfold z4a zse
  rw [if_neg (show ¬ ((m : Nat) : Int) < 0 by omega), List.append_assoc, zwa (by omega) (by omega)]
  simp only
  rw [if_neg (by simp), if_neg (by simp only [List.length_append]; omega), Int.toNat_natCast, List.take_left, List.drop_left]


theorem zda {s s' t : List UInt8} {e : Int} {m : Nat} (h : z4a s e (m : Int) = (t, s', 0)) : e = 0 /\ t.length <= m /\ s = zjo t ++ s' := by
  obtain ⟨h1, h2, h3⟩ := zz3 h
  exact ⟨h1, h2, by rw [h3]; simp only [zjo, List.append_assoc]⟩

theorem zgi {t s' : List UInt8} {m : Nat} (hm : m < 1000000) (ht : t.length <= m) : z4a (zjo t ++ s') 0 (m : Int) = (t, s', 0) := by
  have := z110 (s' := s') hm ht
  unfold zjo
  exact this

theorem zky {α β : Type} {p : α × β} {b : β} (h : p.2 = b) : p = (p.1, b) := by rw [<- h]

theorem z12e {s s' : List UInt8} {e : Int} {l : znz} (h : zas s e = (l, (s', 0))) : e = 0 /\ zf0 l = false /\ s = z145 l ++ s' := by
  by_cases he : e = 0
  case neg =>
    have hb : z32 s e = (0, s, e) := by unfold z32; rw [if_pos he]
    unfold zas at h
    rw [if_pos (by rw [hb])] at h
    unfold l0 at h
    rw [hb] at h
    simp only at h
    rw [ztt s he] at h
    exact absurd (congrArg (fun x => x.2.2) h) he
  subst he
  refine ⟨rfl, ?_⟩
  cases s with
  | nil =>
    have hb : z32 [] 0 = (0, [], 1) := by unfold z32; rw [if_neg (by simp)]; rfl
    unfold zas at h
    rw [if_pos (by rw [hb])] at h
    unfold l0 at h
    rw [hb] at h
    simp only at h
    rw [ztt [] (by decide)] at h
    exact absurd (congrArg (fun x => x.2.2) h) (show ¬ ((1 : Int) = 0) by decide)
  | cons a r =>
    have hb : z32 (a :: r) 0 = ((a.toNat : Int), r, 0) := by unfold z32; rw [if_neg (by simp)]; rfl
    have ea : ∀ k : Nat, k < 256 -> (a.toNat : Int) = (k : Int) -> a = UInt8.ofNat k := by
      intro k hk h
      apply UInt8.toNat_inj.1
      rw [UInt8.toNat_ofNat']; omega
    unfold zas at h
    rw [hb] at h
    simp only at h
    by_cases c0 : (a.toNat : Int) = 0
    . rw [if_pos c0] at h
      have h1 : l = ((l0 (a :: r) 0).1, ([], ())) := (congrArg (·.1) h).symm
      have h2 : (l0 (a :: r) 0).2 = (s', 0) := congrArg (·.2) h
      have h3 : z4a r 0 ((2048 : Nat) : Int) = ((l0 (a :: r) 0).1, (s', 0)) := by
        rw [<- h2]; unfold l0; rw [hb]; rfl
      obtain ⟨_, hl, hs⟩ := zda h3
      subst h1
      refine ⟨?_, ?_⟩
      . unfold zf0; rw [if_pos rfl]; exact decide_eq_false (by show ¬ 2048 < (l0 (a :: r) 0).1.length; omega)
      . unfold z145
        rw [if_pos rfl, List.cons_append, <- hs, ea 0 (by decide) c0]; rfl
    . rw [if_neg c0] at h
      by_cases c1 : (a.toNat : Int) = 1
      . rw [if_pos c1] at h
        have h1 : l = ((l1 (a :: r) 0).1, ((l2 (a :: r) 0).1, ())) := (congrArg (·.1) h).symm
        have h2 : (if (l2 (a :: r) 0).1 = [] then zla (l2 (a :: r) 0).2.1 (l2 (a :: r) 0).2.2 2 else (l2 (a :: r) 0).2) = (s', 0) := congrArg (·.2) h
        by_cases c2 : (l2 (a :: r) 0).1 = []
        . rw [if_pos c2] at h2
          exact absurd (congrArg (·.2) h2) (zt6 (by decide))
        . rw [if_neg c2] at h2
          have h3 : z4a (l1 (a :: r) 0).2.1 (l1 (a :: r) 0).2.2 ((4144 : Nat) : Int) = ((l2 (a :: r) 0).1, (s', 0)) := by
            rw [<- h2]; unfold l2; rfl
          obtain ⟨g1, g2, g3⟩ := zda h3
          have h4 : z4a r 0 ((4144 : Nat) : Int) = ((l1 (a :: r) 0).1, ((l1 (a :: r) 0).2.1, 0)) := by
            have : (l1 (a :: r) 0).2 = ((l1 (a :: r) 0).2.1, (0 : Int)) := zky g1
            rw [<- this]; unfold l1; rw [hb]; rfl
          obtain ⟨_, k2, k3⟩ := zda h4
          subst h1
          refine ⟨?_, ?_⟩
          . unfold zf0
            rw [if_neg c2]
            show (decide (4144 < (l1 (a :: r) 0).1.length) || decide (4144 < (l2 (a :: r) 0).1.length)) = false
            rw [decide_eq_false (by omega), decide_eq_false (by omega)]; rfl
          . unfold z145
            rw [if_neg c2, List.cons_append, List.append_assoc, <- g3, <- k3, ea 1 (by decide) c1]; rfl
      . rw [if_neg c1] at h
        exact absurd (congrArg (fun x => x.2.2) h) (zt6 (by decide))

theorem z152 {l : znz} (h : zf0 l = false) (s' : List UInt8) : zas (z145 l ++ s') 0 = (l, (s', 0)) := by
  obtain ⟨t, u, ⟨⟩⟩ := l
  unfold zf0 at h
  simp only at h
  unfold z145
  simp only
  by_cases hu : u = []
  . subst hu
    rw [if_pos rfl] at h
    have ht : t.length <= 2048 := by have := of_decide_eq_false h; omega
    rw [if_pos rfl]
    have hb : z32 ((0 : UInt8) :: zjo t ++ s') 0 = (0, zjo t ++ s', 0) := by unfold z32; rw [if_neg (by simp)]; rfl
    have h0 : l0 ((0 : UInt8) :: zjo t ++ s') 0 = (t, (s', 0)) := by unfold l0; rw [hb]; exact zgi (m := 2048) (by decide) ht
    unfold zas
    rw [if_pos (by rw [hb]), h0]
  . rw [if_neg hu] at h
    have ht : t.length <= 4144 /\ u.length <= 4144 := by
      rw [Bool.or_eq_false_iff] at h
      have h1 := of_decide_eq_false h.1
      have h2 := of_decide_eq_false h.2
      omega
    rw [if_neg hu]
    have hb : z32 ((1 : UInt8) :: (zjo t ++ zjo u) ++ s') 0 = (1, zjo t ++ (zjo u ++ s'), 0) := by
      unfold z32; rw [if_neg (by simp), List.cons_append, List.append_assoc]; rfl
    have h1 : l1 ((1 : UInt8) :: (zjo t ++ zjo u) ++ s') 0 = (t, (zjo u ++ s', 0)) := by unfold l1; rw [hb]; exact zgi (m := 4144) (by decide) ht.1
    have h2 : l2 ((1 : UInt8) :: (zjo t ++ zjo u) ++ s') 0 = (u, (s', 0)) := by unfold l2; rw [h1]; exact zgi (m := 4144) (by decide) ht.2
    unfold zas
    rw [if_neg (by rw [hb]; show ¬ ((1 : Int) = 0); decide), if_pos (by rw [hb]), h1, h2]
    simp only
    rw [if_neg hu]

theorem zro : ∀ (n : Nat) {s s' : List UInt8} {e : Int} {acc ls : List znz}, z7v n s e acc = (ls, (s', 0)) -> ∃ new, ls = acc ++ new /\ new.length = n /\ e = 0 /\ s = zft new ++ s' /\ new.any zf0 = false
  | 0, s, s', e, acc, ls, h => by
    rw [z7v] at h
    cases h
    exact ⟨[], by simp, rfl, rfl, rfl, rfl⟩
  | n + 1, s, s', e, acc, ls, h => by
    rw [z7v] at h
    obtain ⟨new, h1, h2, h3, h4, h5⟩ := zro n h
    have hk : zas s e = ((zas s e).1, ((zas s e).2.1, 0)) := by
      have : (zas s e).2 = ((zas s e).2.1, (0 : Int)) := zky h3
      rw [<- this]
    obtain ⟨g1, g2, g3⟩ := z12e hk
    refine ⟨(zas s e).1 :: new, by rw [h1, List.append_assoc]; rfl, by simp [h2], g1, ?_, by rw [List.any_cons, g2, h5]; rfl⟩
    rw [zft, List.append_assoc, <- h4]; exact g3

theorem zup : ∀ (new : List znz) {s' : List UInt8} {acc : List znz}, new.any zf0 = false -> z7v new.length (zft new ++ s') 0 acc = (acc ++ new, (s', 0))
  | [], s', acc, _ => by simp [z7v, zft]
  | l :: new, s', acc, h => by
    rw [List.any_cons, Bool.or_eq_false_iff] at h
    rw [List.length_cons, z7v, zft, List.append_assoc, z152 h.1]
    simp only
    rw [zup new h.2, List.append_assoc]; rfl

theorem zq1 {t : z5l} : zea t = 0 ↔ t.2.1.length <= 64 /\ t.2.1.any zf0 = false /\ t.1.length <= 4144 /\ t.2.2.1.length = 32 := by
  unfold zea zs1
  by_cases c1 : 64 < t.2.1.length
  . rw [if_pos c1]; simp; omega
  . rw [if_neg c1]
    by_cases c2 : t.2.1.any zf0 = true
    . rw [if_pos c2]; simp only [c2]; simp
    . rw [if_neg c2]
      have c2' : t.2.1.any zf0 = false := by simpa using c2
      by_cases c3 : 4144 < t.1.length
      . rw [if_pos c3]; simp; omega
      . rw [if_neg c3, if_neg (by simp)]
        by_cases c4 : t.2.2.1.length = 32
        . rw [if_neg (by simpa using c4)]
          exact ⟨fun _ => ⟨by omega, c2', by omega, c4⟩, fun _ => rfl⟩
        . rw [if_pos c4]
          exact ⟨fun h => absurd h (by decide), fun h => absurd h.2.2.2 c4⟩

theorem zr7 {t : z5l} (h : zea t = 0) : Sz t := by
  obtain ⟨h1, h2, h3, h4⟩ := zq1.1 h
  refine ⟨by omega, by omega, fun l hl => ?_, by omega⟩
  have := List.any_eq_false.1 h2 l hl
  unfold zf0 at this
  by_cases hu : l.2.1 = []
  . rw [if_pos hu] at this
    rw [hu]
    have := of_decide_eq_false (by simpa using this : decide (2048 < l.1.length) = false)
    simp only [List.length_nil]; omega
  . rw [if_neg hu, Bool.not_eq_true, Bool.or_eq_false_iff] at this
    have h1 := of_decide_eq_false this.1
    have h2 := of_decide_eq_false this.2
    omega

theorem z12s {s : List UInt8} {t : z5l} (h : z12t s = (t, 0, ())) : zea t = 0 /\ s = zq8 t ++ t.2.2.1 := by
  unfold z12t at h
  by_cases c1 : (gl s).2.2 = 0
  . rw [if_neg (by simpa using c1)] at h
    by_cases c2 : (gl s).2.1.length < 32
    . rw [if_pos c2] at h; exact absurd (congrArg (fun x => x.2.1) h) (by simp)
    . rw [if_neg c2] at h
      by_cases c3 : 32 < (gl s).2.1.length
      . rw [if_pos c3] at h; exact absurd (congrArg (fun x => x.2.1) h) (by simp)
      . rw [if_neg c3] at h
        have ht : t = ((gi s).1, ((gl s).1, ((gl s).2.1, ()))) := (congrArg (·.1) h).symm
        have hg : z7v (gn s).1.toNat (gn s).2.1 (gn s).2.2 [] = ((gl s).1, ((gl s).2.1, 0)) := by
          have : (gl s).2 = ((gl s).2.1, (0 : Int)) := zky c1
          rw [<- this]; rfl
        obtain ⟨new, h1, h2, h3, h4, h5⟩ := zro _ hg
        rw [List.nil_append] at h1
        have hn : zil (gi s).2.1 (gi s).2.2 64 = ((gn s).1, ((gn s).2.1, 0)) := by
          have : (gn s).2 = ((gn s).2.1, (0 : Int)) := zky h3
          rw [<- this]; rfl
        obtain ⟨k1, n, k2, k3, k4, k5⟩ := zss hn
        have hi : z4a s 0 ((4144 : Nat) : Int) = ((gi s).1, ((gi s).2.1, 0)) := by
          have : (gi s).2 = ((gi s).2.1, (0 : Int)) := zky k1
          rw [<- this]; rfl
        obtain ⟨_, m1, m2⟩ := zda hi
        have hlen : new.length = n := by rw [h2, k2, Int.toNat_natCast]
        subst ht
        refine ⟨zq1.2 ⟨?_, ?_, m1, ?_⟩, ?_⟩
        . show (gl s).1.length <= 64
          rw [h1]; omega
        . show (gl s).1.any zf0 = false
          rw [h1]; exact h5
        . show (gl s).2.1.length = 32
          omega
        . show s = (zjo (gi s).1 ++ (z5p (gl s).1.length ++ zft (gl s).1)) ++ (gl s).2.1
          rw [h1, hlen, List.append_assoc, List.append_assoc, <- h4, <- k5]
          exact m2
  . rw [if_pos c1] at h
    exact absurd (congrArg (fun x => x.2.1) h) c1

theorem z157 {t : z5l} (h : zea t = 0) : z12t (zq8 t ++ t.2.2.1) = (t, 0, ()) := by
  obtain ⟨h1, h2, h3, h4⟩ := zq1.1 h
  have e1 : gi (zq8 t ++ t.2.2.1) = (t.1, (z5p t.2.1.length ++ (zft t.2.1 ++ t.2.2.1), 0)) := by
    unfold gi zq8
    rw [List.append_assoc, List.append_assoc]
    exact zgi (m := 4144) (by decide) h3
  have e2 : gn (zq8 t ++ t.2.2.1) = (((t.2.1.length : Nat) : Int), (zft t.2.1 ++ t.2.2.1, 0)) := by
    unfold gn
    rw [e1]
    exact zwa (by omega) (by omega)
  have e3 : gl (zq8 t ++ t.2.2.1) = (t.2.1, (t.2.2.1, 0)) := by
    unfold gl
    rw [e2]
    simp only [Int.toNat_natCast]
    rw [zup _ h2, List.nil_append]
  unfold z12t
  rw [e3, e1]
  simp only
  rw [if_neg (by simp), if_neg (by omega), if_neg (by omega)]

def z198 (l : znz) : Bool := decide (4200 < l.1.length) || decide (4200 < l.2.1.length)
def sumW : Int -> List znz -> Bool
  | a, [] => decide (20000 < a)
  | a, l :: ls => sumW (Go.IntKind.wrap .i64 (Go.IntKind.wrap .i64 (a + ((l.1.length : Nat) : Int)) + ((l.2.1.length : Nat) : Int))) ls
def zdr (t : z5l) : Bool := decide (4200 < t.1.length) || (decide (100 < t.2.2.1.length) || (decide (70 < t.2.1.length) || (t.2.1.any z198 || sumW 0 t.2.1)))

theorem z104 (N : Nat) (t : z5l) (hl : t.2.1.length < N) (hl' : t.2.1.length <= 1000000) :
    z5d N t 0 0 (fun x21 => some x21) (fun all => some (decide ((20000 : Int) < all))) = some (t.2.1.any z198 || sumW 0 t.2.1) := by
  rw [z5d]
  refine (z78 (fun v => ∃ i : Nat, v.2 = (i : Int) /\ i <= t.2.1.length) (fun v => ((t.2.1.length : Int) - v.2).toNat) (fun v => some ((t.2.1.drop v.2.toNat).any z198 || sumW v.1 (t.2.1.drop v.2.toNat))) ?_ N (0, 0) ⟨0, rfl, by omega⟩ (by simp only; omega)).trans (by rfl)
  rintro ⟨a, i⟩ r ⟨i, rfl, hi⟩ hr
  simp only [Int.toNat_natCast]
  rw [z59]
  by_cases hlt : i < t.2.1.length
  . rw [zb (decide_eq_true (by omega)), z5c, z5b, z5a, zb (z3r hlt), zb (z3r hlt), zb (z3r hlt), zb (z3r hlt), Int.toNat_natCast, zpp t.2.1 (([] : List UInt8), (([] : List UInt8), ())) i hlt]
    generalize t.2.1.getD i (([] : List UInt8), (([] : List UInt8), ())) = v
    simp only [List.any_cons, z198, sumW]
    by_cases c1 : 4200 < v.1.length
    . rw [zb (decide_eq_true (by omega)), decide_eq_true c1]; rfl
    . rw [z14 (decide_eq_false (by omega)), decide_eq_false c1]
      by_cases c2 : 4200 < v.2.1.length
      . rw [zb (decide_eq_true (by omega)), decide_eq_true c2]; rfl
      . rw [z14 (decide_eq_false (by omega)), decide_eq_false c2, z3y (by omega)]
        rw [hr _ ⟨i + 1, rfl, by omega⟩ (by simp only; omega)]
        simp only [Int.toNat_natCast, Bool.false_or]
  . rw [z14 (decide_eq_false (by omega)), zpo t.2.1 (by omega)]; rfl

theorem zyh (N : Nat) (hN : 100 < N) (t : z5l) : z2g N t = some (zdr t) := by
  rw [z2g, z5f, z5e]
  unfold zdr
  by_cases c1 : 4200 < t.1.length
  . rw [zb (decide_eq_true (by omega)), decide_eq_true c1]; rfl
  . rw [z14 (decide_eq_false (by omega)), decide_eq_false c1, Bool.false_or]
    by_cases c2 : 100 < t.2.2.1.length
    . rw [zb (decide_eq_true (by omega)), decide_eq_true c2]; rfl
    . rw [z14 (decide_eq_false (by omega)), decide_eq_false c2, Bool.false_or]
      by_cases c3 : 70 < t.2.1.length
      . rw [zb (decide_eq_true (by omega)), decide_eq_true c3]; rfl
      . rw [z14 (decide_eq_false (by omega)), decide_eq_false c3, Bool.false_or, z104 N t (by omega) (by omega)]

theorem zol {t : z5l} (h : zdr t = false) : Sz t := by
  unfold zdr at h
  simp only [Bool.or_eq_false_iff, decide_eq_false_iff_not] at h
  obtain ⟨h1, h2, h3, h4, _⟩ := h
  refine ⟨by omega, by omega, fun l hl => ?_, by omega⟩
  have := List.any_eq_false.1 h4 l hl
  rw [Bool.not_eq_true] at this
  simp only [z198, Bool.or_eq_false_iff, decide_eq_false_iff_not] at this
  omega

theorem zxs (N : Nat) (t : z5l) (hl : t.2.1.length < N) (hl' : t.2.1.length <= 1000000) : z1x N t t = some true := by
  rw [z1x, z3p, z3o, beq_self_eq_true, beq_self_eq_true, bne_self_eq_false, Bool.not_true, cond_false, cond_false, cond_false, z6z]
  refine (z78 (fun v => ∃ i : Nat, v = (i : Int) /\ i <= t.2.1.length) (fun v => ((t.2.1.length : Int) - v).toNat) (fun _ => some true) ?_ N 0 ⟨0, rfl, by omega⟩ (by omega))
  rintro _ r ⟨i, rfl, hi⟩ hr
  rw [z3n]
  by_cases hlt : i < t.2.1.length
  . rw [zb (decide_eq_true (by omega)), zb (z3r hlt), zb (z3r hlt)]
    refine (congrArg (fun b : Bool => cond (!b) (some false) (r (Go.IntKind.wrap .i64 ((i : Int) + 1)))) (z15d (t := T.pair T.str (T.pair T.str T.unit)) rfl (t.2.1.getD i (([] : List UInt8), (([] : List UInt8), ()))))).trans ?_
    rw [Bool.not_true, cond_false, z3y (by omega)]
    exact hr _ ⟨i + 1, rfl, by omega⟩ (by omega)
  . rw [z14 (decide_eq_false (by omega))]

end
end Go.Proofs.YtaackaafmidjkaaDoorLg

set_option linter.all false
set_option maxRecDepth 100000
namespace Go.Proofs.YtaackaafmidjkaaDoorLg
noncomputable section
open Go Go.Lift Go.Proofs.YtaackaafmidjkaaDoorPx

abbrev zs3 := z5l × (List z5l × Unit)

def z16s : zs3 := (znc, ([], ()))

def zuy (s : List UInt8) (e f : Int) : List UInt8 × Int := if f = 0 then (s, e) else zla s e f

theorem z134 {s : List UInt8} {e : Int} (h : z8e s e) (f : Int) : z8e (zuy s e f).1 (zuy s e f).2 := by
  unfold zuy; split
  . exact h
  . exact zt5 h f

theorem z15a (N : Nat) (s : List UInt8) (e f : Int) : zk N (rdr s e) f = some ((), (rdr (zuy s e f).1 (zuy s e f).2, ())) := by
  unfold zuy
  by_cases hf : f = 0
  . subst hf; rw [if_pos rfl]; exact z132 N s e
  . rw [if_neg hf]; exact zwl N s e hf

def zgk (s : List UInt8) (e : Int) : z5l × (List UInt8 × Int) :=
 ((z12t (z4a s e 65536).1).1, zuy (z4a s e 65536).2.1 (z4a s e 65536).2.2 (z12t (z4a s e 65536).1).2.1)

theorem zoj {s : List UInt8} {e : Int} (h : z8e s e) : z8e (zgk s e).2.1 (zgk s e).2.2 := z134 (zhv h) _

theorem z14c {s : List UInt8} {e : Int} (h : z8e s e) (m : Int) : (z4a s e m).1.length <= 1000000 := by
  have hn := zsr (most := if m < 0 then 0 else m) h
  unfold z4a zse
  generalize zil s e (if m < 0 then 0 else m) = y at *
  split
  . simp
  . split
    . simp
    . have := hn.1
      simp only [List.length_take]
      omega

theorem z12q (N : Nat) (hN : 100 < N) {s : List UInt8} {e : Int} (h : z8e s e) : z3h N (rdr s e) = some ((zgk s e).1, (rdr (zgk s e).2.1 (zgk s e).2.2, ())) := by
  rw [z3h, zoh N (by omega) h (by omega), Option.bind_some, z17h N hN (z14c h _), Option.bind_some, z15a]
  rfl

def zg5 : Nat -> List UInt8 -> Int -> List z5l -> List z5l × (List UInt8 × Int)
  | 0, s, e, acc => (acc, (s, e))
  | n + 1, s, e, acc => zg5 n (zgk s e).2.1 (zgk s e).2.2 (acc ++ [(zgk s e).1])

theorem zxb : ∀ (n : Nat) {s : List UInt8} {e : Int} (acc : List z5l), z8e s e -> z8e (zg5 n s e acc).2.1 (zg5 n s e acc).2.2
  | 0, _, _, _, h => h
  | n + 1, _, _, _, h => zxb n _ (zoj h)

theorem z156 (N : Nat) (hN : 100 < N) {s : List UInt8} {e : Int} (h : z8e s e) (n : Nat) (hn : n <= 8) (x2 : zs3) (id : z5l) (K : RdrT.den -> zs3 -> Option (zs3 × Int × Unit)) :
    zfi N x2 (rdr s e) (id, ([], ())) (n : Int) 0 K = K (rdr (zg5 n s e []).2.1 (zg5 n s e []).2.2) (id, ((zg5 n s e []).1, ())) := by
  rw [zfi]
  refine (z78 (fun v => ∃ i s e acc, v = (rdr s e, ((id, (acc, ())), ((i : Nat) : Int))) /\ i <= n /\ z8e s e /\ acc.length = i) (fun v => ((n : Int) - v.2.2).toNat) (fun v => K (rdr (zg5 (n - v.2.2.toNat) v.1.2.1 v.1.2.2.1 v.2.1.2.1).2.1 (zg5 (n - v.2.2.toNat) v.1.2.1 v.1.2.2.1 v.2.1.2.1).2.2) (id, ((zg5 (n - v.2.2.toNat) v.1.2.1 v.1.2.2.1 v.2.1.2.1).1, ()))) ?_ N (rdr s e, ((id, ([], ())), 0)) ⟨0, s, e, [], rfl, by omega, h, rfl⟩ (by simp only; omega)).trans (by rfl)
  rintro _ r ⟨i, s, e, acc, rfl, hi, hinv, hacc⟩ hr
  simp only [Int.toNat_natCast]
  rw [zfh]
  by_cases hlt : i < n
  . rw [zb (decide_eq_true (by omega)), z12q N hN hinv, Option.bind_some]
    simp only
    rw [zb (decide_eq_true (by omega)), show (((i : Nat) : Int) + 1) = ((i + 1 : Nat) : Int) from rfl, z2r (by omega)]
    rw [hr _ ⟨i + 1, _, _, _, rfl, by omega, zoj hinv, by simp [hacc]⟩ (by simp only; omega)]
    simp only [Int.toNat_natCast]
    rw [show n - i = (n - (i + 1)) + 1 by omega]
    rfl
  . rw [z14 (decide_eq_false (by omega)), show n - i = 0 by omega]
    rfl

def bt (s : List UInt8) := zgk s 0
def bn (s : List UInt8) := zil (bt s).2.1 (bt s).2.2 8
def bm (s : List UInt8) := zg5 (bn s).1.toNat (bn s).2.1 (bn s).2.2 []
def be (s : List UInt8) : Int := z183 (bm s).2.1 (bm s).2.2

def zsz (s : List UInt8) : zs3 × Int × Unit :=
 if 65536 < s.length then (z16s, 3, ()) else if be s ≠ 0 then (z16s, be s, ()) else (((bt s).1, ((bm s).1, ())), 0, ())

theorem z16m {s : List UInt8} (hs : s.length <= 65536) : z8e (bt s).2.1 (bt s).2.2 /\ z8e (bn s).2.1 (bn s).2.2 /\ z8e (bm s).2.1 (bm s).2.2 /\ ∃ n : Nat, (bn s).1 = (n : Int) /\ n <= 8 := by
  have h0 : z8e s 0 := ⟨by omega, fun h => absurd rfl h⟩
  have h1 : z8e (bt s).2.1 (bt s).2.2 := zoj h0
  have h2 : z8e (bn s).2.1 (bn s).2.2 := zsr h1
  have h3 : z8e (bm s).2.1 (bm s).2.2 := zxb _ _ h2
  have h4 := z11z (bt s).2.1 (bt s).2.2 8
  have h5 := z16d (s := (bt s).2.1) (e := (bt s).2.2) (m := 8) (by omega)
  refine ⟨h1, h2, h3, (bn s).1.toNat, ?_, ?_⟩
  . show (bn s).1 = _
    have : 0 <= (bn s).1 := h4
    omega
  . have : (bn s).1 <= 8 := h5
    omega

theorem zwx (N : Nat) (hN : 100 < N) (s : List UInt8) : z6s N s = some (zsz s) := by
  rw [z6s]
  by_cases hl : 65536 < s.length
  . rw [zb (decide_eq_true (by omega)), zsz, if_pos hl]; rfl
  rw [z14 (decide_eq_false (by omega)), zsz, if_neg hl]
  obtain ⟨h1, h2, h3, n, h4, h5⟩ := z16m (s := s) (by omega)
  have h0 : z8e s 0 := ⟨by omega, fun h => absurd rfl h⟩
  rw [show ((true, (s, ((0 : Int), ()))) : RdrT.den) = rdr s 0 from rfl, z12q N hN h0, Option.bind_some]
  simp only
  rw [show zgk s 0 = bt s from rfl, z16e N (by omega) h1, Option.bind_some]
  simp only
  rw [show zil (bt s).2.1 (bt s).2.2 8 = bn s from rfl, h4, z156 N hN h2 n h5]
  have hm : zg5 n (bn s).2.1 (bn s).2.2 [] = bm s := by unfold bm; rw [h4, Int.toNat_natCast]
  rw [hm, zyn N h3, Option.bind_some]
  simp only
  rw [show z183 (bm s).2.1 (bm s).2.2 = be s from rfl]
  by_cases he : be s = 0
  . rw [z14 (by rw [he]; rfl), if_neg (by simpa using he)]
  . rw [zb (by simpa using he), if_pos he]; rfl

end
end Go.Proofs.YtaackaafmidjkaaDoorLg

set_option linter.all false
set_option maxRecDepth 100000
namespace Go.Proofs.YtaackaafmidjkaaDoorLg
noncomputable section
open Go Go.Lift Go.Proofs.YtaackaafmidjkaaDoorPx

def zmf (t : z5l) : List UInt8 := zjo (zq8 t ++ t.2.2.1)

def z6t : List z5l -> List UInt8
  | [] => []
  | t :: ts => zmf t ++ z6t ts

def zr5 : List z5l -> Int
  | [] => 0
  | t :: ts => if zea t ≠ 0 then zea t else zr5 ts

def z11m (b : zs3) : List UInt8 × Int × Unit :=
 if 8 < b.2.1.length then ([], 3, ()) else if zea b.1 ≠ 0 then ([], zea b.1, ()) else if zr5 b.2.1 ≠ 0 then ([], zr5 b.2.1, ()) else (zmf b.1 ++ (z5p b.2.1.length ++ z6t b.2.1), 0, ())

def zvz (b : zs3) : List UInt8 × Int × Unit := if (z11m b).2.1 ≠ 0 then z11m b else if 65536 < (z11m b).1.length then ([], 3, ()) else z11m b

def SzB (b : zs3) : Prop := Sz b.1 /\ ∀ t ∈ b.2.1, Sz t

theorem zyo {t : z5l} (h : Sz t) : (zmf t).length <= 910000 := by
  have h1 := zi1 h
  have h2 := zeo (zq8 t ++ t.2.2.1)
  have h3 := h.2.2.2
  unfold zmf
  rw [List.length_append] at h2
  omega

theorem zv6 : ∀ {l : List z5l}, (∀ t ∈ l, Sz t) -> (z6t l).length <= 910000 * l.length
  | [], _ => by simp [z6t]
  | t :: ts, h => by
    have h1 := zyo (h t (List.mem_cons_self ..))
    have h2 := zv6 (fun x hx => h x (List.mem_cons_of_mem _ hx))
    simp only [z6t, List.length_append, List.length_cons]
    omega

theorem ztr (N : Nat) (hN : 100 < N) {t : z5l} (h : Sz t) : zht N t = some (if zea t = 0 then ((0 : Int), zmf t) else (zea t, [])) := by
  unfold zht
  have h1 := zi1 h
  have h3 := h.2.2.2
  rw [z17g N hN h, Option.bind_some]
  unfold putT
  by_cases hb : zea t = 0
  . rw [if_neg (show ¬ zea t ≠ 0 by simpa using hb), if_pos hb]
    dsimp only
    rw [if_pos rfl, zl5 N (by omega) (by rw [List.length_append]; omega), Option.bind_some]
    rfl
  . rw [if_pos hb, if_neg hb]
    dsimp only
    rw [if_neg hb]

theorem zy5 (N : Nat) (hN : 100 < N) : ∀ {l : List z5l}, (∀ t ∈ l, Sz t) -> ∃ r, zh3 N l = some r /\ r.1 = zr5 l /\ (zr5 l = 0 -> r.2.flatten = z6t l)
  | [], _ => ⟨_, rfl, rfl, fun _ => rfl⟩
  | t :: ts, h => by
    obtain ⟨r, h1, h2, h3⟩ := zy5 N hN (fun x hx => h x (List.mem_cons_of_mem _ hx))
    rw [zh3, ztr N hN (h t (List.mem_cons_self ..)), Option.bind_some, zr5]
    by_cases hb : zea t = 0
    . rw [if_pos hb, if_neg (show ¬ zea t ≠ 0 by simpa using hb)]
      dsimp only
      rw [if_pos rfl, h1, Option.bind_some]
      refine ⟨_, rfl, h2, fun h0 => ?_⟩
      dsimp only
      rw [List.flatten_cons, h3 h0]
      rfl
    . rw [if_neg hb, if_pos hb]
      dsimp only
      rw [if_neg hb]
      exact ⟨_, rfl, rfl, fun h0 => absurd h0 hb⟩

theorem zww (N : Nat) (hN : 100 < N) {b : zs3} (h : SzB b) : z49 N b = some (zvz b) := by
  obtain ⟨h1, h2⟩ := h
  unfold z49 zvz z11m
  by_cases h8 : 8 < b.2.1.length
  . rw [if_pos h8, if_pos h8, if_pos (by decide)]
  rw [if_neg h8, if_neg h8]
  unfold zvt
  rw [ztr N hN h1, Option.bind_some]
  by_cases hb : zea b.1 = 0
  . rw [if_pos hb, if_neg (show ¬ zea b.1 ≠ 0 by simpa using hb)]
    dsimp only
    rw [if_pos rfl, zt1 N (by omega) (by omega), Option.bind_some]
    obtain ⟨r, k1, k2, k3⟩ := zy5 N hN h2
    rw [k1, Option.bind_some, Option.bind_some]
    dsimp only
    rw [k2]
    by_cases hm : zr5 b.2.1 = 0
    . rw [if_pos hm, if_neg (show ¬ zr5 b.2.1 ≠ 0 by simpa using hm)]
      have e : (zmf b.1 :: z5p b.2.1.length :: r.2).flatten = zmf b.1 ++ (z5p b.2.1.length ++ z6t b.2.1) := by
        rw [List.flatten_cons, List.flatten_cons, k3 hm]
      rw [e]
      have q1 := zyo h1
      have q2 := zv6 h2
      have q3 := (z6y b.2.1.length).2
      rw [if_pos (show (zmf b.1 ++ (z5p b.2.1.length ++ z6t b.2.1)).length <= 70368744177664 by simp only [List.length_append]; omega)]
      dsimp only
      rw [if_neg (show ¬ (0 : Int) ≠ 0 by decide)]
      by_cases hl : 65536 < (zmf b.1 ++ (z5p b.2.1.length ++ z6t b.2.1)).length
      . rw [if_pos hl, if_pos hl]
      . rw [if_neg hl, if_neg hl]
    . rw [if_neg hm, if_pos hm]
      dsimp only
      rw [if_pos hm]
  . rw [if_neg hb, if_pos hb]
    dsimp only
    rw [if_neg hb, Option.bind_some, if_pos hb]
    dsimp only
    rw [if_neg hb]

theorem zyp {l : List z5l} {i : Nat} (h : i < l.length) : l.drop i = l.getD i znc :: l.drop (i + 1) := by
  rw [List.drop_eq_getElem_cons h, List.getD_eq_getElem?_getD, List.getElem?_eq_getElem h]; rfl

theorem z128 {l : List z5l} {i : Nat} (h : i < l.length) : l.getD i znc ∈ l := by
  rw [List.getD_eq_getElem?_getD, List.getElem?_eq_getElem h]; exact List.getElem_mem h

def z10n (t : z5l) : Nat := if zs1 t = 0 then (z5p ((zq8 t).length + 32)).length + ((zq8 t).length + 32) else 0

def z141 : List z5l -> Option Nat
  | [] => some 0
  | t :: ts => if zs1 t = 0 then (z141 ts).map (z10n t + ·) else none

def sizB (b : zs3) : Nat := if 8 < b.2.1.length then 0 else if zs1 b.1 ≠ 0 then 0 else match z141 b.2.1 with
  | some n => z10n b.1 + (z5p b.2.1.length).length + n
  | none => 0

theorem zu1 (N : Nat) (hN : 100 < N) {t : z5l} (h : Sz t) : z52 N t = some (z10n t : Int) := by
  have e1 := zi1 h
  rw [z52, z14a N hN h, Option.bind_some, z10n]
  by_cases hb : zs1 t = 0
  . rw [if_pos hb, if_pos hb]
    have q := (z6y ((zq8 t).length + 32)).2
    rw [z14 (by simp; omega), z2r (by omega), zt1 N (by omega) (by omega), Option.bind_some]
    congr 1
    rw [zfu (by unfold I64; omega)]
    omega
  . rw [if_neg hb, if_neg hb]
    rfl

theorem zxo {t : z5l} (h : zs1 t = 0) : 0 < z10n t := by
  unfold z10n; rw [if_pos h]; omega

theorem zxp {t : z5l} (h : Sz t) : z10n t <= 910000 := by
  have e1 := zi1 h
  have q := (z6y ((zq8 t).length + 32)).2
  unfold z10n; split <;> omega

def z18t (total : Int) (o : Option Nat) : Option Int := match o with
  | some n => some (total + (n : Int))
  | none => some 0

theorem z11c (N : Nat) (hN : 100 < N) {l : List z5l} (hz : ∀ t ∈ l, Sz t) (h8 : l.length <= 8) (total : Int) (ht : 0 <= total /\ total <= 1000000) :
    zcz N total l (l.length : Int) 0 (fun x2 => some x2) (fun total => some total) = z18t total (z141 l) := by
  rw [zcz]
  refine (z78 (fun v => ∃ i : Nat, v.2 = (i : Int) /\ i <= l.length /\ (0 : Int) <= v.1 /\ v.1 <= (1000000 : Int) + 910000 * (i : Int)) (fun v => ((l.length : Int) - v.2).toNat) (fun v => z18t v.1 (z141 (l.drop v.2.toNat))) ?_ N (total, 0) ⟨0, rfl, by omega, ht.1, by simpa using ht.2⟩ (by simp only; omega)).trans (by rfl)
  rintro ⟨o, i⟩ r ⟨i, rfl, hi, hlo, hhi⟩ hr
  simp only at hlo hhi
  simp only [Int.toNat_natCast]
  rw [zcy]
  by_cases hlt : i < l.length
  . have hs := hz _ (z128 hlt)
    rw [zb (decide_eq_true (by omega)), zb (z3r hlt), Int.toNat_natCast, zyp hlt, show (([] : List UInt8), (([] : List ((List UInt8) × ((List UInt8) × Unit))), (([] : List UInt8), ()))) = znc from rfl]
    generalize l.getD i znc = t at hs ⊢
    rw [zu1 N hN hs, Option.bind_some, z141]
    have e := zxp hs
    by_cases hb : zs1 t = 0
    . have e0 := zxo hb
      rw [z14 (by simp; omega), if_pos hb, zfu (by unfold I64; omega), z3y (by omega)]
      rw [hr _ ⟨i + 1, rfl, by omega, by omega, by omega⟩ (by simp only; omega)]
      simp only [Int.toNat_natCast]
      cases z141 (l.drop (i + 1)) with
      | none => rfl
      | some n => simp only [z18t, Option.map_some]; congr 1; omega
    . rw [if_neg hb, zb (by unfold z10n; rw [if_neg hb]; rfl)]
      rfl
  . rw [z14 (decide_eq_false (by omega)), List.drop_of_length_le (by omega), z141]
    simp [z18t]

theorem zyt (N : Nat) (hN : 100 < N) {b : zs3} (h : SzB b) : z8d N b = some (sizB b : Int) := by
  obtain ⟨h1, h2⟩ := h
  rw [z8d, sizB]
  by_cases h8 : 8 < b.2.1.length
  . rw [zb (decide_eq_true (by omega)), if_pos h8]; rfl
  rw [z14 (decide_eq_false (by omega)), if_neg h8, zu1 N hN h1, Option.bind_some]
  have e := zxp h1
  have q3 := (z6y b.2.1.length).2
  by_cases hb : zs1 b.1 = 0
  . have e0 := zxo hb
    rw [z14 (by simp; omega), if_neg (show ¬ zs1 b.1 ≠ 0 by simpa using hb), z2r (by omega), zt1 N (by omega) (by omega), Option.bind_some, zfu (by unfold I64; omega), z11c N hN h2 (by omega) _ (by omega)]
    cases z141 b.2.1 with
    | none => rfl
    | some n => simp only [z18t]; congr 1
  . rw [if_pos hb, zb (by unfold z10n; rw [if_neg hb]; rfl)]
    rfl


end
end Go.Proofs.YtaackaafmidjkaaDoorLg

set_option linter.all false
set_option maxRecDepth 100000
namespace Go.Proofs.YtaackaafmidjkaaDoorLg
noncomputable section
open Go Go.Lift Go.Proofs.YtaackaafmidjkaaDoorPx

theorem ztw {s s' : List UInt8} {e : Int} {t : z5l} (h : zgk s e = (t, (s', 0))) : e = 0 /\ zea t = 0 /\ s = zmf t ++ s' := by
  unfold zgk zuy at h
  rw [Prod.mk.injEq] at h
  obtain ⟨h1, h2⟩ := h
  by_cases hf : (z12t (z4a s e 65536).1).2.1 = 0
  . rw [if_pos hf] at h2
    have hx : z4a s e ((65536 : Nat) : Int) = ((z4a s e 65536).1, s', 0) := by
      have : (z4a s e 65536).2 = (s', 0) := h2
      rw [<- this]; rfl
    obtain ⟨k1, k2, k3⟩ := zda hx
    have hg : z12t (z4a s e 65536).1 = (t, 0, ()) := by
      have : (z12t (z4a s e 65536).1).2 = ((0 : Int), ()) := by rw [<- hf]
      rw [<- this, <- h1]
    obtain ⟨g1, g2⟩ := z12s hg
    refine ⟨k1, g1, ?_⟩
    unfold zmf
    rw [<- g2]
    exact k3
  . rw [if_neg hf] at h2
    have := zt6 (s := (z4a s e 65536).2.1) (e := (z4a s e 65536).2.2) hf
    rw [h2] at this
    exact absurd rfl this

theorem zxf {t : z5l} (h : zea t = 0) (hl : (zq8 t ++ t.2.2.1).length <= 65536) (s' : List UInt8) : zgk (zmf t ++ s') 0 = (t, (s', 0)) := by
  unfold zgk zmf
  have := zgi (t := zq8 t ++ t.2.2.1) (s' := s') (m := 65536) (by omega) hl
  rw [show ((65536 : Nat) : Int) = 65536 from rfl] at this
  rw [this]
  dsimp only
  rw [z157 h]
  rfl

theorem ztl : ∀ (n : Nat) {s s' : List UInt8} {e : Int} {acc l : List z5l}, zg5 n s e acc = (l, (s', 0)) -> ∃ new, l = acc ++ new /\ new.length = n /\ e = 0 /\ s = z6t new ++ s' /\ zr5 new = 0
  | 0, s, s', e, acc, l, h => by
    rw [zg5] at h
    cases h
    exact ⟨[], by simp, rfl, rfl, rfl, rfl⟩
  | n + 1, s, s', e, acc, l, h => by
    rw [zg5] at h
    obtain ⟨new, h1, h2, h3, h4, h5⟩ := ztl n h
    obtain ⟨k1, k2, k3⟩ := ztw (s := s) (e := e) (t := (zgk s e).1) (s' := (zgk s e).2.1) (by rw [<- h3])
    refine ⟨(zgk s e).1 :: new, by rw [h1]; simp, by simp [h2], k1, ?_, by rw [zr5, if_neg (show ¬ zea _ ≠ 0 by simpa using k2)]; exact h5⟩
    rw [z6t, List.append_assoc, <- h4]
    exact k3

theorem zxc : ∀ (new : List z5l) {s' : List UInt8} {acc : List z5l}, zr5 new = 0 -> (∀ t ∈ new, (zq8 t ++ t.2.2.1).length <= 65536) -> zg5 new.length (z6t new ++ s') 0 acc = (acc ++ new, (s', 0))
  | [], s', acc, _, _ => by simp [zg5, z6t]
  | t :: ts, s', acc, h, hl => by
    rw [zr5] at h
    by_cases hb : zea t = 0
    . rw [if_neg (show ¬ zea t ≠ 0 by simpa using hb)] at h
      rw [List.length_cons, zg5, z6t, List.append_assoc, zxf hb (hl t (List.mem_cons_self ..))]
      dsimp only
      rw [zxc ts h (fun x hx => hl x (List.mem_cons_of_mem _ hx))]
      simp
    . rw [if_pos hb] at h
      exact absurd h hb

theorem zy3 {b : zs3} (h8 : b.2.1.length <= 8) (h1 : zea b.1 = 0) (h2 : zr5 b.2.1 = 0) : z11m b = (zmf b.1 ++ (z5p b.2.1.length ++ z6t b.2.1), 0, ()) := by
  unfold z11m
  rw [if_neg (by omega), if_neg (show ¬ zea b.1 ≠ 0 by simpa using h1), if_neg (show ¬ zr5 b.2.1 ≠ 0 by simpa using h2)]

theorem z17q {b : zs3} (h : (z11m b).2.1 = 0) : b.2.1.length <= 8 /\ zea b.1 = 0 /\ zr5 b.2.1 = 0 := by
  unfold z11m at h
  by_cases h8 : 8 < b.2.1.length
  . rw [if_pos h8] at h; exact absurd h (by decide)
  rw [if_neg h8] at h
  by_cases h1 : zea b.1 = 0
  . rw [if_neg (show ¬ zea b.1 ≠ 0 by simpa using h1)] at h
    by_cases h2 : zr5 b.2.1 = 0
    . exact ⟨by omega, h1, h2⟩
    . rw [if_pos h2] at h; exact absurd h h2
  . rw [if_pos h1] at h; exact absurd h h1

theorem zut {s : List UInt8} {b : zs3} (h : zsz s = (b, 0, ())) : b.2.1.length <= 8 /\ zea b.1 = 0 /\ zr5 b.2.1 = 0 /\ zvz b = (s, 0, ()) := by
  unfold zsz at h
  by_cases hl : 65536 < s.length
  . rw [if_pos hl] at h; cases h
  rw [if_neg hl] at h
  by_cases he : be s = 0
  . rw [if_neg (show ¬ be s ≠ 0 by simpa using he)] at h
    obtain ⟨-, -, -, n, hn, hn8⟩ := z16m (s := s) (by omega)
    have hend : (bm s).2.1 = [] /\ (bm s).2.2 = 0 := by
      unfold be z183 at he
      by_cases hs : (bm s).2.1 = []
      . rw [if_pos hs] at he; exact ⟨hs, he⟩
      . rw [if_neg hs] at he; exact absurd he (by decide)
    obtain ⟨new, k1, k2, k3, k4, k5⟩ := ztl (bn s).1.toNat (s := (bn s).2.1) (e := (bn s).2.2) (acc := []) (l := (bm s).1) (s' := []) (by
      show bm s = _
      rw [<- hend.1, <- hend.2])
    obtain ⟨j1, m, j2, j3, j4, j5⟩ := zss (s := (bt s).2.1) (e := (bt s).2.2) (most := 8) (v := (bn s).1) (s' := (bn s).2.1) (by
      show bn s = _
      rw [<- k3])
    obtain ⟨i1, i2, i3⟩ := ztw (s := s) (e := 0) (t := (bt s).1) (s' := (bt s).2.1) (by
      show bt s = _
      rw [<- j1])
    have hb : b = ((bt s).1, ((bm s).1, ())) := by cases h; rfl
    subst hb
    have hm : (bm s).1 = new := by rw [k1]; rfl
    have hlen : new.length = m := by rw [k2, j2]; rfl
    have h8 : new.length <= 8 := by omega
    rw [hm]
    refine ⟨h8, i2, k5, ?_⟩
    have hr := zy3 (b := ((bt s).1, (new, ()))) h8 i2 k5
    have hs : s = zmf (bt s).1 ++ (z5p new.length ++ z6t new) := by
      rw [hlen]
      refine i3.trans ?_
      rw [<- List.append_nil (z6t new), <- k4, <- j5]
    dsimp only at hr
    rw [<- hs] at hr
    unfold zvz
    rw [hr, if_neg (show ¬ (0 : Int) ≠ 0 by decide), if_neg hl]
  . rw [if_pos he] at h
    exact absurd (congrArg (fun x : zs3 × Int × Unit => x.2.1) h) he

theorem z137 {t : z5l} : (zq8 t ++ t.2.2.1).length <= (zmf t).length := by
  unfold zmf zjo
  simp only [List.length_append]
  omega

theorem zv5 : ∀ {l : List z5l} {t : z5l}, t ∈ l -> (zmf t).length <= (z6t l).length
  | t :: ts, u, h => by
    rw [z6t, List.length_append]
    rcases List.mem_cons.1 h with rfl | h
    . omega
    . have := zv5 h; omega

theorem zyi {b : zs3} {s : List UInt8} (h : zvz b = (s, 0, ())) : zsz s = (b, 0, ()) /\ s.length = sizB b := by
  have h0 : (z11m b).2.1 = 0 := by
    by_cases he : (z11m b).2.1 = 0
    . exact he
    . unfold zvz at h; rw [if_pos he] at h; rw [h] at he; exact absurd rfl he
  obtain ⟨h8, h1, h2⟩ := z17q h0
  have hr := zy3 h8 h1 h2
  have hl : ¬ 65536 < (zmf b.1 ++ (z5p b.2.1.length ++ z6t b.2.1)).length := by
    intro hl
    unfold zvz at h
    rw [hr, if_neg (show ¬ (0 : Int) ≠ 0 by decide), if_pos hl] at h
    cases h
  have hs : s = zmf b.1 ++ (z5p b.2.1.length ++ z6t b.2.1) := by
    unfold zvz at h
    rw [hr, if_neg (show ¬ (0 : Int) ≠ 0 by decide), if_neg hl] at h
    cases h; rfl
  subst hs
  obtain ⟨t, l, ⟨⟩⟩ := b
  dsimp only at *
  have hl' : (zmf t).length <= 65536 /\ (z6t l).length <= 65536 := by
    simp only [List.length_append] at hl
    omega
  have et : bt (zmf t ++ (z5p l.length ++ z6t l)) = (t, (z5p l.length ++ z6t l, 0)) := zxf h1 (Nat.le_trans z137 hl'.1) _
  have en : bn (zmf t ++ (z5p l.length ++ z6t l)) = ((l.length : Int), (z6t l, 0)) := by
    unfold bn
    rw [et]
    exact zwa (by omega) (by omega)
  have em : bm (zmf t ++ (z5p l.length ++ z6t l)) = (l, ([], 0)) := by
    unfold bm
    rw [en]
    dsimp only
    rw [Int.toNat_natCast]
    have := zxc l (s' := []) (acc := []) h2 (fun x hx => Nat.le_trans z137 (Nat.le_trans (zv5 hx) hl'.2))
    rw [List.append_nil, List.nil_append] at this
    exact this
  have ee : be (zmf t ++ (z5p l.length ++ z6t l)) = 0 := by
    unfold be; rw [em]; rfl
  refine ⟨?_, ?_⟩
  . unfold zsz
    rw [if_neg hl, if_neg (show ¬ be _ ≠ 0 by simpa using ee), et, em]
  . have badB_z : ∀ {u : z5l}, zea u = 0 -> zs1 u = 0 /\ u.2.2.1.length = 32 := fun {u} hu => by
      unfold zea at hu
      by_cases hb : zs1 u = 0
      . rw [if_neg (show ¬ zs1 u ≠ 0 by simpa using hb)] at hu
        by_cases hg : u.2.2.1.length = 32
        . exact ⟨hb, hg⟩
        . rw [if_pos hg] at hu; exact absurd hu (by decide)
      . rw [if_pos hb] at hu; exact absurd hu hb
    have len : ∀ {u : z5l}, zea u = 0 -> (zmf u).length = z10n u := fun {u} hu => by
      obtain ⟨q1, q2⟩ := badB_z hu
      unfold zmf zjo z10n
      rw [if_pos q1, List.length_append, List.length_append, q2]
    have z144 : ∀ m : List z5l, zr5 m = 0 -> z141 m = some (z6t m).length := by
      intro m
      induction m with
      | nil => intro _; rfl
      | cons u us ih =>
        intro hu
        rw [zr5] at hu
        by_cases hb : zea u = 0
        . rw [if_neg (show ¬ zea u ≠ 0 by simpa using hb)] at hu
          rw [z141, if_pos (badB_z hb).1, ih hu, z6t, List.length_append, len hb]
          rfl
        . rw [if_pos hb] at hu; exact absurd hu hb
    unfold sizB
    dsimp only
    rw [if_neg (by omega), if_neg (show ¬ zs1 t ≠ 0 by simpa using (badB_z h1).1), z144 l h2]
    simp only [List.length_append]
    rw [len h1]
    omega

theorem z17j : Sz znc := ⟨by decide, by decide, (fun l h => by cases h), by decide⟩

theorem z181 (s : List UInt8) : SzB (zsz s).1 /\ (zsz s).1.2.1.length <= 8 := by
  by_cases he : (zsz s).2.1 = 0
  . have hg : zsz s = ((zsz s).1, 0, ()) := by
      have : (zsz s).2 = ((0 : Int), ()) := by rw [<- he]
      rw [<- this]
    obtain ⟨h8, h1, h2, _⟩ := zut hg
    refine ⟨⟨zr7 h1, ?_⟩, h8⟩
    have : ∀ l : List z5l, zr5 l = 0 -> ∀ t ∈ l, Sz t := by
      intro l
      induction l with
      | nil => intro _ t ht; cases ht
      | cons u us ih =>
        intro hu t ht
        rw [zr5] at hu
        by_cases hb : zea u = 0
        . rw [if_neg (show ¬ zea u ≠ 0 by simpa using hb)] at hu
          rcases List.mem_cons.1 ht with rfl | ht
          . exact zr7 hb
          . exact ih hu t ht
        . rw [if_pos hb] at hu; exact absurd hu hb
    exact this _ h2
  . have hz : (zsz s).1 = z16s := by
      unfold zsz at he ⊢
      by_cases hl : 65536 < s.length
      . rw [if_pos hl]
      . rw [if_neg hl] at he ⊢
        by_cases hb : be s = 0
        . rw [if_neg (show ¬ be s ≠ 0 by simpa using hb)] at he; exact absurd rfl he
        . rw [if_pos hb]
    rw [hz]
    exact ⟨⟨z17j, fun t ht => by cases ht⟩, by decide⟩

theorem zxt (N : Nat) (hN : 100 < N) {b : zs3} (h : SzB b) (h8 : b.2.1.length <= 70) : z1q N b b = some true := by
  rw [z1q, z3a, z39, zxs N _ (by have := h.1.2.1; omega) (by have := h.1.2.1; omega), Option.bind_some, Bool.not_true, cond_false, bne_self_eq_false, cond_false, z6e]
  refine (z78 (fun v => ∃ i : Nat, v = (i : Int) /\ i <= b.2.1.length) (fun v => ((b.2.1.length : Int) - v).toNat) (fun _ => some true) ?_ N 0 ⟨0, rfl, by omega⟩ (by omega))
  rintro _ r ⟨i, rfl, hi⟩ hr
  rw [z38]
  by_cases hlt : i < b.2.1.length
  . have hs := h.2 _ (z128 hlt)
    rw [zb (decide_eq_true (by omega)), zb (z3r hlt), zb (z3r hlt), Int.toNat_natCast, show (([] : List UInt8), (([] : List ((List UInt8) × ((List UInt8) × Unit))), (([] : List UInt8), ()))) = znc from rfl, zxs N _ (by have := hs.2.1; omega) (by have := hs.2.1; omega), Option.bind_some, Bool.not_true, cond_false, z3y (by omega)]
    exact hr _ ⟨i + 1, rfl, by omega⟩ (by omega)
  . rw [z14 (decide_eq_false (by omega))]

theorem z105 (N : Nat) (hN : 100 < N) (b : zs3) : z37 N b = some (decide (12 < b.2.1.length) || (zdr b.1 || b.2.1.any zdr)) := by
  rw [z37, z58, z57]
  by_cases h12 : 12 < b.2.1.length
  . rw [zb (decide_eq_true (by omega)), cond_true, decide_eq_true h12]; rfl
  rw [z14 (decide_eq_false (by omega)), decide_eq_false h12, zyh N hN, Option.bind_some]
  cases hg : zdr b.1 with
  | true => rfl
  | false =>
    rw [cond_false, z94]
    simp only [Bool.false_or]
    refine (z78 (fun v => ∃ i : Nat, v = (i : Int) /\ i <= b.2.1.length) (fun v => ((b.2.1.length : Int) - v).toNat) (fun v => some ((b.2.1.drop v.toNat).any zdr)) ?_ N 0 ⟨0, rfl, by omega⟩ (by omega)).trans (by rfl)
    rintro _ r ⟨i, rfl, hi⟩ hr
    simp only [Int.toNat_natCast]
    rw [z56]
    by_cases hlt : i < b.2.1.length
    . rw [zb (decide_eq_true (by omega)), zb (z3r hlt), Int.toNat_natCast, zyp hlt, show (([] : List UInt8), (([] : List ((List UInt8) × ((List UInt8) × Unit))), (([] : List UInt8), ()))) = znc from rfl, zyh N hN, Option.bind_some, List.any_cons]
      cases hq : zdr (b.2.1.getD i znc) with
      | true => rfl
      | false =>
        rw [cond_false, z3y (by omega), hr _ ⟨i + 1, rfl, by omega⟩ (by omega)]
        rfl
    . rw [z14 (decide_eq_false (by omega)), List.drop_of_length_le (by omega)]; rfl

theorem z18s {b : zs3} (h : (decide (12 < b.2.1.length) || (zdr b.1 || b.2.1.any zdr)) = false) : SzB b /\ b.2.1.length <= 12 := by
  rw [Bool.or_eq_false_iff, Bool.or_eq_false_iff, decide_eq_false_iff_not] at h
  refine ⟨⟨zol h.2.1, fun t ht => zol ?_⟩, by omega⟩
  have := List.any_eq_false.1 h.2.2 t ht
  simpa using this

abbrev z14g : List UInt8 := [48, 49, 50, 51, 52, 53, 54, 55, 56, 57, 97, 98, 99, 100, 101, 102, 48, 49, 50, 51, 52, 53, 54, 55, 56, 57, 97, 98, 99, 100, 101, 102]

theorem z16u (N : Nat) (hN : 100 < N) : z26 N = some true := by
  rw [z26]
  have hz : SzB ((([(97 : UInt8)] : List UInt8), (([] : List znz), (z14g, ()))), (([] : List z5l), ())) := ⟨⟨by decide, by decide, (fun l h => by cases h), by decide⟩, fun t ht => by cases ht⟩
  have hp : zvz ((([(97 : UInt8)] : List UInt8), (([] : List znz), (z14g, ()))), (([] : List z5l), ())) = ((zvz ((([(97 : UInt8)] : List UInt8), (([] : List znz), (z14g, ()))), (([] : List z5l), ()))).1, 0, ()) := by kernel_rfl
  have hl : (zvz ((([(97 : UInt8)] : List UInt8), (([] : List znz), (z14g, ()))), (([] : List z5l), ()))).1.length = 37 := by kernel_rfl
  obtain ⟨hg, hsz⟩ := zyi hp
  rw [zww N hN hz, Option.bind_some, zwx N hN, hg, Option.bind_some]
  rw [zb (by rw [hl]; rfl), zb (by rw [hp]; rfl), zxt N hN hz (by decide), Option.bind_some, cond_true, zb (by rfl), zyt N hN hz, Option.bind_some]
  rw [<- hsz, hl]
  rfl

theorem zr4 (N : Nat) (hN : 100 < N) (b : zs3) (s : List UInt8) : z1h N b s = some true := by
  rw [z1h, z2x, z2w, z16u N hN, z105 N hN, Option.bind_some]
  cases hg : (decide (12 < b.2.1.length) || (zdr b.1 || b.2.1.any zdr)) with
  | true => rfl
  | false =>
    obtain ⟨hz, h12⟩ := z18s hg
    rw [cond_false]
    cases decide ((6000 : Int) < (((List.length s) : Nat) : Int)) with
    | true => rfl
    | false =>
      rw [cond_false, zww N hN hz, Option.bind_some, z2v]
      have rest : ((z6s N s).bind fun y1 =>
        (z49 N y1.1).bind fun y2 =>
        cond (y1.2.1 != (0 : Int))
        ((some true : Option Bool).bind fun y3 =>
          some y3)
        (cond (y2.2.1 == (0 : Int))
          (cond (y2.1 == s)
            ((some true : Option Bool).bind fun y4 =>
              some y4)
            (some false))
          (some false))) = some true := by
        rw [zwx N hN, Option.bind_some, zww N hN (z181 s).1, Option.bind_some]
        by_cases he : (zsz s).2.1 = 0
        . have hgb : zsz s = ((zsz s).1, 0, ()) := by
            have : (zsz s).2 = ((0 : Int), ()) := by rw [<- he]
            rw [<- this]
          rw [(zut hgb).2.2.2, he]
          simp
        . rw [bne_iff_ne.2 he]
          rfl
      by_cases he : (zvz b).2.1 = 0
      . have hp : zvz b = ((zvz b).1, 0, ()) := by
          have : (zvz b).2 = ((0 : Int), ()) := by rw [<- he]
          rw [<- this]
        obtain ⟨g1, g2⟩ := zyi hp
        rw [zb (by rw [he]; rfl), zwx N hN, g1, Option.bind_some]
        dsimp only
        rw [z2u, bne_self_eq_false, cond_false, zxt N hN hz (by omega), Option.bind_some, Bool.not_true, cond_false, zyt N hN hz, Option.bind_some, <- g2, bne_self_eq_false, cond_false]
        exact rest
      . rw [z14 (by simpa using he)]
        exact rest

end
end Go.Proofs.YtaackaafmidjkaaDoorLg
