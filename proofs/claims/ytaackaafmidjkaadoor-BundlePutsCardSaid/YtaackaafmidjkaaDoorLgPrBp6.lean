import Derived.Test.YtaackaafmidjkaaDoorLgPrBp5
import Derived.Test.YtaackaafmidjkaaDoorLgPrBp1
import Derived.Lib.MapLaws
set_option linter.all false
set_option maxRecDepth 100000
namespace Go.Proofs.YtaackaafmidjkaaDoorLg
noncomputable section
open Go Go.Lift Go.Proofs.YtaackaafmidjkaaDoorPx

def zsr (s : List UInt8) (e f : Int) : List UInt8 × Int := if e ≠ 0 then (s, e) else ([], f)

theorem zze (N : Nat) (s : List UInt8) (e : Int) {f : Int} (hf : f ≠ 0) : zl N (rdr s e) f = some ((), (rdr (zsr s e f).1 (zsr s e f).2, ())) := by
  unfold zsr
  by_cases he : e = 0
  . subst he
    rw [if_neg (by simp)]; exact z15v N s hf
  . rw [if_pos he]; exact z187 N s he f
theorem zvw {s : List UInt8} {e : Int} (h : z93 s e) (f : Int) : z93 (zsr s e f).1 (zsr s e f).2 := by
  unfold zsr
  by_cases he : e = 0
  . subst he
    rw [if_neg (by simp)]; exact zme f
  . rw [if_pos he]; exact h

def zzo (s : List UInt8) : Int × List UInt8 × Int := match s with
  | [] => (0, [], 1)
  | a :: l => ((a.toNat : Int), l, 0)

theorem z1b6 (N : Nat) {s : List UInt8} (hs : s.length <= 1000000) : z13 N (rdr s 0) = some ((zzo s).1, (rdr (zzo s).2.1 (zzo s).2.2, ())) := by
  cases s with
  | nil => rfl
  | cons a l => exact z18g N a l hs
theorem z16c {s : List UInt8} (hs : s.length <= 1000000) : z93 (zzo s).2.1 (zzo s).2.2 := by
  cases s with
  | nil => exact zme 1
  | cons a l => exact ⟨by simp only [List.length_cons] at hs; simp only [zzo]; omega, fun h => absurd rfl h⟩

def z1bg (s : List UInt8) (e : Int) : Int := if s = [] then e else 2

theorem z11e (N : Nat) {s : List UInt8} {e : Int} (h : z93 s e) : z2e N (rdr s e) = some (z1bg s e, (rdr [] (z1bg s e), ())) := by
  cases s with
  | nil =>
    rw [z2e, z3y, show (rdr [] e).2.1 = [] from rfl, zq (by rfl), err_t]
    rfl
  | cons a l =>
    have he : e = 0 := Decidable.byContradiction fun he => by cases h.2 he
    subst he
    rw [z2e, z3y, show (rdr (a :: l) 0).2.1 = a :: l from rfl, z8 (decide_eq_true (by simp only [List.length_cons]; omega)), z15v N _ (by decide)]
    rfl
theorem zz2 {n : Nat} {s' : List UInt8} {most : Int} (hn : n < 18446744073709551616) (hm : (n : Int) <= most) : zp4 (z55 n ++ s') 0 most = ((n : Int), s', 0) := by
  unfold zp4
  rw [if_neg (by simp), z176 hn]
  simp only
  rw [if_neg (by simp), if_neg (by omega), List.drop_left]

end
end Go.Proofs.YtaackaafmidjkaaDoorLg

set_option linter.all false
set_option maxRecDepth 100000
namespace Go.Proofs.YtaackaafmidjkaaDoorLg
noncomputable section
open Go Go.Lift Go.Proofs.YtaackaafmidjkaaDoorPx

abbrev zt8 := List UInt8 × (List UInt8 × Unit)
abbrev z4q := List UInt8 × (List zt8 × (List UInt8 × Unit))

def zfj (l : zt8) : Bool := if l.2.1 = [] then decide (2048 < l.1.length) else decide (4144 < l.1.length) || decide (4144 < l.2.1.length)
def zk0 (t : List UInt8) : List UInt8 := z55 t.length ++ t
def z18b (l : zt8) : List UInt8 := if l.2.1 = [] then (0 : UInt8) :: zk0 l.1 else (1 : UInt8) :: (zk0 l.1 ++ zk0 l.2.1)
def zei : List zt8 -> List UInt8
  | [] => []
  | l :: ls => z18b l ++ zei ls
def zo6 (t : z4q) : List UInt8 := zk0 t.1 ++ (z55 t.2.1.length ++ zei t.2.1)
def zlm (t : z4q) : Int := if 64 < t.2.1.length then 3 else if t.2.1.any zfj then 3 else if 4144 < t.1.length then 3 else 0
def zeo (t : z4q) : Int := if zlm t ≠ 0 then zlm t else if t.2.2.1.length ≠ 32 then 7 else 0
def z1ao (t : z4q) : List UInt8 × Int × Unit := if zeo t ≠ 0 then ([], zeo t, ()) else (zo6 t ++ t.2.2.1, 0, ())

def vE (c : Int) : Value := if c = 0 then .nilIface else eV c

theorem z13m (c : Int) : isIfc (vE c) = true := by unfold vE; split <;> rfl
theorem z13l (c : Int) : isNilV (vE c) = decide (c = 0) := by
  unfold vE
  by_cases h : c = 0
  . rw [if_pos h, decide_eq_true h]; rfl
  . rw [if_neg h, decide_eq_false h]; rfl
theorem z13n (N : Nat) (c : Int) : zcw N (vE c) = some c := by
  unfold vE
  by_cases h : c = 0
  . rw [if_pos h, h]; rfl
  . rw [if_neg h]; rfl

theorem zmu (N : Nat) (s : List UInt8) (m : Int) : z3n N s m = some (vE (if m < (s.length : Int) then 3 else 0)) := by
  rw [z3n]
  by_cases h : m < (s.length : Int)
  . rw [z8 (decide_eq_true h), if_pos h]; rfl
  . rw [zq (decide_eq_false h), if_neg h]; rfl

theorem zy0 (N : Nat) (l : zt8) : z4r N l = some (vE (if zfj l then 3 else 0)) := by
  rw [z4r, zmu, zmu, zmu]
  simp only [Option.bind_some, z13m, z13l, cond_true]
  unfold zfj
  by_cases h : l.2.1 = []
  . rw [z8 (by rw [h]; rfl), if_pos h]
    by_cases h1 : 2048 < l.1.length
    . rw [if_pos (by omega), if_pos (decide_eq_true h1)]
    . rw [if_neg (by omega), if_neg (by simpa using h1)]
  . rw [zq (beq_eq_false_iff_ne.2 h), if_neg h]
    by_cases h1 : 4144 < l.1.length
    . rw [if_pos (by omega), z8 (by rfl), if_pos (by simp [h1])]
    . rw [if_neg (by omega), zq (by rfl)]
      by_cases h2 : 4144 < l.2.1.length
      . rw [if_pos (by omega), if_pos (by simp [h2])]
      . rw [if_neg (by omega), if_neg (by simp [h1, h2])]

theorem z137 (N : Nat) (t : z4q) (l : List zt8) (hl : l.length < N) (hl' : l.length <= 1000000) (K : Option Value) :
    z7a N t l ((l.length : Nat) : Int) 0 (fun x2 => some x2) K = cond (l.any zfj) (some (vE 3)) K := by
  rw [z7a]
  refine (z4x (fun v => ∃ i : Nat, v = (i : Int) /\ i <= l.length) (fun v => ((l.length : Int) - v).toNat) (fun v => cond ((l.drop v.toNat).any zfj) (some (vE 3)) K) ?_ N 0 ⟨0, rfl, by omega⟩ (by omega)).trans (by rfl)
  rintro _ r ⟨i, rfl, hi⟩ hr
  simp only [Int.toNat_natCast]
  rw [z79]
  by_cases hlt : i < l.length
  . rw [z8 (decide_eq_true (by omega)), z8 (z2u hlt), Int.toNat_natCast, zo9 l (([] : List UInt8), (([] : List UInt8), ())) i hlt, zy0, Option.bind_some, z13m, cond_true, z13l]
    generalize l.getD i (([] : List UInt8), (([] : List UInt8), ())) = v
    simp only [List.any_cons]
    cases hv : zfj v with
    | true => rfl
    | false =>
      rw [z2f (by omega), hr _ ⟨i + 1, rfl, by omega⟩ (by omega)]
      rfl
  . rw [zq (decide_eq_false (by omega)), zo8 l (by omega)]; rfl

theorem zqb (N : Nat) (hN : 100 < N) (t : z4q) : z35 N t = some (vE (zlm t)) := by
  rw [z35]
  unfold zlm
  by_cases h : 64 < t.2.1.length
  . rw [z8 (decide_eq_true (by omega)), if_pos h]; rfl
  . rw [zq (decide_eq_false (by omega)), if_neg h, z137 N t _ (by omega) (by omega), zmu, Option.bind_some]
    cases h1 : t.2.1.any zfj with
    | true => rfl
    | false =>
      rw [cond_false, if_neg (show ¬ (false = true) by simp)]
      by_cases h2 : 4144 < t.1.length
      . rw [if_pos (by omega), if_pos h2]
      . rw [if_neg (by omega), if_neg h2]

theorem z18d (N : Nat) (hN : 100 < N) (t : z4q) : zbf N t = some (vE (zeo t)) := by
  rw [zbf, zqb N hN, Option.bind_some, z13m, cond_true, z13l]
  unfold zeo
  by_cases h : zlm t = 0
  . rw [zq (by rw [h]; rfl), if_neg (by simpa using h)]
    by_cases h1 : t.2.2.1.length = 32
    . rw [zq (by rw [h1]; rfl), if_neg (by simpa using h1)]; rfl
    . rw [z8 (by rw [bne_iff_ne]; omega), if_pos h1]; rfl
  . rw [z8 (by rw [decide_eq_false h]; rfl), if_pos h]

def Sz (t : z4q) : Prop := t.1.length <= 6000 /\ t.2.1.length <= 70 /\ (∀ l ∈ t.2.1, l.1.length <= 6000 /\ l.2.1.length <= 6000) /\ t.2.2.1.length <= 6000

theorem z95 (t : List UInt8) : (zk0 t).length <= 10 + t.length := by
  have := (z4i t.length).2
  unfold zk0; rw [List.length_append]; omega

theorem z18a {l : zt8} (h : l.1.length <= 6000 /\ l.2.1.length <= 6000) : (z18b l).length <= 12021 := by
  have h1 := z95 l.1
  have h2 := z95 l.2.1
  unfold z18b
  split <;> simp only [List.length_cons, List.length_append] <;> omega

theorem z191 (N : Nat) {o : List UInt8} (b : UInt8) (h : o.length + 1 <= 1000000) : z18 N ((), (ofStr o, ())) ((b.toNat : Nat) : Int) = some (Go.Value.nilIface, (((), (ofStr (o ++ [b]), ())), ())) := by
  rw [z18]
  simp only [zj6]
  rw [z8 (decide_eq_true (by omega))]
  simp [ofStr]

theorem z13k (N : Nat) {o s : List UInt8} (h : o.length + s.length <= 1000000) : zb N ((), (ofStr o, ())) s = some ((((s.length : Nat) : Int), (Go.Value.nilIface, ())), (((), (ofStr (o ++ s), ())), ())) := by
  rw [zb]
  simp only [zj6]
  rw [z8 (decide_eq_true (by omega))]
  simp [ofStr]

theorem z17r (s : List UInt8) : zp3 (ofStr s) = true := by
  unfold zp3 ofStr
  rw [List.all_map, List.all_eq_true]
  intro b _
  have := b.toNat_lt
  simp only [Function.comp, Bool.and_eq_true, decide_eq_true_eq]
  omega

theorem z16h (N : Nat) (hN : 100 < N) (l : List zt8) (hl : l.length <= 70) (hz : ∀ x ∈ l, x.1.length <= 6000 /\ x.2.1.length <= 6000) (out : List UInt8) (ho : out.length <= 7000) :
    zgb N ((), (ofStr out, ())) l ((l.length : Nat) : Int) 0 (fun out => (zyi (out, ())).bind fun y4 => some y4.1) = some (out ++ zei l) := by
  rw [zgb]
  refine (z4x (fun v => ∃ i : Nat, ∃ o : List UInt8, v.1 = ((), (ofStr o, ())) /\ v.2 = (i : Int) /\ i <= l.length /\ o.length <= 7000 + 12100 * i) (fun v => ((l.length : Int) - v.2).toNat) (fun v => some (toStr v.1.2.1 ++ zei (l.drop v.2.toNat))) ?_ N (((), (ofStr out, ())), 0) ⟨0, out, rfl, rfl, by omega, by simpa using ho⟩ (by simp only; omega)).trans (by simp only [z8p]; rfl)
  rintro ⟨o, i⟩ r ⟨i, o, rfl, rfl, hi, hlen⟩ hr
  try simp only at hlen
  simp only [Int.toNat_natCast, z8p]
  rw [zga]
  by_cases hlt : i < l.length
  . rw [z8 (decide_eq_true (by omega)), z8 (z2u hlt), Int.toNat_natCast, zo9 l (([] : List UInt8), (([] : List UInt8), ())) i hlt]
    have hv : (l.getD i (([] : List UInt8), (([] : List UInt8), ()))).1.length <= 6000 /\ (l.getD i (([] : List UInt8), (([] : List UInt8), ()))).2.1.length <= 6000 := hz _ (by
      rw [List.getD_eq_getElem?_getD, List.getElem?_eq_getElem hlt, Option.getD_some]; exact List.getElem_mem hlt)
    generalize l.getD i (([] : List UInt8), (([] : List UInt8), ())) = v at hv ⊢
    have h1 := z95 v.1
    have h2 := z95 v.2.1
    have b0 := z191 N (o := o) 0 (by omega)
    have b1 := z191 N (o := o) 1 (by omega)
    rw [show (((0 : UInt8).toNat : Nat) : Int) = 0 from rfl] at b0
    rw [show (((1 : UInt8).toNat : Nat) : Int) = 1 from rfl] at b1
    by_cases he : v.2.1 = []
    . rw [z8 (by rw [he]; rfl), b0, Option.bind_some, zo1 N (by omega) (by omega), Option.bind_some]
      simp only
      rw [show z55 v.1.length ++ v.1 = zk0 v.1 from rfl, z13k N (by simp only [List.length_append, List.length_cons, List.length_nil]; omega), Option.bind_some, z2f (by omega)]
      simp only
      rw [hr _ ⟨i + 1, _, rfl, rfl, by omega, by simp only [List.length_append, List.length_cons, List.length_nil]; omega⟩ (by simp only; omega)]
      simp only [Int.toNat_natCast, z8p, zei, z18b, if_pos he, List.append_assoc, List.cons_append, List.nil_append]
    . rw [zq (beq_eq_false_iff_ne.2 he), b1, Option.bind_some, zo1 N (by omega) (by omega), Option.bind_some]
      simp only
      rw [show z55 v.1.length ++ v.1 = zk0 v.1 from rfl, z13k N (by simp only [List.length_append, List.length_cons, List.length_nil]; omega), Option.bind_some, zo1 N (by omega) (by omega), Option.bind_some]
      simp only
      rw [show z55 v.2.1.length ++ v.2.1 = zk0 v.2.1 from rfl, z13k N (by simp only [List.length_append, List.length_cons, List.length_nil]; omega), Option.bind_some, z2f (by omega)]
      simp only
      rw [hr _ ⟨i + 1, _, rfl, rfl, by omega, by simp only [List.length_append, List.length_cons, List.length_nil]; omega⟩ (by simp only; omega)]
      simp only [Int.toNat_natCast, z8p, zei, z18b, if_neg he, List.append_assoc, List.cons_append, List.nil_append]
  . rw [zq (decide_eq_false (by omega)), zo8 l (by omega), zei]
    simp only [zyi]
    rw [z17r, Bool.true_and, z8 (decide_eq_true (by rw [zj6]; omega)), z8p, List.append_nil]
    rfl

theorem z16i (N : Nat) (hN : 100 < N) {t : z4q} (h : Sz t) : zb4 N t = some (zo6 t) := by
  obtain ⟨h1, h2, h3, h4⟩ := h
  have hx := z95 t.1
  have hp := z4i t.2.1.length
  rw [zb4, zo1 N (by omega) (by omega), Option.bind_some]
  have hw := z13k N (o := []) (s := zk0 t.1) (by simp only [List.length_nil]; omega)
  rw [show (ofStr [] : List Int) = [] from rfl] at hw
  rw [show z55 t.1.length ++ t.1 = zk0 t.1 from rfl, hw, Option.bind_some, z28 (by omega), zvs N (by omega) (by omega), Option.bind_some]
  simp only
  rw [z13k N (by simp only [List.length_nil, List.nil_append]; omega), Option.bind_some]
  simp only
  rw [z16h N hN _ h2 h3 _ (by simp only [List.length_append, List.length_nil]; omega)]
  simp only [zo6, List.nil_append, List.append_assoc]

theorem zxt : ∀ {l : List zt8}, (∀ x ∈ l, x.1.length <= 6000 /\ x.2.1.length <= 6000) -> (zei l).length <= 12021 * l.length
  | [], _ => by simp [zei]
  | x :: l, h => by
    have h1 := z18a (h x (List.mem_cons_self ..))
    have h2 := zxt (l := l) (fun y hy => h y (List.mem_cons_of_mem _ hy))
    simp only [zei, List.length_append, List.length_cons]; omega

theorem zaz {t : z4q} (h : Sz t) : (zo6 t).length <= 900000 := by
  obtain ⟨h1, h2, h3, h4⟩ := h
  have hx := z95 t.1
  have hp := z4i t.2.1.length
  have hl := zxt h3
  unfold zo6
  simp only [List.length_append]; omega

theorem z1ab (N : Nat) (hN : 100 < N) {t : z4q} (h : Sz t) : zev N t = some (z1ao t) := by
  have hl := zaz h
  have h4 := h.2.2.2
  rw [zev, z18d N hN, Option.bind_some, z13n, Option.bind_some]
  unfold z1ao
  by_cases hb : zeo t = 0
  . rw [zq (by rw [hb]; rfl), if_neg (by simpa using hb), z16i N hN h, Option.bind_some, z8 (decide_eq_true (by omega))]
  . rw [z8 (by rw [bne_iff_ne]; exact hb), if_pos hb]

theorem z172 (N : Nat) (hN : 100 < N) {t : z4q} (h : Sz t) : zeu N t = some (if zlm t = 0 then (((zo6 t).length + 32 : Nat) : Int) else 0) := by
  have hl := zaz h
  rw [zeu, zqb N hN, Option.bind_some, z13n, Option.bind_some]
  by_cases hb : zlm t = 0
  . rw [zq (by rw [hb]; rfl), if_pos hb, z16i N hN h, Option.bind_some, zb7 (by unfold I64; omega)]
    rfl
  . rw [z8 (by rw [bne_iff_ne]; exact hb), if_neg hb]

theorem z17f (N : Nat) (l : zt8) : z46 N l = some (zfj l) := by
  rw [z46]
  unfold zfj
  by_cases h : l.2.1 = []
  . rw [z8 (by rw [h]; rfl), if_pos h]
    congr 1
    rw [Bool.eq_iff_iff, decide_eq_true_iff, decide_eq_true_iff]; omega
  . rw [zq (beq_eq_false_iff_ne.2 h), if_neg h]
    by_cases h1 : 4144 < l.1.length
    . rw [z8 (decide_eq_true (by omega)), decide_eq_true h1]; rfl
    . rw [zq (decide_eq_false (by omega)), decide_eq_false h1, Bool.false_or]
      congr 1
      rw [Bool.eq_iff_iff, decide_eq_true_iff, decide_eq_true_iff]; omega

theorem z1bv : toStr ([(Go.IntKind.wrap Go.IntKind.u8 (0 : Int))] : List Int) = [(0 : UInt8)] := by decide
theorem z1bu : toStr ([(Go.IntKind.wrap Go.IntKind.u8 (1 : Int))] : List Int) = [(1 : UInt8)] := by decide

theorem z149 (N : Nat) (hN : 100 < N) (t : z4q) (h : Sz t) (out : List UInt8) (ho : out.length <= 7000) (K : List UInt8 -> Option (List UInt8 × Int × Unit)) :
    z7j N t out 0 (fun x2 x3 => some (x2, (x3, ()))) K = cond (t.2.1.any zfj) (some ([], (3, ()))) (K (out ++ zei t.2.1)) := by
  obtain ⟨_, hl, hz, _⟩ := h
  rw [z7j]
  refine (z4x (fun v => ∃ i : Nat, v.2 = (i : Int) /\ i <= t.2.1.length /\ v.1.length <= 7000 + 12100 * i) (fun v => ((t.2.1.length : Int) - v.2).toNat) (fun v => cond ((t.2.1.drop v.2.toNat).any zfj) (some ([], (3, ()))) (K (v.1 ++ zei (t.2.1.drop v.2.toNat)))) ?_ N (out, 0) ⟨0, rfl, by omega, by simpa using ho⟩ (by simp only; omega)).trans (by rfl)
  rintro ⟨o, i⟩ r ⟨i, rfl, hi, hlen⟩ hr
  try simp only at hlen
  simp only [Int.toNat_natCast]
  rw [z7h]
  by_cases hlt : i < t.2.1.length
  . rw [z8 (decide_eq_true (by omega)), z7i, z8 (z2u hlt), Int.toNat_natCast, zo9 t.2.1 (([] : List UInt8), (([] : List UInt8), ())) i hlt, z17f, Option.bind_some]
    have hv : (t.2.1.getD i (([] : List UInt8), (([] : List UInt8), ()))).1.length <= 6000 /\ (t.2.1.getD i (([] : List UInt8), (([] : List UInt8), ()))).2.1.length <= 6000 := hz _ (by
      rw [List.getD_eq_getElem?_getD, List.getElem?_eq_getElem hlt, Option.getD_some]; exact List.getElem_mem hlt)
    generalize t.2.1.getD i (([] : List UInt8), (([] : List UInt8), ())) = v at hv ⊢
    have h1 := z95 v.1
    have h2 := z95 v.2.1
    simp only [List.any_cons]
    cases hlv : zfj v with
    | true => rfl
    | false =>
      rw [cond_false, Bool.false_or, z1bv, z1bu]
      by_cases he : v.2.1 = []
      . rw [z8 (by rw [he]; rfl), z8 (decide_eq_true (by simp only [List.length_cons, List.length_nil]; omega)), zf1 N (by omega) (by omega), Option.bind_some, show z55 v.1.length ++ v.1 = zk0 v.1 from rfl, z8 (decide_eq_true (by simp only [List.length_append, List.length_cons, List.length_nil]; omega)), z2f (by omega)]
        rw [hr _ ⟨i + 1, rfl, by omega, by simp only [List.length_append, List.length_cons, List.length_nil]; omega⟩ (by simp only; omega)]
        simp only [Int.toNat_natCast, zei, z18b, if_pos he, List.append_assoc, List.cons_append, List.nil_append]
      . rw [zq (beq_eq_false_iff_ne.2 he), z8 (decide_eq_true (by simp only [List.length_cons, List.length_nil]; omega)), zf1 N (by omega) (by omega), Option.bind_some, show z55 v.1.length ++ v.1 = zk0 v.1 from rfl, z8 (decide_eq_true (by simp only [List.length_append, List.length_cons, List.length_nil]; omega)),
          zf1 N (by omega) (by omega), Option.bind_some, show z55 v.2.1.length ++ v.2.1 = zk0 v.2.1 from rfl, z8 (decide_eq_true (by simp only [List.length_append, List.length_cons, List.length_nil]; omega)), z2f (by omega)]
        rw [hr _ ⟨i + 1, rfl, by omega, by simp only [List.length_append, List.length_cons, List.length_nil]; omega⟩ (by simp only; omega)]
        simp only [Int.toNat_natCast, zei, z18b, if_neg he, List.append_assoc, List.cons_append, List.nil_append]
  . rw [zq (decide_eq_false (by omega)), zo8 t.2.1 (by omega), zei, List.append_nil]; rfl

theorem z14a (N : Nat) (hN : 100 < N) {t : z4q} (h : Sz t) : z3a N t = some (z1ao t) := by
  have hl := zaz h
  have hx := z95 t.1
  have hp := z4i t.2.1.length
  obtain ⟨h1, h2, h3, h4⟩ := h
  rw [z3a, z7l, z7k]
  unfold z1ao zeo zlm
  by_cases c1 : 4144 < t.1.length
  . rw [z8 (decide_eq_true (by omega)), cond_true]
    rw [show (if 64 < t.2.1.length then (3 : Int) else if t.2.1.any zfj = true then 3 else if 4144 < t.1.length then 3 else 0) = 3 by split; rfl; split; rfl; first | rfl | exact if_pos c1]
    rfl
  . rw [zq (decide_eq_false (by omega))]
    by_cases c2 : 64 < t.2.1.length
    . rw [z8 (decide_eq_true (by omega)), if_pos c2]; rfl
    . rw [zq (decide_eq_false (by omega)), if_neg c2, if_neg c1, zf1 N (by omega) (by omega), Option.bind_some, z28 (by omega), zyq N (by omega) (by omega), Option.bind_some, show z55 t.1.length ++ t.1 = zk0 t.1 from rfl, z8 (decide_eq_true (by omega)),
        z149 N hN t ⟨h1, h2, h3, h4⟩ _ (by simp only [List.length_append]; omega)]
      cases c3 : t.2.1.any zfj with
      | true => rfl
      | false =>
        rw [cond_false, if_neg (show ¬ (false = true) by simp)]
        by_cases c4 : t.2.2.1.length = 32
        . have he : zk0 t.1 ++ z55 t.2.1.length ++ zei t.2.1 = zo6 t := by rw [zo6, List.append_assoc]
          rw [zq (by rw [c4]; rfl), he, z8 (decide_eq_true (by omega)), if_neg (by rw [if_neg (by simp), if_neg (by simpa using c4)]; simp)]
        . rw [z8 (by rw [bne_iff_ne]; omega), if_neg (show ¬ ((0 : Int) ≠ 0) by simp), if_pos c4]; rfl

end
end Go.Proofs.YtaackaafmidjkaaDoorLg

set_option linter.all false
set_option maxRecDepth 100000
namespace Go.Proofs.YtaackaafmidjkaaDoorLg
noncomputable section
open Go Go.Lift Go.Proofs.YtaackaafmidjkaaDoorPx

def z4p (s : List UInt8) (e : Int) : Int × List UInt8 × Int := if e ≠ 0 then (0, s, e) else zzo s

theorem z11i (N : Nat) {s : List UInt8} {e : Int} (h : z93 s e) : z13 N (rdr s e) = some ((z4p s e).1, (rdr (z4p s e).2.1 (z4p s e).2.2, ())) := by
  unfold z4p
  by_cases he : e = 0
  . subst he; rw [if_neg (by simp)]; exact z1b6 N h.1
  . rw [if_pos he]; exact z18j N s he

theorem zsx {s : List UInt8} {e : Int} (h : z93 s e) : z93 (z4p s e).2.1 (z4p s e).2.2 := by
  unfold z4p
  by_cases he : e = 0
  . subst he; rw [if_neg (by simp)]; exact z16c h.1
  . rw [if_pos he]; exact h

def l0 (s : List UInt8) (e : Int) := zew (z4p s e).2.1 (z4p s e).2.2 2048
def l1 (s : List UInt8) (e : Int) := zew (z4p s e).2.1 (z4p s e).2.2 4144
def l2 (s : List UInt8) (e : Int) := zew (l1 s e).2.1 (l1 s e).2.2 4144

def zpa (s : List UInt8) (e : Int) : zt8 × (List UInt8 × Int) :=
 if (z4p s e).1 = 0 then (((l0 s e).1, ([], ())), (l0 s e).2)
 else if (z4p s e).1 = 1 then (((l1 s e).1, ((l2 s e).1, ())), if (l2 s e).1 = [] then zsr (l2 s e).2.1 (l2 s e).2.2 2 else (l2 s e).2)
 else (([], ([], ())), zsr (z4p s e).2.1 (z4p s e).2.2 2)

theorem z114 {s : List UInt8} {e : Int} (h : z93 s e) : z93 (zpa s e).2.1 (zpa s e).2.2 := by
  have hb := zsx h
  have h0 : z93 (l0 s e).2.1 (l0 s e).2.2 := zjv hb
  have h1 : z93 (l1 s e).2.1 (l1 s e).2.2 := zjv hb
  have h2 : z93 (l2 s e).2.1 (l2 s e).2.2 := zjv h1
  unfold zpa
  split
  . exact h0
  . split
    . show z93 (if (l2 s e).1 = [] then zsr (l2 s e).2.1 (l2 s e).2.2 2 else (l2 s e).2).1 (if (l2 s e).1 = [] then zsr (l2 s e).2.1 (l2 s e).2.2 2 else (l2 s e).2).2
      split
      . exact zvw h2 2
      . exact h2
    . exact zvw hb 2

theorem z12z (N : Nat) (hN : 20 < N) {s : List UInt8} {e : Int} (h : z93 s e) : z78 N (rdr s e) = some ((zpa s e).1, (rdr (zpa s e).2.1 (zpa s e).2.2, ())) := by
  have hb := zsx h
  have h1 : z93 (l1 s e).2.1 (l1 s e).2.2 := zjv hb
  have q0 : zn N (rdr (z4p s e).2.1 (z4p s e).2.2) 2048 = some ((l0 s e).1, (rdr (l0 s e).2.1 (l0 s e).2.2, ())) := zrk N hN hb (by decide)
  have q1 : zn N (rdr (z4p s e).2.1 (z4p s e).2.2) 4144 = some ((l1 s e).1, (rdr (l1 s e).2.1 (l1 s e).2.2, ())) := zrk N hN hb (by decide)
  have q2 : zn N (rdr (l1 s e).2.1 (l1 s e).2.2) 4144 = some ((l2 s e).1, (rdr (l2 s e).2.1 (l2 s e).2.2, ())) := zrk N hN h1 (by decide)
  rw [z78, z11i N h, Option.bind_some]
  unfold zpa
  by_cases c0 : (z4p s e).1 = 0
  . rw [z8 (beq_iff_eq.2 c0), if_pos c0, q0]; rfl
  . rw [zq (beq_eq_false_iff_ne.2 c0), if_neg c0]
    by_cases c1 : (z4p s e).1 = 1
    . rw [z8 (beq_iff_eq.2 c1), if_pos c1, q1, Option.bind_some, q2, Option.bind_some]
      by_cases c2 : (l2 s e).1 = []
      . rw [z8 (beq_iff_eq.2 c2), if_pos c2, zze N _ _ (by decide)]; rfl
      . rw [zq (beq_eq_false_iff_ne.2 c2), if_neg c2]
    . rw [zq (beq_eq_false_iff_ne.2 c1), if_neg c1, zze N _ _ (by decide)]; rfl

def zdq : Nat -> List UInt8 -> Int -> List zt8 -> List zt8 × (List UInt8 × Int)
  | 0, s, e, acc => (acc, (s, e))
  | n + 1, s, e, acc => zdq n (zpa s e).2.1 (zpa s e).2.2 (acc ++ [(zpa s e).1])

theorem zxf : ∀ (n : Nat) {s : List UInt8} {e : Int} (acc : List zt8), z93 s e -> z93 (zdq n s e acc).2.1 (zdq n s e acc).2.2
  | 0, _, _, _, h => h
  | n + 1, _, _, _, h => zxf n _ (z114 h)

theorem z15l (N : Nat) (hN : 100 < N) {s : List UInt8} {e : Int} (h : z93 s e) (n : Nat) (hn : n <= 64) (x2 : z4q) (id : List UInt8) (K : RdrT.den -> z4q -> Option (z4q × Int × Unit)) :
    zi8 N x2 (rdr s e) (id, ([], ([], ()))) (n : Int) 0 K = K (rdr (zdq n s e []).2.1 (zdq n s e []).2.2) (id, ((zdq n s e []).1, ([], ()))) := by
  rw [zi8]
  refine (z4x (fun v => ∃ i s e acc, v = (rdr s e, ((id, (acc, ([], ()))), ((i : Nat) : Int))) /\ i <= n /\ z93 s e /\ acc.length = i) (fun v => ((n : Int) - v.2.2).toNat) (fun v => K (rdr (zdq (n - v.2.2.toNat) v.1.2.1 v.1.2.2.1 v.2.1.2.1).2.1 (zdq (n - v.2.2.toNat) v.1.2.1 v.1.2.2.1 v.2.1.2.1).2.2) (id, ((zdq (n - v.2.2.toNat) v.1.2.1 v.1.2.2.1 v.2.1.2.1).1, ([], ())))) ?_ N (rdr s e, ((id, ([], ([], ()))), 0)) ⟨0, s, e, [], rfl, by omega, h, rfl⟩ (by simp only; omega)).trans (by rfl)
  rintro _ r ⟨i, s, e, acc, rfl, hi, hinv, hacc⟩ hr
  simp only [Int.toNat_natCast]
  rw [zi6]
  by_cases hlt : i < n
  . rw [z8 (decide_eq_true (by omega)), z12z N (by omega) hinv, Option.bind_some]
    simp only
    rw [z8 (decide_eq_true (by omega)), show (((i : Nat) : Int) + 1) = ((i + 1 : Nat) : Int) from rfl, z28 (by omega)]
    rw [hr _ ⟨i + 1, _, _, _, rfl, by omega, z114 hinv, by simp [hacc]⟩ (by simp only; omega)]
    simp only [Int.toNat_natCast]
    rw [show n - i = (n - (i + 1)) + 1 by omega]
    rfl
  . rw [zq (decide_eq_false (by omega)), show n - i = 0 by omega]
    rfl

def zyg : Nat -> Nat -> List UInt8 -> Int -> List Int -> List Int × (List UInt8 × Int)
  | 0, _, s, e, tag => (tag, (s, e))
  | k + 1, i, s, e, tag => zyg k (i + 1) (z4p s e).2.1 (z4p s e).2.2 (tag.set i (z4p s e).1)

theorem zyf : ∀ (k i : Nat) {s : List UInt8} {e : Int} (tag : List Int), e ≠ 0 -> (zyg k i s e tag).2 = (s, e)
  | 0, _, _, _, _, _ => rfl
  | k + 1, i, s, e, tag, h => by
    have hb : z4p s e = (0, s, e) := by unfold z4p; rw [if_pos h]
    rw [zyg, hb]
    exact zyf k (i + 1) _ h

theorem z192 : ∀ (k i : Nat) (s : List UInt8) (tag : List Int), tag.length = i + k -> k <= s.length -> zyg k i s 0 tag = (tag.take i ++ ofStr (s.take k), (s.drop k, 0))
  | 0, i, s, tag, h, _ => by
    rw [zyg, List.take_of_length_le (by omega)]
    simp [ofStr]
  | k + 1, i, [], tag, h, hk => by simp at hk
  | k + 1, i, a :: s, tag, h, hk => by
    have hb : z4p (a :: s) 0 = ((a.toNat : Int), s, 0) := by unfold z4p; rw [if_neg (by simp)]; rfl
    simp only [List.length_cons] at hk
    rw [zyg, hb]
    simp only
    rw [z192 k (i + 1) s _ (by rw [List.length_set]; omega) (by omega), List.take_set, List.take_succ_cons, List.drop_succ_cons]
    have hi : i < tag.length := by omega
    congr 1
    have : (tag.take (i + 1)).set i (a.toNat : Int) = tag.take i ++ [(a.toNat : Int)] := by
      rw [List.take_succ, List.getElem?_eq_getElem hi, Option.toList_some, List.set_append_right _ _ (by rw [List.length_take]; omega), List.length_take, Nat.min_eq_left (by omega), Nat.sub_self]
      rfl
    rw [this, List.append_assoc]
    simp [ofStr]

theorem zwo : ∀ (k i : Nat) (s : List UInt8) (tag : List Int), s.length < k -> (zyg k i s 0 tag).2 = ([], 1)
  | 0, i, s, tag, h => by omega
  | k + 1, i, [], tag, _ => by
    have hb : z4p [] 0 = (0, [], 1) := by unfold z4p; rw [if_neg (by simp)]; rfl
    rw [zyg, hb]
    exact zyf k (i + 1) _ (by decide)
  | k + 1, i, a :: s, tag, h => by
    have hb : z4p (a :: s) 0 = ((a.toNat : Int), s, 0) := by unfold z4p; rw [if_neg (by simp)]; rfl
    simp only [List.length_cons] at h
    rw [zyg, hb]
    exact zwo k (i + 1) s _ (by omega)

theorem z1ay (N : Nat) (hN : 100 < N) {s : List UInt8} {e : Int} (h : z93 s e) (x2 t : z4q) (K : RdrT.den -> List Int -> Option (z4q × Int × Unit)) :
    zi7 N x2 (rdr s e) t (List.replicate 32 (0 : Int)) (((List.length (List.replicate 32 (0 : Int))) : Nat) : Int) 0 K = K (rdr (zyg 32 0 s e (List.replicate 32 0)).2.1 (zyg 32 0 s e (List.replicate 32 0)).2.2) (zyg 32 0 s e (List.replicate 32 0)).1 := by
  rw [zi7, show (((List.length (List.replicate 32 (0 : Int))) : Nat) : Int) = 32 from rfl]
  refine (z4x (fun v => ∃ i s e tag, v = (rdr s e, (tag, ((i : Nat) : Int))) /\ i <= 32 /\ z93 s e /\ tag.length = 32) (fun v => ((32 : Int) - v.2.2).toNat) (fun v => K (rdr (zyg (32 - v.2.2.toNat) v.2.2.toNat v.1.2.1 v.1.2.2.1 v.2.1).2.1 (zyg (32 - v.2.2.toNat) v.2.2.toNat v.1.2.1 v.1.2.2.1 v.2.1).2.2) (zyg (32 - v.2.2.toNat) v.2.2.toNat v.1.2.1 v.1.2.2.1 v.2.1).1) ?_ N (rdr s e, (List.replicate 32 0, 0)) ⟨0, s, e, _, rfl, by omega, h, rfl⟩ (by simp only; omega)).trans (by rfl)
  rintro _ r ⟨i, s, e, tag, rfl, hi, hinv, htag⟩ hr
  simp only [Int.toNat_natCast]
  rw [zi5]
  by_cases hlt : i < 32
  . rw [z8 (decide_eq_true (by omega)), z11i N hinv, Option.bind_some, z8 (z2u (by omega)), z8 (decide_eq_true (by rw [Int.toNat_natCast]; omega)), z2f (by omega)]
    simp only [Int.toNat_natCast]
    rw [hr _ ⟨i + 1, _, _, _, rfl, by omega, zsx hinv, by rw [List.length_set]; exact htag⟩ (by simp only; omega)]
    simp only [Int.toNat_natCast]
    rw [show 32 - i = (32 - (i + 1)) + 1 by omega]
    rfl
  . rw [zq (decide_eq_false (by omega)), show 32 - i = 0 by omega]
    rfl

def zmt : z4q := ([], ([], ([], ())))
def gi (s : List UInt8) := zew s 0 4144
def gn (s : List UInt8) := zp4 (gi s).2.1 (gi s).2.2 64
def gl (s : List UInt8) := zdq (gn s).1.toNat (gn s).2.1 (gn s).2.2 []

def z1bf (s : List UInt8) : z4q × Int × Unit :=
 if (gl s).2.2 ≠ 0 then (zmt, (gl s).2.2, ())
 else if (gl s).2.1.length < 32 then (zmt, 1, ())
 else if 32 < (gl s).2.1.length then (zmt, 2, ())
 else (((gi s).1, ((gl s).1, ((gl s).2.1, ()))), 0, ())

theorem z19b {s : List UInt8} {e m : Int} (hm : 0 <= m) : (zp4 s e m).1 <= m := by
  unfold zp4
  split
  . exact hm
  . split
    . exact hm
    . split
      . exact hm
      . rename_i h; simp only; omega

theorem z1c6 {s : List UInt8} (hs : s.length <= 1000000) : z93 (gi s).2.1 (gi s).2.2 /\ z93 (gn s).2.1 (gn s).2.2 /\ z93 (gl s).2.1 (gl s).2.2 /\ (∃ n : Nat, (gn s).1 = (n : Int) /\ n <= 64) := by
  have h0 : z93 s 0 := ⟨hs, fun h => absurd rfl h⟩
  have h1 : z93 (gi s).2.1 (gi s).2.2 := zjv h0
  have h2 : z93 (gn s).2.1 (gn s).2.2 := zvk h1
  have h3 := z14v (gi s).2.1 (gi s).2.2 64
  have h4 := z19b (s := (gi s).2.1) (e := (gi s).2.2) (m := 64) (by decide)
  exact ⟨h1, h2, zxf _ _ h2, (gn s).1.toNat, by unfold gn; omega, by unfold gn; omega⟩

theorem z1ac (N : Nat) (hN : 100 < N) {s : List UInt8} (hs : s.length <= 1000000) : zi9 N s = some (z1bf s) := by
  obtain ⟨i1, i2, i3, n, hn, hn'⟩ := z1c6 hs
  have h0 : z93 s 0 := ⟨hs, fun h => absurd rfl h⟩
  have q1 : zn N (true, (s, ((0 : Int), ()))) 4144 = some ((gi s).1, (rdr (gi s).2.1 (gi s).2.2, ())) := zrk N (by omega) h0 (by decide)
  have q2 : z20 N (rdr (gi s).2.1 (gi s).2.2) 64 = some ((gn s).1, (rdr (gn s).2.1 (gn s).2.2, ())) := z19c N (by omega) i1 64
  have hgl : zdq n (gn s).2.1 (gn s).2.2 [] = gl s := by unfold gl; rw [hn, Int.toNat_natCast]
  rw [zi9, q1, Option.bind_some, q2, Option.bind_some]
  simp only
  rw [hn, z15l N hN i2 n hn', hgl, z1ay N hN i3]
  simp only
  unfold z1bf
  by_cases he : (gl s).2.2 = 0
  . rw [he] at i3 ⊢
    rw [if_neg (by simp)]
    by_cases hl : (gl s).2.1.length < 32
    . have ht := zwo 32 0 (gl s).2.1 (List.replicate 32 0) hl
      rw [ht, if_pos hl, z11e N (zme 1), Option.bind_some]
      rfl
    . have ht := z192 32 0 (gl s).2.1 (List.replicate 32 0) rfl (by omega)
      have hd : z93 ((gl s).2.1.drop 32) 0 := zvq i3.1 32
      rw [ht, if_neg hl, z11e N hd, Option.bind_some]
      simp only
      unfold z1bg
      by_cases hm : 32 < (gl s).2.1.length
      . rw [if_neg (show (gl s).2.1.drop 32 ≠ [] from fun h => by have := congrArg List.length h; rw [List.length_drop] at this; simp at this; omega), if_pos hm]
        rfl
      . rw [if_pos (List.drop_of_length_le (by omega)), if_neg hm, List.take_zero, List.nil_append, z8p, List.take_of_length_le (by omega)]
        rfl
  . have ht := zyf 32 0 (s := (gl s).2.1) (List.replicate 32 0) he
    rw [ht, if_pos he, i3.2 he, z11e N (zme _), Option.bind_some]
    simp only [z1bg, if_true]
    rw [z8 (bne_iff_ne.2 he)]
    rfl

end
end Go.Proofs.YtaackaafmidjkaaDoorLg

set_option linter.all false
set_option maxRecDepth 100000
namespace Go.Proofs.YtaackaafmidjkaaDoorLg
noncomputable section
open Go Go.Lift Go.Proofs.YtaackaafmidjkaaDoorPx

theorem z13s {t s' : List UInt8} {m : Nat} (hm : m < 1000000) (ht : t.length <= m) : zew (z55 t.length ++ t ++ s') 0 (m : Int) = (t, s', 0) := by
  unfold zew zye
  rw [if_neg (show ¬ ((m : Nat) : Int) < 0 by omega), List.append_assoc, zz2 (by omega) (by omega)]
  simp only
  rw [if_neg (by simp), if_neg (by simp only [List.length_append]; omega), Int.toNat_natCast, List.take_left, List.drop_left]


theorem zia {t s' : List UInt8} {m : Nat} (hm : m < 1000000) (ht : t.length <= m) : zew (zk0 t ++ s') 0 (m : Int) = (t, s', 0) := by
  have := z13s (s' := s') hm ht
  unfold zk0
  exact this

theorem z17x {l : zt8} (h : zfj l = false) (s' : List UInt8) : zpa (z18b l ++ s') 0 = (l, (s', 0)) := by
  obtain ⟨t, u, ⟨⟩⟩ := l
  unfold zfj at h
  simp only at h
  unfold z18b
  simp only
  by_cases hu : u = []
  . subst hu
    rw [if_pos rfl] at h
    have ht : t.length <= 2048 := by have := of_decide_eq_false h; omega
    rw [if_pos rfl]
    have hb : z4p ((0 : UInt8) :: zk0 t ++ s') 0 = (0, zk0 t ++ s', 0) := by unfold z4p; rw [if_neg (by simp)]; rfl
    have h0 : l0 ((0 : UInt8) :: zk0 t ++ s') 0 = (t, (s', 0)) := by unfold l0; rw [hb]; exact zia (m := 2048) (by decide) ht
    unfold zpa
    rw [if_pos (by rw [hb]), h0]
  . rw [if_neg hu] at h
    have ht : t.length <= 4144 /\ u.length <= 4144 := by
      rw [Bool.or_eq_false_iff] at h
      have h1 := of_decide_eq_false h.1
      have h2 := of_decide_eq_false h.2
      omega
    rw [if_neg hu]
    have hb : z4p ((1 : UInt8) :: (zk0 t ++ zk0 u) ++ s') 0 = (1, zk0 t ++ (zk0 u ++ s'), 0) := by
      unfold z4p; rw [if_neg (by simp), List.cons_append, List.append_assoc]; rfl
    have h1 : l1 ((1 : UInt8) :: (zk0 t ++ zk0 u) ++ s') 0 = (t, (zk0 u ++ s', 0)) := by unfold l1; rw [hb]; exact zia (m := 4144) (by decide) ht.1
    have h2 : l2 ((1 : UInt8) :: (zk0 t ++ zk0 u) ++ s') 0 = (u, (s', 0)) := by unfold l2; rw [h1]; exact zia (m := 4144) (by decide) ht.2
    unfold zpa
    rw [if_neg (by rw [hb]; show ¬ ((1 : Int) = 0); decide), if_pos (by rw [hb]), h1, h2]
    simp only
    rw [if_neg hu]

theorem zxg : ∀ (new : List zt8) {s' : List UInt8} {acc : List zt8}, new.any zfj = false -> zdq new.length (zei new ++ s') 0 acc = (acc ++ new, (s', 0))
  | [], s', acc, _ => by simp [zdq, zei]
  | l :: new, s', acc, h => by
    rw [List.any_cons, Bool.or_eq_false_iff] at h
    rw [List.length_cons, zdq, zei, List.append_assoc, z17x h.1]
    simp only
    rw [zxg new h.2, List.append_assoc]; rfl

theorem z16l {t : z4q} : zeo t = 0 ↔ t.2.1.length <= 64 /\ t.2.1.any zfj = false /\ t.1.length <= 4144 /\ t.2.2.1.length = 32 := by
  unfold zeo zlm
  by_cases c1 : 64 < t.2.1.length
  . rw [if_pos c1]; simp; omega
  . rw [if_neg c1]
    by_cases c2 : t.2.1.any zfj = true
    . rw [if_pos c2]; simp only [c2]; simp
    . rw [if_neg c2]
      have c2' : t.2.1.any zfj = false := by simpa using c2
      by_cases c3 : 4144 < t.1.length
      . rw [if_pos c3]; simp; omega
      . rw [if_neg c3, if_neg (by simp)]
        by_cases c4 : t.2.2.1.length = 32
        . rw [if_neg (by simpa using c4)]
          exact ⟨fun _ => ⟨by omega, c2', by omega, c4⟩, fun _ => rfl⟩
        . rw [if_pos c4]
          exact ⟨fun h => absurd h (by decide), fun h => absurd h.2.2.2 c4⟩

theorem z182 {t : z4q} (h : zeo t = 0) : z1bf (zo6 t ++ t.2.2.1) = (t, 0, ()) := by
  obtain ⟨h1, h2, h3, h4⟩ := z16l.1 h
  have e1 : gi (zo6 t ++ t.2.2.1) = (t.1, (z55 t.2.1.length ++ (zei t.2.1 ++ t.2.2.1), 0)) := by
    unfold gi zo6
    rw [List.append_assoc, List.append_assoc]
    exact zia (m := 4144) (by decide) h3
  have e2 : gn (zo6 t ++ t.2.2.1) = (((t.2.1.length : Nat) : Int), (zei t.2.1 ++ t.2.2.1, 0)) := by
    unfold gn
    rw [e1]
    exact zz2 (by omega) (by omega)
  have e3 : gl (zo6 t ++ t.2.2.1) = (t.2.1, (t.2.2.1, 0)) := by
    unfold gl
    rw [e2]
    simp only [Int.toNat_natCast]
    rw [zxg _ h2, List.nil_append]
  unfold z1bf
  rw [e3, e1]
  simp only
  rw [if_neg (by simp), if_neg (by omega), if_neg (by omega)]

def z1cb (l : zt8) : Bool := decide (4200 < l.1.length) || decide (4200 < l.2.1.length)
def sumW : Int -> List zt8 -> Bool
  | a, [] => decide (20000 < a)
  | a, l :: ls => sumW (Go.IntKind.wrap .i64 (Go.IntKind.wrap .i64 (a + ((l.1.length : Nat) : Int)) + ((l.2.1.length : Nat) : Int))) ls
def zfl (t : z4q) : Bool := decide (4200 < t.1.length) || (decide (100 < t.2.2.1.length) || (decide (70 < t.2.1.length) || (t.2.1.any z1cb || sumW 0 t.2.1)))

theorem z12x (N : Nat) (t : z4q) (hl : t.2.1.length < N) (hl' : t.2.1.length <= 1000000) :
    z5t N t 0 0 (fun x21 => some x21) (fun all => some (decide ((20000 : Int) < all))) = some (t.2.1.any z1cb || sumW 0 t.2.1) := by
  rw [z5t]
  refine (z4x (fun v => ∃ i : Nat, v.2 = (i : Int) /\ i <= t.2.1.length) (fun v => ((t.2.1.length : Int) - v.2).toNat) (fun v => some ((t.2.1.drop v.2.toNat).any z1cb || sumW v.1 (t.2.1.drop v.2.toNat))) ?_ N (0, 0) ⟨0, rfl, by omega⟩ (by simp only; omega)).trans (by rfl)
  rintro ⟨a, i⟩ r ⟨i, rfl, hi⟩ hr
  simp only [Int.toNat_natCast]
  rw [z5p]
  by_cases hlt : i < t.2.1.length
  . rw [z8 (decide_eq_true (by omega)), z5s, z5r, z5q, z8 (z2u hlt), z8 (z2u hlt), z8 (z2u hlt), z8 (z2u hlt), Int.toNat_natCast, zo9 t.2.1 (([] : List UInt8), (([] : List UInt8), ())) i hlt]
    generalize t.2.1.getD i (([] : List UInt8), (([] : List UInt8), ())) = v
    simp only [List.any_cons, z1cb, sumW]
    by_cases c1 : 4200 < v.1.length
    . rw [z8 (decide_eq_true (by omega)), decide_eq_true c1]; rfl
    . rw [zq (decide_eq_false (by omega)), decide_eq_false c1]
      by_cases c2 : 4200 < v.2.1.length
      . rw [z8 (decide_eq_true (by omega)), decide_eq_true c2]; rfl
      . rw [zq (decide_eq_false (by omega)), decide_eq_false c2, z2f (by omega)]
        rw [hr _ ⟨i + 1, rfl, by omega⟩ (by simp only; omega)]
        simp only [Int.toNat_natCast, Bool.false_or]
  . rw [zq (decide_eq_false (by omega)), zo8 t.2.1 (by omega)]; rfl

theorem z119 (N : Nat) (hN : 100 < N) (t : z4q) : z2k N t = some (zfl t) := by
  rw [z2k, z5v, z5u]
  unfold zfl
  by_cases c1 : 4200 < t.1.length
  . rw [z8 (decide_eq_true (by omega)), decide_eq_true c1]; rfl
  . rw [zq (decide_eq_false (by omega)), decide_eq_false c1, Bool.false_or]
    by_cases c2 : 100 < t.2.2.1.length
    . rw [z8 (decide_eq_true (by omega)), decide_eq_true c2]; rfl
    . rw [zq (decide_eq_false (by omega)), decide_eq_false c2, Bool.false_or]
      by_cases c3 : 70 < t.2.1.length
      . rw [z8 (decide_eq_true (by omega)), decide_eq_true c3]; rfl
      . rw [zq (decide_eq_false (by omega)), decide_eq_false c3, Bool.false_or, z12x N t (by omega) (by omega)]

theorem zro {t : z4q} (h : zfl t = false) : Sz t := by
  unfold zfl at h
  simp only [Bool.or_eq_false_iff, decide_eq_false_iff_not] at h
  obtain ⟨h1, h2, h3, h4, _⟩ := h
  refine ⟨by omega, by omega, fun l hl => ?_, by omega⟩
  have := List.any_eq_false.1 h4 l hl
  rw [Bool.not_eq_true] at this
  simp only [z1cb, Bool.or_eq_false_iff, decide_eq_false_iff_not] at this
  omega

theorem z10m (N : Nat) (t : z4q) (hl : t.2.1.length < N) (hl' : t.2.1.length <= 1000000) : z1x N t t = some true := by
  rw [z1x, z3u, z3t, beq_self_eq_true, beq_self_eq_true, bne_self_eq_false, Bool.not_true, cond_false, cond_false, cond_false, z7o]
  refine (z4x (fun v => ∃ i : Nat, v = (i : Int) /\ i <= t.2.1.length) (fun v => ((t.2.1.length : Int) - v).toNat) (fun _ => some true) ?_ N 0 ⟨0, rfl, by omega⟩ (by omega))
  rintro _ r ⟨i, rfl, hi⟩ hr
  rw [z3s]
  by_cases hlt : i < t.2.1.length
  . rw [z8 (decide_eq_true (by omega)), z8 (z2u hlt), z8 (z2u hlt)]
    refine (congrArg (fun b : Bool => cond (!b) (some false) (r (Go.IntKind.wrap .i64 ((i : Int) + 1)))) (z189 (t := T.pair T.str (T.pair T.str T.unit)) rfl (t.2.1.getD i (([] : List UInt8), (([] : List UInt8), ()))))).trans ?_
    rw [Bool.not_true, cond_false, z2f (by omega)]
    exact hr _ ⟨i + 1, rfl, by omega⟩ (by omega)
  . rw [zq (decide_eq_false (by omega))]

end
end Go.Proofs.YtaackaafmidjkaaDoorLg

set_option linter.all false
set_option maxRecDepth 100000
namespace Go.Proofs.YtaackaafmidjkaaDoorLg
noncomputable section
open Go Go.Lift Go.Proofs.YtaackaafmidjkaaDoorPx

abbrev zr2 := z4q × (List z4q × Unit)

def z1bi : zr2 := (zmt, ([], ()))

def zzf (s : List UInt8) (e f : Int) : List UInt8 × Int := if f = 0 then (s, e) else zsr s e f

theorem z15w {s : List UInt8} {e : Int} (h : z93 s e) (f : Int) : z93 (zzf s e f).1 (zzf s e f).2 := by
  unfold zzf; split
  . exact h
  . exact zvw h f

theorem z186 (N : Nat) (s : List UInt8) (e f : Int) : zl N (rdr s e) f = some ((), (rdr (zzf s e f).1 (zzf s e f).2, ())) := by
  unfold zzf
  by_cases hf : f = 0
  . subst hf; rw [if_pos rfl]; exact z15u N s e
  . rw [if_neg hf]; exact zze N s e hf

def zqn (s : List UInt8) (e : Int) : z4q × (List UInt8 × Int) :=
 ((z1bf (zew s e 65536).1).1, zzf (zew s e 65536).2.1 (zew s e 65536).2.2 (z1bf (zew s e 65536).1).2.1)

theorem zrm {s : List UInt8} {e : Int} (h : z93 s e) : z93 (zqn s e).2.1 (zqn s e).2.2 := z15w (zjv h) _

theorem z174 {s : List UInt8} {e : Int} (h : z93 s e) (m : Int) : (zew s e m).1.length <= 1000000 := by
  have hn := zvk (most := if m < 0 then 0 else m) h
  unfold zew zye
  generalize zp4 s e (if m < 0 then 0 else m) = y at *
  split
  . simp
  . split
    . simp
    . have := hn.1
      simp only [List.length_take]
      omega

theorem z15k (N : Nat) (hN : 100 < N) {s : List UInt8} {e : Int} (h : z93 s e) : z3l N (rdr s e) = some ((zqn s e).1, (rdr (zqn s e).2.1 (zqn s e).2.2, ())) := by
  rw [z3l, zrk N (by omega) h (by omega), Option.bind_some, z1ac N hN (z174 h _), Option.bind_some, z186]
  rfl

def zn2 : Nat -> List UInt8 -> Int -> List z4q -> List z4q × (List UInt8 × Int)
  | 0, s, e, acc => (acc, (s, e))
  | n + 1, s, e, acc => zn2 n (zqn s e).2.1 (zqn s e).2.2 (acc ++ [(zqn s e).1])

theorem z104 : ∀ (n : Nat) {s : List UInt8} {e : Int} (acc : List z4q), z93 s e -> z93 (zn2 n s e acc).2.1 (zn2 n s e acc).2.2
  | 0, _, _, _, h => h
  | n + 1, _, _, _, h => z104 n _ (zrm h)

theorem z181 (N : Nat) (hN : 100 < N) {s : List UInt8} {e : Int} (h : z93 s e) (n : Nat) (hn : n <= 8) (x2 : zr2) (id : z4q) (K : RdrT.den -> zr2 -> Option (zr2 × Int × Unit)) :
    zha N x2 (rdr s e) (id, ([], ())) (n : Int) 0 K = K (rdr (zn2 n s e []).2.1 (zn2 n s e []).2.2) (id, ((zn2 n s e []).1, ())) := by
  rw [zha]
  refine (z4x (fun v => ∃ i s e acc, v = (rdr s e, ((id, (acc, ())), ((i : Nat) : Int))) /\ i <= n /\ z93 s e /\ acc.length = i) (fun v => ((n : Int) - v.2.2).toNat) (fun v => K (rdr (zn2 (n - v.2.2.toNat) v.1.2.1 v.1.2.2.1 v.2.1.2.1).2.1 (zn2 (n - v.2.2.toNat) v.1.2.1 v.1.2.2.1 v.2.1.2.1).2.2) (id, ((zn2 (n - v.2.2.toNat) v.1.2.1 v.1.2.2.1 v.2.1.2.1).1, ()))) ?_ N (rdr s e, ((id, ([], ())), 0)) ⟨0, s, e, [], rfl, by omega, h, rfl⟩ (by simp only; omega)).trans (by rfl)
  rintro _ r ⟨i, s, e, acc, rfl, hi, hinv, hacc⟩ hr
  simp only [Int.toNat_natCast]
  rw [zh9]
  by_cases hlt : i < n
  . rw [z8 (decide_eq_true (by omega)), z15k N hN hinv, Option.bind_some]
    simp only
    rw [z8 (decide_eq_true (by omega)), show (((i : Nat) : Int) + 1) = ((i + 1 : Nat) : Int) from rfl, z28 (by omega)]
    rw [hr _ ⟨i + 1, _, _, _, rfl, by omega, zrm hinv, by simp [hacc]⟩ (by simp only; omega)]
    simp only [Int.toNat_natCast]
    rw [show n - i = (n - (i + 1)) + 1 by omega]
    rfl
  . rw [zq (decide_eq_false (by omega)), show n - i = 0 by omega]
    rfl

def bt (s : List UInt8) := zqn s 0
def bn (s : List UInt8) := zp4 (bt s).2.1 (bt s).2.2 8
def bm (s : List UInt8) := zn2 (bn s).1.toNat (bn s).2.1 (bn s).2.2 []
def be (s : List UInt8) : Int := z1bg (bm s).2.1 (bm s).2.2

def z1c5 (s : List UInt8) : zr2 × Int × Unit :=
 if 65536 < s.length then (z1bi, 3, ()) else if be s ≠ 0 then (z1bi, be s, ()) else (((bt s).1, ((bm s).1, ())), 0, ())

theorem z1cc {s : List UInt8} (hs : s.length <= 65536) : z93 (bt s).2.1 (bt s).2.2 /\ z93 (bn s).2.1 (bn s).2.2 /\ z93 (bm s).2.1 (bm s).2.2 /\ ∃ n : Nat, (bn s).1 = (n : Int) /\ n <= 8 := by
  have h0 : z93 s 0 := ⟨by omega, fun h => absurd rfl h⟩
  have h1 : z93 (bt s).2.1 (bt s).2.2 := zrm h0
  have h2 : z93 (bn s).2.1 (bn s).2.2 := zvk h1
  have h3 : z93 (bm s).2.1 (bm s).2.2 := z104 _ _ h2
  have h4 := z14v (bt s).2.1 (bt s).2.2 8
  have h5 := z19b (s := (bt s).2.1) (e := (bt s).2.2) (m := 8) (by omega)
  refine ⟨h1, h2, h3, (bn s).1.toNat, ?_, ?_⟩
  . show (bn s).1 = _
    have : 0 <= (bn s).1 := h4
    omega
  . have : (bn s).1 <= 8 := h5
    omega

theorem z1b8 (N : Nat) (hN : 100 < N) (s : List UInt8) : zg4 N s = some (z1c5 s) := by
  rw [zg4]
  by_cases hl : 65536 < s.length
  . rw [z8 (decide_eq_true (by omega)), z1c5, if_pos hl]; rfl
  rw [zq (decide_eq_false (by omega)), z1c5, if_neg hl]
  obtain ⟨h1, h2, h3, n, h4, h5⟩ := z1cc (s := s) (by omega)
  have h0 : z93 s 0 := ⟨by omega, fun h => absurd rfl h⟩
  rw [show ((true, (s, ((0 : Int), ()))) : RdrT.den) = rdr s 0 from rfl, z15k N hN h0, Option.bind_some]
  simp only
  rw [show zqn s 0 = bt s from rfl, z19c N (by omega) h1, Option.bind_some]
  simp only
  rw [show zp4 (bt s).2.1 (bt s).2.2 8 = bn s from rfl, h4, z181 N hN h2 n h5]
  have hm : zn2 n (bn s).2.1 (bn s).2.2 [] = bm s := by unfold bm; rw [h4, Int.toNat_natCast]
  rw [hm, z11e N h3, Option.bind_some]
  simp only
  rw [show z1bg (bm s).2.1 (bm s).2.2 = be s from rfl]
  by_cases he : be s = 0
  . rw [zq (by rw [he]; rfl), if_neg (by simpa using he)]
  . rw [z8 (by simpa using he), if_pos he]; rfl

end
end Go.Proofs.YtaackaafmidjkaaDoorLg

set_option linter.all false
set_option maxRecDepth 100000
namespace Go.Proofs.YtaackaafmidjkaaDoorLg
noncomputable section
open Go Go.Lift Go.Proofs.YtaackaafmidjkaaDoorPx

def zoo (t : z4q) : List UInt8 := zk0 (zo6 t ++ t.2.2.1)

def z6a : List z4q -> List UInt8
  | [] => []
  | t :: ts => zoo t ++ z6a ts

def zoj : List z4q -> Int
  | [] => 0
  | t :: ts => if zeo t ≠ 0 then zeo t else zoj ts

def zwc (b : zr2) : List UInt8 × Int × Unit :=
 if 8 < b.2.1.length then ([], 3, ()) else if zeo b.1 ≠ 0 then ([], zeo b.1, ()) else if zoj b.2.1 ≠ 0 then ([], zoj b.2.1, ()) else (zoo b.1 ++ (z55 b.2.1.length ++ z6a b.2.1), 0, ())

def z14j (b : zr2) : List UInt8 × Int × Unit := if (zwc b).2.1 ≠ 0 then zwc b else if 65536 < (zwc b).1.length then ([], 3, ()) else zwc b

def SzB (b : zr2) : Prop := Sz b.1 /\ ∀ t ∈ b.2.1, Sz t

theorem zr0 {t : z4q} (h : Sz t) : (zoo t).length <= 910000 := by
  have h1 := zaz h
  have h2 := z95 (zo6 t ++ t.2.2.1)
  have h3 := h.2.2.2
  unfold zoo
  rw [List.length_append] at h2
  omega

theorem zxv : ∀ {l : List z4q}, (∀ t ∈ l, Sz t) -> (z6a l).length <= 910000 * l.length
  | [], _ => by simp [z6a]
  | t :: ts, h => by
    have h1 := zr0 (h t (List.mem_cons_self ..))
    have h2 := zxv (fun x hx => h x (List.mem_cons_of_mem _ hx))
    simp only [z6a, List.length_append, List.length_cons]
    omega

theorem zwj (N : Nat) (hN : 100 < N) {t : z4q} (h : Sz t) : zjt N t = some (if zeo t = 0 then ((0 : Int), zoo t) else (zeo t, [])) := by
  unfold zjt
  have h1 := zaz h
  have h3 := h.2.2.2
  rw [z1ab N hN h, Option.bind_some]
  unfold z1ao
  by_cases hb : zeo t = 0
  . rw [if_neg (show ¬ zeo t ≠ 0 by simpa using hb), if_pos hb]
    dsimp only
    rw [if_pos rfl, zo1 N (by omega) (by rw [List.length_append]; omega), Option.bind_some]
    rfl
  . rw [if_pos hb, if_neg hb]
    dsimp only
    rw [if_neg hb]

theorem z10x (N : Nat) (hN : 100 < N) : ∀ {l : List z4q}, (∀ t ∈ l, Sz t) -> ∃ r, zj3 N l = some r /\ r.1 = zoj l /\ (zoj l = 0 -> r.2.flatten = z6a l)
  | [], _ => ⟨_, rfl, rfl, fun _ => rfl⟩
  | t :: ts, h => by
    obtain ⟨r, h1, h2, h3⟩ := z10x N hN (fun x hx => h x (List.mem_cons_of_mem _ hx))
    rw [zj3, zwj N hN (h t (List.mem_cons_self ..)), Option.bind_some, zoj]
    by_cases hb : zeo t = 0
    . rw [if_pos hb, if_neg (show ¬ zeo t ≠ 0 by simpa using hb)]
      dsimp only
      rw [if_pos rfl, h1, Option.bind_some]
      refine ⟨_, rfl, h2, fun h0 => ?_⟩
      dsimp only
      rw [List.flatten_cons, h3 h0]
      rfl
    . rw [if_neg hb, if_pos hb]
      dsimp only
      rw [if_neg hb]
      exact ⟨_, rfl, rfl, fun h0 => absurd h0 hb⟩

theorem z16e (N : Nat) (hN : 100 < N) {b : zr2} (h : SzB b) : z76 N b = some (z14j b) := by
  obtain ⟨h1, h2⟩ := h
  unfold z76 z14j zwc
  by_cases h8 : 8 < b.2.1.length
  . rw [if_pos h8, if_pos h8, if_pos (by decide)]
  rw [if_neg h8, if_neg h8]
  unfold zyk
  rw [zwj N hN h1, Option.bind_some]
  by_cases hb : zeo b.1 = 0
  . rw [if_pos hb, if_neg (show ¬ zeo b.1 ≠ 0 by simpa using hb)]
    dsimp only
    rw [if_pos rfl, zvs N (by omega) (by omega), Option.bind_some]
    obtain ⟨r, k1, k2, k3⟩ := z10x N hN h2
    rw [k1, Option.bind_some, Option.bind_some]
    dsimp only
    rw [k2]
    by_cases hm : zoj b.2.1 = 0
    . rw [if_pos hm, if_neg (show ¬ zoj b.2.1 ≠ 0 by simpa using hm)]
      have e : (zoo b.1 :: z55 b.2.1.length :: r.2).flatten = zoo b.1 ++ (z55 b.2.1.length ++ z6a b.2.1) := by
        rw [List.flatten_cons, List.flatten_cons, k3 hm]
      rw [e]
      have q1 := zr0 h1
      have q2 := zxv h2
      have q3 := (z4i b.2.1.length).2
      rw [if_pos (show (zoo b.1 ++ (z55 b.2.1.length ++ z6a b.2.1)).length <= 70368744177664 by simp only [List.length_append]; omega)]
      dsimp only
      rw [if_neg (show ¬ (0 : Int) ≠ 0 by decide)]
      by_cases hl : 65536 < (zoo b.1 ++ (z55 b.2.1.length ++ z6a b.2.1)).length
      . rw [if_pos hl, if_pos hl]
      . rw [if_neg hl, if_neg hl]
    . rw [if_neg hm, if_pos hm]
      dsimp only
      rw [if_pos hm]
  . rw [if_neg hb, if_pos hb]
    dsimp only
    rw [if_neg hb, Option.bind_some, if_pos hb]
    dsimp only
    rw [if_neg hb]

theorem zw0 {l : List z4q} {i : Nat} (h : i < l.length) : l.drop i = l.getD i zmt :: l.drop (i + 1) := by
  rw [List.drop_eq_getElem_cons h, List.getD_eq_getElem?_getD, List.getElem?_eq_getElem h]; rfl

theorem zz4 {l : List z4q} {i : Nat} (h : i < l.length) : l.getD i zmt ∈ l := by
  rw [List.getD_eq_getElem?_getD, List.getElem?_eq_getElem h]; exact List.getElem_mem h

theorem zyp (N : Nat) (hN : 100 < N) {b : zr2} (h : SzB b) (h8 : b.2.1.length <= 8) (out : List UInt8) (ho : out.length <= 1000000) (K : List UInt8 -> Option (List UInt8 × Int × Unit)) :
    z7c N b out 0 (fun x2 x3 => some (x2, (x3, ()))) K = if zoj b.2.1 = 0 then K (out ++ z6a b.2.1) else some ([], (zoj b.2.1, ())) := by
  obtain ⟨_, hz⟩ := h
  rw [z7c]
  refine (z4x (fun v => ∃ i : Nat, v.2 = (i : Int) /\ i <= b.2.1.length /\ v.1.length <= 1000000 + 910000 * i) (fun v => ((b.2.1.length : Int) - v.2).toNat) (fun v => if zoj (b.2.1.drop v.2.toNat) = 0 then K (v.1 ++ z6a (b.2.1.drop v.2.toNat)) else some ([], (zoj (b.2.1.drop v.2.toNat), ()))) ?_ N (out, 0) ⟨0, rfl, by omega, by simpa using ho⟩ (by simp only; omega)).trans (by rfl)
  rintro ⟨o, i⟩ r ⟨i, rfl, hi, hlen⟩ hr
  simp only at hlen
  simp only [Int.toNat_natCast]
  rw [z7b]
  by_cases hlt : i < b.2.1.length
  . have hs := hz _ (zz4 hlt)
    rw [z8 (decide_eq_true (by omega)), z8 (z2u hlt), Int.toNat_natCast, zw0 hlt, show (([] : List UInt8), (([] : List ((List UInt8) × ((List UInt8) × Unit))), (([] : List UInt8), ()))) = zmt from rfl]
    generalize b.2.1.getD i zmt = t at hs ⊢
    rw [z14a N hN hs, Option.bind_some, zoj, z6a]
    have e1 := zaz hs
    have e2 := hs.2.2.2
    have e3 := zr0 hs
    unfold z1ao
    by_cases hb : zeo t = 0
    . rw [if_neg (show ¬ zeo t ≠ 0 by simpa using hb), if_neg (show ¬ zeo t ≠ 0 by simpa using hb)]
      dsimp only
      rw [bne_self_eq_false, cond_false, zf1 N (by omega) (by rw [List.length_append]; omega), Option.bind_some, show z55 (zo6 t ++ t.2.2.1).length ++ (zo6 t ++ t.2.2.1) = zoo t from rfl, z8 (decide_eq_true (by omega)), z2f (by omega)]
      rw [hr _ ⟨i + 1, rfl, by omega, by simp only [List.length_append]; omega⟩ (by simp only; omega)]
      simp only [Int.toNat_natCast, List.append_assoc]
    . rw [if_pos hb, if_pos hb]
      dsimp only
      rw [bne_iff_ne.2 hb, cond_true, if_neg hb]
  . rw [zq (decide_eq_false (by omega)), List.drop_of_length_le (by omega), zoj, z6a, List.append_nil, if_pos rfl]

theorem z148 (N : Nat) (hN : 100 < N) {b : zr2} (h : SzB b) : z37 N b = some (zwc b) := by
  have hh := h
  obtain ⟨h1, h2⟩ := h
  unfold z37 zwc
  by_cases h8 : 8 < b.2.1.length
  . rw [z8 (decide_eq_true (by omega)), if_pos h8]
  rw [zq (decide_eq_false (by omega)), if_neg h8, z14a N hN h1, Option.bind_some]
  have e1 := zaz h1
  have e2 := h1.2.2.2
  have e3 := zr0 h1
  have q3 := (z4i b.2.1.length).2
  unfold z1ao
  by_cases hb : zeo b.1 = 0
  . rw [if_neg (show ¬ zeo b.1 ≠ 0 by simpa using hb), if_neg (show ¬ zeo b.1 ≠ 0 by simpa using hb)]
    dsimp only
    rw [bne_self_eq_false, cond_false, zf1 N (by omega) (by rw [List.length_append]; omega), Option.bind_some, show z55 (zo6 b.1 ++ b.1.2.2.1).length ++ (zo6 b.1 ++ b.1.2.2.1) = zoo b.1 from rfl, z28 (by omega), zyq N (by omega) (by omega), Option.bind_some, z8 (decide_eq_true (by omega)), zyp N hN hh (by omega) _ (by rw [List.length_append]; omega)]
    by_cases hm : zoj b.2.1 = 0
    . rw [if_pos hm, if_neg (show ¬ zoj b.2.1 ≠ 0 by simpa using hm), List.append_assoc]
    . rw [if_neg hm, if_pos hm]
  . rw [if_pos hb, if_pos hb]
    dsimp only
    rw [bne_iff_ne.2 hb, cond_true]

theorem z17k (N : Nat) (hN : 100 < N) {b : zr2} (h : SzB b) : z4w N b = some (z14j b) := by
  rw [z4w, z148 N hN h, Option.bind_some, z7f, z7e, z14j]
  by_cases he : (zwc b).2.1 = 0
  . rw [z8 (by rw [he]; rfl), if_neg (show ¬ (zwc b).2.1 ≠ 0 by simpa using he)]
    by_cases hl : 65536 < (zwc b).1.length
    . rw [z8 (decide_eq_true (by omega)), if_pos hl]
    . rw [zq (decide_eq_false (by omega)), if_neg hl]
  . rw [zq (by simpa using he), if_pos he]
    rfl

def z10j (t : z4q) : Nat := if zlm t = 0 then (z55 ((zo6 t).length + 32)).length + ((zo6 t).length + 32) else 0

def zya : List z4q -> Option Nat
  | [] => some 0
  | t :: ts => if zlm t = 0 then (zya ts).map (z10j t + ·) else none

def z1ak (b : zr2) : Nat := if 8 < b.2.1.length then 0 else if zlm b.1 ≠ 0 then 0 else match zya b.2.1 with
  | some n => z10j b.1 + (z55 b.2.1.length).length + n
  | none => 0

theorem zwr (N : Nat) (hN : 100 < N) {t : z4q} (h : Sz t) : z5g N t = some (z10j t : Int) := by
  have e1 := zaz h
  rw [z5g, z172 N hN h, Option.bind_some, z10j]
  by_cases hb : zlm t = 0
  . rw [if_pos hb, if_pos hb]
    have q := (z4i ((zo6 t).length + 32)).2
    rw [zq (by simp; omega), z28 (by omega), zvs N (by omega) (by omega), Option.bind_some]
    congr 1
    rw [zb7 (by unfold I64; omega)]
    omega
  . rw [if_neg hb, if_neg hb]
    rfl

theorem z10h {t : z4q} (h : zlm t = 0) : 0 < z10j t := by
  unfold z10j; rw [if_pos h]; omega

theorem z10i {t : z4q} (h : Sz t) : z10j t <= 910000 := by
  have e1 := zaz h
  have q := (z4i ((zo6 t).length + 32)).2
  unfold z10j; split <;> omega

def z1bt (total : Int) (o : Option Nat) : Option Int := match o with
  | some n => some (total + (n : Int))
  | none => some 0

theorem z144 (N : Nat) (hN : 100 < N) {l : List z4q} (hz : ∀ t ∈ l, Sz t) (h8 : l.length <= 8) (total : Int) (ht : 0 <= total /\ total <= 1000000) :
    zek N total l (l.length : Int) 0 (fun x2 => some x2) (fun total => some total) = z1bt total (zya l) := by
  rw [zek]
  refine (z4x (fun v => ∃ i : Nat, v.2 = (i : Int) /\ i <= l.length /\ (0 : Int) <= v.1 /\ v.1 <= (1000000 : Int) + 910000 * (i : Int)) (fun v => ((l.length : Int) - v.2).toNat) (fun v => z1bt v.1 (zya (l.drop v.2.toNat))) ?_ N (total, 0) ⟨0, rfl, by omega, ht.1, by simpa using ht.2⟩ (by simp only; omega)).trans (by rfl)
  rintro ⟨o, i⟩ r ⟨i, rfl, hi, hlo, hhi⟩ hr
  simp only at hlo hhi
  simp only [Int.toNat_natCast]
  rw [zej]
  by_cases hlt : i < l.length
  . have hs := hz _ (zz4 hlt)
    rw [z8 (decide_eq_true (by omega)), z8 (z2u hlt), Int.toNat_natCast, zw0 hlt, show (([] : List UInt8), (([] : List ((List UInt8) × ((List UInt8) × Unit))), (([] : List UInt8), ()))) = zmt from rfl]
    generalize l.getD i zmt = t at hs ⊢
    rw [zwr N hN hs, Option.bind_some, zya]
    have e := z10i hs
    by_cases hb : zlm t = 0
    . have e0 := z10h hb
      rw [zq (by simp; omega), if_pos hb, zb7 (by unfold I64; omega), z2f (by omega)]
      rw [hr _ ⟨i + 1, rfl, by omega, by omega, by omega⟩ (by simp only; omega)]
      simp only [Int.toNat_natCast]
      cases zya (l.drop (i + 1)) with
      | none => rfl
      | some n => simp only [z1bt, Option.map_some]; congr 1; omega
    . rw [if_neg hb, z8 (by unfold z10j; rw [if_neg hb]; rfl)]
      rfl
  . rw [zq (decide_eq_false (by omega)), List.drop_of_length_le (by omega), zya]
    simp [z1bt]

theorem z11j (N : Nat) (hN : 100 < N) {b : zr2} (h : SzB b) : z92 N b = some (z1ak b : Int) := by
  obtain ⟨h1, h2⟩ := h
  rw [z92, z1ak]
  by_cases h8 : 8 < b.2.1.length
  . rw [z8 (decide_eq_true (by omega)), if_pos h8]; rfl
  rw [zq (decide_eq_false (by omega)), if_neg h8, zwr N hN h1, Option.bind_some]
  have e := z10i h1
  have q3 := (z4i b.2.1.length).2
  by_cases hb : zlm b.1 = 0
  . have e0 := z10h hb
    rw [zq (by simp; omega), if_neg (show ¬ zlm b.1 ≠ 0 by simpa using hb), z28 (by omega), zvs N (by omega) (by omega), Option.bind_some, zb7 (by unfold I64; omega), z144 N hN h2 (by omega) _ (by omega)]
    cases zya b.2.1 with
    | none => rfl
    | some n => simp only [z1bt]; congr 1
  . rw [if_pos hb, z8 (by unfold z10j; rw [if_neg hb]; rfl)]
    rfl

def zrn (t : z4q) : z4q := (t.1, (t.2.1, (toStr (List.replicate 32 (0 : Int)), ())))

theorem z1ae : (toStr (List.replicate 32 (0 : Int))).length = 32 := by simp [toStr]

theorem z11l (t : z4q) : zeo (zrn t) = zlm t := by
  unfold zeo
  have e : zlm (zrn t) = zlm t := rfl
  rw [e]
  by_cases hb : zlm t = 0
  . rw [if_neg (show ¬ zlm t ≠ 0 by simpa using hb), if_neg (show ¬ (zrn t).2.2.1.length ≠ 32 by rw [show (zrn t).2.2.1 = toStr (List.replicate 32 (0 : Int)) from rfl, z1ae]; decide), hb]
  . rw [if_pos hb]

theorem z11f (t : z4q) (hb : zlm t = 0) : (zoo (zrn t)).length = z10j t := by
  unfold zoo zk0 z10j
  rw [if_pos hb, show zo6 (zrn t) = zo6 t from rfl, show (zrn t).2.2.1 = toStr (List.replicate 32 (0 : Int)) from rfl, List.length_append, List.length_append, z1ae]

theorem z193 {t : z4q} (h : Sz t) : Sz (zrn t) := ⟨h.1, h.2.1, h.2.2.1, by rw [show (zrn t).2.2.1 = toStr (List.replicate 32 (0 : Int)) from rfl, z1ae]; decide⟩

theorem z11m : ∀ l : List z4q, (zoj (l.map zrn) = 0 ↔ (zya l).isSome = true) /\ ∀ n, zya l = some n -> (z6a (l.map zrn)).length = n
  | [] => ⟨by simp [zoj, zya], fun n h => by cases h; rfl⟩
  | t :: ts => by
    obtain ⟨h1, h2⟩ := z11m ts
    rw [List.map_cons, zoj, z11l, zya]
    by_cases hb : zlm t = 0
    . rw [if_neg (show ¬ zlm t ≠ 0 by simpa using hb), if_pos hb]
      refine ⟨by rw [h1]; simp, fun n hn => ?_⟩
      cases hm : zya ts with
      | none => rw [hm] at hn; cases hn
      | some k =>
        rw [hm] at hn
        cases hn
        rw [z6a, List.length_append, z11f t hb, h2 k hm]
    . rw [if_pos hb, if_neg hb]
      exact ⟨by simp [hb], fun n hn => by cases hn⟩

theorem z1am (t : z4q) (l : List z4q) : (zwc (zrn t, (l.map zrn, ()))).1.length = z1ak (t, (l, ())) := by
  unfold zwc z1ak
  obtain ⟨h1, h2⟩ := z11m l
  dsimp only
  rw [List.length_map]
  by_cases h8 : 8 < l.length
  . rw [if_pos h8, if_pos h8]; rfl
  rw [if_neg h8, if_neg h8, z11l]
  by_cases hb : zlm t = 0
  . rw [if_neg (show ¬ zlm t ≠ 0 by simpa using hb), if_neg (show ¬ zlm t ≠ 0 by simpa using hb)]
    cases hm : zya l with
    | none =>
      rw [hm] at h1
      rw [if_pos (show zoj (l.map zrn) ≠ 0 by intro e; simpa using h1.1 e)]
      rfl
    | some n =>
      rw [hm] at h1
      rw [if_neg (show ¬ zoj (l.map zrn) ≠ 0 by rw [h1.2 rfl]; simp)]
      simp only [List.length_append]
      rw [z11f t hb, h2 n hm]
      omega
  . rw [if_pos hb, if_pos hb]; rfl

theorem z122 (N : Nat) (hN : 100 < N) (b : zr2) (h8 : b.2.1.length <= 70) (c0 : z4q) (K : zr2 -> Option Int) :
    z6h N b (c0, ([], ())) 0 K = K (c0, (b.2.1.map zrn, ())) := by
  rw [z6h]
  refine (z4x (fun v => ∃ i : Nat, v = ((c0, ((b.2.1.take i).map zrn, ())), (i : Int)) /\ i <= b.2.1.length) (fun v => ((b.2.1.length : Int) - v.2).toNat) (fun v => K (c0, (b.2.1.map zrn, ()))) ?_ N ((c0, ([], ())), 0) ⟨0, rfl, by omega⟩ (by simp only; omega))
  rintro _ r ⟨i, rfl, hi⟩ hr
  dsimp only
  rw [z6g]
  by_cases hlt : i < b.2.1.length
  . rw [z8 (decide_eq_true (by omega)), z8 (z2u hlt), z8 (decide_eq_true (by simp only [List.length_map, List.length_take]; omega)), z2f (by omega)]
    refine hr _ ⟨i + 1, ?_, by omega⟩ (by simp only; omega)
    have e : (b.2.1.take (i + 1)).map zrn = (b.2.1.take i).map zrn ++ [zrn (b.2.1.getD i zmt)] := by
      rw [List.take_succ_eq_append_getElem hlt, List.map_append, List.getD_eq_getElem?_getD, List.getElem?_eq_getElem hlt]
      rfl
    rw [e]
    rfl
  . rw [zq (decide_eq_false (by omega)), List.take_of_length_le (by omega)]

theorem z14h (N : Nat) (hN : 100 < N) {b : zr2} (h : SzB b) (h8 : b.2.1.length <= 70) : z45 N b = some (z1ak b : Int) := by
  obtain ⟨t, l, ⟨⟩⟩ := b
  rw [z45, show ((([] : List ((List UInt8) × ((List ((List UInt8) × ((List UInt8) × Unit))) × ((List UInt8) × Unit)))), ())) = (([] : List z4q), ()) from rfl]
  rw [z122 N hN (t, (l, ())) h8]
  dsimp only
  have hs : SzB (zrn t, (l.map zrn, ())) := ⟨z193 h.1, fun x hx => by
    obtain ⟨y, hy, rfl⟩ := List.mem_map.1 hx
    exact z193 (h.2 y hy)⟩
  rw [<- z1am]
  refine (congrArg (fun o : Option (List UInt8 × Int × Unit) => o.bind fun y => some (((List.length y.1) : Nat) : Int)) (z148 N hN hs)).trans ?_
  rfl

end
end Go.Proofs.YtaackaafmidjkaaDoorLg

set_option linter.all false
set_option maxRecDepth 100000
namespace Go.Proofs.YtaackaafmidjkaaDoorLg
noncomputable section
open Go Go.Lift Go.Proofs.YtaackaafmidjkaaDoorPx

theorem z108 {t : z4q} (h : zeo t = 0) (hl : (zo6 t ++ t.2.2.1).length <= 65536) (s' : List UInt8) : zqn (zoo t ++ s') 0 = (t, (s', 0)) := by
  unfold zqn zoo
  have := zia (t := zo6 t ++ t.2.2.1) (s' := s') (m := 65536) (by omega) hl
  rw [show ((65536 : Nat) : Int) = 65536 from rfl] at this
  rw [this]
  dsimp only
  rw [z182 h]
  rfl

theorem z105 : ∀ (new : List z4q) {s' : List UInt8} {acc : List z4q}, zoj new = 0 -> (∀ t ∈ new, (zo6 t ++ t.2.2.1).length <= 65536) -> zn2 new.length (z6a new ++ s') 0 acc = (acc ++ new, (s', 0))
  | [], s', acc, _, _ => by simp [zn2, z6a]
  | t :: ts, s', acc, h, hl => by
    rw [zoj] at h
    by_cases hb : zeo t = 0
    . rw [if_neg (show ¬ zeo t ≠ 0 by simpa using hb)] at h
      rw [List.length_cons, zn2, z6a, List.append_assoc, z108 hb (hl t (List.mem_cons_self ..))]
      dsimp only
      rw [z105 ts h (fun x hx => hl x (List.mem_cons_of_mem _ hx))]
      simp
    . rw [if_pos hb] at h
      exact absurd h hb

theorem z17l {b : zr2} (h8 : b.2.1.length <= 8) (h1 : zeo b.1 = 0) (h2 : zoj b.2.1 = 0) : zwc b = (zoo b.1 ++ (z55 b.2.1.length ++ z6a b.2.1), 0, ()) := by
  unfold zwc
  rw [if_neg (by omega), if_neg (show ¬ zeo b.1 ≠ 0 by simpa using h1), if_neg (show ¬ zoj b.2.1 ≠ 0 by simpa using h2)]

theorem z1an {b : zr2} (h : (zwc b).2.1 = 0) : b.2.1.length <= 8 /\ zeo b.1 = 0 /\ zoj b.2.1 = 0 := by
  unfold zwc at h
  by_cases h8 : 8 < b.2.1.length
  . rw [if_pos h8] at h; exact absurd h (by decide)
  rw [if_neg h8] at h
  by_cases h1 : zeo b.1 = 0
  . rw [if_neg (show ¬ zeo b.1 ≠ 0 by simpa using h1)] at h
    by_cases h2 : zoj b.2.1 = 0
    . exact ⟨by omega, h1, h2⟩
    . rw [if_pos h2] at h; exact absurd h h2
  . rw [if_pos h1] at h; exact absurd h h1

theorem z15z {t : z4q} : (zo6 t ++ t.2.2.1).length <= (zoo t).length := by
  unfold zoo zk0
  simp only [List.length_append]
  omega

theorem zxu : ∀ {l : List z4q} {t : z4q}, t ∈ l -> (zoo t).length <= (z6a l).length
  | t :: ts, u, h => by
    rw [z6a, List.length_append]
    rcases List.mem_cons.1 h with rfl | h
    . omega
    . have := zxu h; omega

theorem z183 {b : zr2} {s : List UInt8} (h : z14j b = (s, 0, ())) : z1c5 s = (b, 0, ()) /\ s.length = z1ak b := by
  have h0 : (zwc b).2.1 = 0 := by
    by_cases he : (zwc b).2.1 = 0
    . exact he
    . unfold z14j at h; rw [if_pos he] at h; rw [h] at he; exact absurd rfl he
  obtain ⟨h8, h1, h2⟩ := z1an h0
  have hr := z17l h8 h1 h2
  have hl : ¬ 65536 < (zoo b.1 ++ (z55 b.2.1.length ++ z6a b.2.1)).length := by
    intro hl
    unfold z14j at h
    rw [hr, if_neg (show ¬ (0 : Int) ≠ 0 by decide), if_pos hl] at h
    cases h
  have hs : s = zoo b.1 ++ (z55 b.2.1.length ++ z6a b.2.1) := by
    unfold z14j at h
    rw [hr, if_neg (show ¬ (0 : Int) ≠ 0 by decide), if_neg hl] at h
    cases h; rfl
  subst hs
  obtain ⟨t, l, ⟨⟩⟩ := b
  dsimp only at *
  have hl' : (zoo t).length <= 65536 /\ (z6a l).length <= 65536 := by
    simp only [List.length_append] at hl
    omega
  have et : bt (zoo t ++ (z55 l.length ++ z6a l)) = (t, (z55 l.length ++ z6a l, 0)) := z108 h1 (Nat.le_trans z15z hl'.1) _
  have en : bn (zoo t ++ (z55 l.length ++ z6a l)) = ((l.length : Int), (z6a l, 0)) := by
    unfold bn
    rw [et]
    exact zz2 (by omega) (by omega)
  have em : bm (zoo t ++ (z55 l.length ++ z6a l)) = (l, ([], 0)) := by
    unfold bm
    rw [en]
    dsimp only
    rw [Int.toNat_natCast]
    have := z105 l (s' := []) (acc := []) h2 (fun x hx => Nat.le_trans z15z (Nat.le_trans (zxu hx) hl'.2))
    rw [List.append_nil, List.nil_append] at this
    exact this
  have ee : be (zoo t ++ (z55 l.length ++ z6a l)) = 0 := by
    unfold be; rw [em]; rfl
  refine ⟨?_, ?_⟩
  . unfold z1c5
    rw [if_neg hl, if_neg (show ¬ be _ ≠ 0 by simpa using ee), et, em]
  . have badB_z : ∀ {u : z4q}, zeo u = 0 -> zlm u = 0 /\ u.2.2.1.length = 32 := fun {u} hu => by
      unfold zeo at hu
      by_cases hb : zlm u = 0
      . rw [if_neg (show ¬ zlm u ≠ 0 by simpa using hb)] at hu
        by_cases hg : u.2.2.1.length = 32
        . exact ⟨hb, hg⟩
        . rw [if_pos hg] at hu; exact absurd hu (by decide)
      . rw [if_pos hb] at hu; exact absurd hu hb
    have len : ∀ {u : z4q}, zeo u = 0 -> (zoo u).length = z10j u := fun {u} hu => by
      obtain ⟨q1, q2⟩ := badB_z hu
      unfold zoo zk0 z10j
      rw [if_pos q1, List.length_append, List.length_append, q2]
    have z16x : ∀ m : List z4q, zoj m = 0 -> zya m = some (z6a m).length := by
      intro m
      induction m with
      | nil => intro _; rfl
      | cons u us ih =>
        intro hu
        rw [zoj] at hu
        by_cases hb : zeo u = 0
        . rw [if_neg (show ¬ zeo u ≠ 0 by simpa using hb)] at hu
          rw [zya, if_pos (badB_z hb).1, ih hu, z6a, List.length_append, len hb]
          rfl
        . rw [if_pos hb] at hu; exact absurd hu hb
    unfold z1ak
    dsimp only
    rw [if_neg (by omega), if_neg (show ¬ zlm t ≠ 0 by simpa using (badB_z h1).1), z16x l h2]
    simp only [List.length_append]
    rw [len h1]
    omega

theorem z17b (N : Nat) (hN : 100 < N) {b : zr2} (h : SzB b) (h8 : b.2.1.length <= 70) : z29 N b b = some true := by
  rw [z29, z3e, z3d, z10m N _ (by have := h.1.2.1; omega) (by have := h.1.2.1; omega), Option.bind_some, Bool.not_true, cond_false, bne_self_eq_false, cond_false, z6t]
  refine (z4x (fun v => ∃ i : Nat, v = (i : Int) /\ i <= b.2.1.length) (fun v => ((b.2.1.length : Int) - v).toNat) (fun _ => some true) ?_ N 0 ⟨0, rfl, by omega⟩ (by omega))
  rintro _ r ⟨i, rfl, hi⟩ hr
  rw [z3c]
  by_cases hlt : i < b.2.1.length
  . have hs := h.2 _ (zz4 hlt)
    rw [z8 (decide_eq_true (by omega)), z8 (z2u hlt), z8 (z2u hlt), Int.toNat_natCast, show (([] : List UInt8), (([] : List ((List UInt8) × ((List UInt8) × Unit))), (([] : List UInt8), ()))) = zmt from rfl, z10m N _ (by have := hs.2.1; omega) (by have := hs.2.1; omega), Option.bind_some, Bool.not_true, cond_false, z2f (by omega)]
    exact hr _ ⟨i + 1, rfl, by omega⟩ (by omega)
  . rw [zq (decide_eq_false (by omega))]

theorem z12y (N : Nat) (hN : 100 < N) (b : zr2) : z39 N b = some (decide (12 < b.2.1.length) || (zfl b.1 || b.2.1.any zfl)) := by
  rw [z39, z5o, z5n]
  by_cases h12 : 12 < b.2.1.length
  . rw [z8 (decide_eq_true (by omega)), cond_true, decide_eq_true h12]; rfl
  rw [zq (decide_eq_false (by omega)), decide_eq_false h12, z119 N hN, Option.bind_some]
  cases hg : zfl b.1 with
  | true => rfl
  | false =>
    rw [cond_false, z9y]
    simp only [Bool.false_or]
    refine (z4x (fun v => ∃ i : Nat, v = (i : Int) /\ i <= b.2.1.length) (fun v => ((b.2.1.length : Int) - v).toNat) (fun v => some ((b.2.1.drop v.toNat).any zfl)) ?_ N 0 ⟨0, rfl, by omega⟩ (by omega)).trans (by rfl)
    rintro _ r ⟨i, rfl, hi⟩ hr
    simp only [Int.toNat_natCast]
    rw [z5m]
    by_cases hlt : i < b.2.1.length
    . rw [z8 (decide_eq_true (by omega)), z8 (z2u hlt), Int.toNat_natCast, zw0 hlt, show (([] : List UInt8), (([] : List ((List UInt8) × ((List UInt8) × Unit))), (([] : List UInt8), ()))) = zmt from rfl, z119 N hN, Option.bind_some, List.any_cons]
      cases hq : zfl (b.2.1.getD i zmt) with
      | true => rfl
      | false =>
        rw [cond_false, z2f (by omega), hr _ ⟨i + 1, rfl, by omega⟩ (by omega)]
        rfl
    . rw [zq (decide_eq_false (by omega)), List.drop_of_length_le (by omega)]; rfl

theorem z1bs {b : zr2} (h : (decide (12 < b.2.1.length) || (zfl b.1 || b.2.1.any zfl)) = false) : SzB b /\ b.2.1.length <= 12 := by
  rw [Bool.or_eq_false_iff, Bool.or_eq_false_iff, decide_eq_false_iff_not] at h
  refine ⟨⟨zro h.2.1, fun t ht => zro ?_⟩, by omega⟩
  have := List.any_eq_false.1 h.2.2 t ht
  simpa using this

abbrev z178 : List UInt8 := [48, 49, 50, 51, 52, 53, 54, 55, 56, 57, 97, 98, 99, 100, 101, 102, 48, 49, 50, 51, 52, 53, 54, 55, 56, 57, 97, 98, 99, 100, 101, 102]

theorem z19p (N : Nat) (hN : 100 < N) : z2l N = some true := by
  rw [z2l]
  have hz : SzB ((([(97 : UInt8)] : List UInt8), (([] : List zt8), (z178, ()))), (([] : List z4q), ())) := ⟨⟨by decide, by decide, (fun l h => by cases h), by decide⟩, fun t ht => by cases ht⟩
  have hp : z14j ((([(97 : UInt8)] : List UInt8), (([] : List zt8), (z178, ()))), (([] : List z4q), ())) = ((z14j ((([(97 : UInt8)] : List UInt8), (([] : List zt8), (z178, ()))), (([] : List z4q), ()))).1, 0, ()) := by kernel_rfl
  have hl : (z14j ((([(97 : UInt8)] : List UInt8), (([] : List zt8), (z178, ()))), (([] : List z4q), ()))).1.length = 37 := by kernel_rfl
  obtain ⟨hg, hsz⟩ := z183 hp
  rw [z16e N hN hz, Option.bind_some, z1b8 N hN, hg, Option.bind_some]
  rw [z8 (by rw [hl]; rfl), z8 (by rw [hp]; rfl), z17b N hN hz (by decide), Option.bind_some, cond_true, z8 (by rfl), z11j N hN hz, Option.bind_some]
  rw [<- hsz, hl]
  rfl

theorem zu4 (N : Nat) (hN : 100 < N) (b : zr2) : z1l N b = some true := by
  rw [z1l, z19p N hN, z12y N hN, Option.bind_some]
  cases hg : (decide (12 < b.2.1.length) || (zfl b.1 || b.2.1.any zfl)) with
  | true => rfl
  | false =>
    obtain ⟨hz, h12⟩ := z1bs hg
    rw [cond_false, z16e N hN hz, z17k N hN hz, z11j N hN hz, z14h N hN hz (by omega)]
    simp only [Option.bind_some, beq_self_eq_true, cond_true]

end
end Go.Proofs.YtaackaafmidjkaaDoorLg
