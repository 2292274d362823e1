import Derived.Test.YtaackaafmidjkaaDoorLgPrBg5
import Derived.Test.YtaackaafmidjkaaDoorLgPrBg1
import Derived.Lib.MapLaws
set_option linter.all false
set_option maxRecDepth 100000
namespace Go.Proofs.YtaackaafmidjkaaDoorLg
noncomputable section
open Go Go.Lift Go.Proofs.YtaackaafmidjkaaDoorPx

def zd9 (s : List UInt8) (e f : Int) : List UInt8 × Int := if e ≠ 0 then (s, e) else ([], f)

theorem z107 (N : Nat) (s : List UInt8) (e : Int) {f : Int} (hf : f ≠ 0) : zm N (rdr s e) f = some ((), (rdr (zd9 s e f).1 (zd9 s e f).2, ())) := by
  unfold zd9
  by_cases he : e = 0
  . subst he
    rw [if_neg (by simp)]; exact z16n N s hf
  . rw [if_pos he]; exact z193 N s he f
theorem zrc (N : Nat) (s : List UInt8) (e : Int) {f : Int} (hf : f ≠ 0) : z9 N (rf s e) f = some (rf (zd9 s e f).1 (zd9 s e f).2) := by
  unfold zd9
  by_cases he : e = 0
  . subst he
    rw [if_neg (by simp)]; exact zdi N s hf
  . rw [if_pos he]; exact z14z N s he f
theorem zrj {s : List UInt8} {e : Int} (h : z5y s e) (f : Int) : z5y (zd9 s e f).1 (zd9 s e f).2 := by
  unfold zd9
  by_cases he : e = 0
  . subst he
    rw [if_neg (by simp)]; exact zmv f
  . rw [if_pos he]; exact h

def zti (s : List UInt8) : Int × List UInt8 × Int := match s with
  | [] => (0, [], 1)
  | a :: l => ((a.toNat : Int), l, 0)

theorem z1c7 (N : Nat) {s : List UInt8} (hs : s.length <= 1000000) : z16 N (rdr s 0) = some ((zti s).1, (rdr (zti s).2.1 (zti s).2.2, ())) := by
  cases s with
  | nil => rfl
  | cons a l => exact z19e N a l hs
theorem z18f (N : Nat) (s : List UInt8) : z1n N (rf s 0) = some ((zti s).1, (rf (zti s).2.1 (zti s).2.2, ())) := by
  cases s with
  | nil =>
    rw [z1n, show (rf [] 0).2.1 = 0 from rfl, bne_self_eq_false, cond_false, show (rf [] 0).1 = [] from rfl, z8 (beq_self_eq_true _), zdi N [] (by decide)]
    rfl
  | cons a l =>
    rw [z1n, show (rf (a :: l) 0).2.1 = 0 from rfl, bne_self_eq_false, cond_false, show (rf (a :: l) 0).1 = a :: l from rfl, zp (by rfl),
      z8 (z1cz (by omega) (by simp only [List.length_cons]; omega)), z8 (decide_eq_true ⟨by omega, by simp only [List.length_cons]; omega⟩)]
    have ec : cut (a :: l) 1 (List.length (a :: l)) = l := by simp [cut]
    rw [ec]
    rfl
theorem z176 {s : List UInt8} (hs : s.length <= 1000000) : z5y (zti s).2.1 (zti s).2.2 := by
  cases s with
  | nil => exact zmv 1
  | cons a l => exact ⟨by simp only [List.length_cons] at hs; simp only [zti]; omega, fun h => absurd rfl h⟩

def z196 (s : List UInt8) (e : Int) : Int := if s = [] then e else 2

theorem z123 (N : Nat) {s : List UInt8} {e : Int} (h : z5y s e) : z2q N (rdr s e) = some (z196 s e, (rdr [] (z196 s e), ())) := by
  cases s with
  | nil =>
    rw [z2q, z4g, show (rdr [] e).2.1 = [] from rfl, zp (by rfl), err_t]
    rfl
  | cons a l =>
    have he : e = 0 := Decidable.byContradiction fun he => by cases h.2 he
    subst he
    rw [z2q, z4g, show (rdr (a :: l) 0).2.1 = a :: l from rfl, z8 (decide_eq_true (by simp only [List.length_cons]; omega)), z16n N _ (by decide)]
    rfl
theorem z1bm (N : Nat) {s : List UInt8} {e : Int} (h : z5y s e) : z2u N (rf s e) = some (rf [] (z196 s e)) := by
  cases s with
  | nil =>
    rw [z2u, show (rf [] e).1 = [] from rfl]
    rfl
  | cons a l =>
    have he : e = 0 := Decidable.byContradiction fun he => by cases h.2 he
    subst he
    rw [z2u, show (rf (a :: l) 0).1 = a :: l from rfl, z8 (by rfl), zdi N _ (by decide)]
    rfl

theorem zwc {s s' : List UInt8} {e most v : Int} (h : zgg s e most = (v, s', 0)) : e = 0 /\ ∃ n : Nat, v = (n : Int) /\ n < 18446744073709551616 /\ (n : Int) <= most /\ s = z60 n ++ s' := by
  unfold zgg at h
  split at h
  . rename_i he
    cases h
    exact absurd rfl he
  . rename_i he
    split at h
    . rename_i hf
      exact absurd (Prod.mk.inj (Prod.mk.inj h).2).2 hf
    . rename_i hf
      split at h
      . cases h
      . rename_i hm
        cases h
        have hf' : (z42 s).2.2 = 0 := by simpa using hf
        have := Go.Proofs.YtaackaafmidjkaaDoorPx.take_ok (s := s) (n := (z42 s).1) (k := (z42 s).2.1) (by rw [<- hf'])
        exact ⟨by simpa using he, (z42 s).1, rfl, this.1, by omega, by rw [this.2.2.2, List.take_append_drop]⟩

theorem zzw {n : Nat} {s' : List UInt8} {most : Int} (hn : n < 18446744073709551616) (hm : (n : Int) <= most) : zgg (z60 n ++ s') 0 most = ((n : Int), s', 0) := by
  unfold zgg
  rw [if_neg (by simp), z182 hn]
  simp only
  rw [if_neg (by simp), if_neg (by omega), List.drop_left]

end
end Go.Proofs.YtaackaafmidjkaaDoorLg

set_option linter.all false
set_option maxRecDepth 100000
namespace Go.Proofs.YtaackaafmidjkaaDoorLg
noncomputable section
open Go Go.Lift Go.Proofs.YtaackaafmidjkaaDoorPx

abbrev ztv := List UInt8 × (List UInt8 × Unit)
abbrev z5v := List UInt8 × (List ztv × (List UInt8 × Unit))

def zhb (l : ztv) : Bool := if l.2.1 = [] then decide (2048 < l.1.length) else decide (4144 < l.1.length) || decide (4144 < l.2.1.length)
def zm7 (t : List UInt8) : List UInt8 := z60 t.length ++ t
def z17t (l : ztv) : List UInt8 := if l.2.1 = [] then (0 : UInt8) :: zm7 l.1 else (1 : UInt8) :: (zm7 l.1 ++ zm7 l.2.1)
def zid : List ztv -> List UInt8
  | [] => []
  | l :: ls => z17t l ++ zid ls
def ztu (t : z5v) : List UInt8 := zm7 t.1 ++ (z60 t.2.1.length ++ zid t.2.1)
def zvo (t : z5v) : Int := if 64 < t.2.1.length then 3 else if t.2.1.any zhb then 3 else if 4144 < t.1.length then 3 else 0
def zgh (t : z5v) : Int := if zvo t ≠ 0 then zvo t else if t.2.2.1.length ≠ 32 then 7 else 0
def putT (t : z5v) : List UInt8 × Int × Unit := if zgh t ≠ 0 then ([], zgh t, ()) else (ztu t ++ t.2.2.1, 0, ())

def vE (c : Int) : Value := if c = 0 then .nilIface else eV c

theorem z14b (c : Int) : isIfc (vE c) = true := by unfold vE; split <;> rfl
theorem z14a (c : Int) : isNilV (vE c) = decide (c = 0) := by
  unfold vE
  by_cases h : c = 0
  . rw [if_pos h, decide_eq_true h]; rfl
  . rw [if_neg h, decide_eq_false h]; rfl
theorem z14c (N : Nat) (c : Int) : zdc N (vE c) = some c := by
  unfold vE
  by_cases h : c = 0
  . rw [if_pos h, h]; rfl
  . rw [if_neg h]; rfl

theorem zna (N : Nat) (s : List UInt8) (m : Int) : z43 N s m = some (vE (if m < (s.length : Int) then 3 else 0)) := by
  rw [z43]
  by_cases h : m < (s.length : Int)
  . rw [z8 (decide_eq_true h), if_pos h]; rfl
  . rw [zp (decide_eq_false h), if_neg h]; rfl

theorem zyv (N : Nat) (l : ztv) : z58 N l = some (vE (if zhb l then 3 else 0)) := by
  rw [z58, zna, zna, zna]
  simp only [Option.bind_some, z14b, z14a, cond_true]
  unfold zhb
  by_cases h : l.2.1 = []
  . rw [z8 (by rw [h]; rfl), if_pos h]
    by_cases h1 : 2048 < l.1.length
    . rw [if_pos (by omega), if_pos (decide_eq_true h1)]
    . rw [if_neg (by omega), if_neg (by simpa using h1)]
  . rw [zp (beq_eq_false_iff_ne.2 h), if_neg h]
    by_cases h1 : 4144 < l.1.length
    . rw [if_pos (by omega), z8 (by rfl), if_pos (by simp [h1])]
    . rw [if_neg (by omega), zp (by rfl)]
      by_cases h2 : 4144 < l.2.1.length
      . rw [if_pos (by omega), if_pos (by simp [h2])]
      . rw [if_neg (by omega), if_neg (by simp [h1, h2])]

theorem z13u (N : Nat) (t : z5v) (l : List ztv) (hl : l.length < N) (hl' : l.length <= 1000000) (K : Option Value) :
    z7r N t l ((l.length : Nat) : Int) 0 (fun x2 => some x2) K = cond (l.any zhb) (some (vE 3)) K := by
  rw [z7r]
  refine (z68 (fun v => ∃ i : Nat, v = (i : Int) /\ i <= l.length) (fun v => ((l.length : Int) - v).toNat) (fun v => cond ((l.drop v.toNat).any zhb) (some (vE 3)) K) ?_ N 0 ⟨0, rfl, by omega⟩ (by omega)).trans (by rfl)
  rintro _ r ⟨i, rfl, hi⟩ hr
  simp only [Int.toNat_natCast]
  rw [z7q]
  by_cases hlt : i < l.length
  . rw [z8 (decide_eq_true (by omega)), z8 (z69 hlt), Int.toNat_natCast, ztc l (([] : List UInt8), (([] : List UInt8), ())) i hlt, zyv, Option.bind_some, z14b, cond_true, z14a]
    generalize l.getD i (([] : List UInt8), (([] : List UInt8), ())) = v
    simp only [List.any_cons]
    cases hv : zhb v with
    | true => rfl
    | false =>
      rw [z3a (by omega), hr _ ⟨i + 1, rfl, by omega⟩ (by omega)]
      rfl
  . rw [zp (decide_eq_false (by omega)), ztb l (by omega)]; rfl

theorem zqr (N : Nat) (hN : 100 < N) (t : z5v) : z3p N t = some (vE (zvo t)) := by
  rw [z3p]
  unfold zvo
  by_cases h : 64 < t.2.1.length
  . rw [z8 (decide_eq_true (by omega)), if_pos h]; rfl
  . rw [zp (decide_eq_false (by omega)), if_neg h, z13u N t _ (by omega) (by omega), zna, Option.bind_some]
    cases h1 : t.2.1.any zhb with
    | true => rfl
    | false =>
      rw [cond_false, if_neg (show ¬ (false = true) by simp)]
      by_cases h2 : 4144 < t.1.length
      . rw [if_pos (by omega), if_pos h2]
      . rw [if_neg (by omega), if_neg h2]

theorem z19b (N : Nat) (hN : 100 < N) (t : z5v) : zbl N t = some (vE (zgh t)) := by
  rw [zbl, zqr N hN, Option.bind_some, z14b, cond_true, z14a]
  unfold zgh
  by_cases h : zvo t = 0
  . rw [zp (by rw [h]; rfl), if_neg (by simpa using h)]
    by_cases h1 : t.2.2.1.length = 32
    . rw [zp (by rw [h1]; rfl), if_neg (by simpa using h1)]; rfl
    . rw [z8 (by rw [bne_iff_ne]; omega), if_pos h1]; rfl
  . rw [z8 (by rw [decide_eq_false h]; rfl), if_pos h]

def Sz (t : z5v) : Prop := t.1.length <= 6000 /\ t.2.1.length <= 70 /\ (∀ l ∈ t.2.1, l.1.length <= 6000 /\ l.2.1.length <= 6000) /\ t.2.2.1.length <= 6000

theorem zgx (t : List UInt8) : (zm7 t).length <= 10 + t.length := by
  have := (z7s t.length).2
  unfold zm7; rw [List.length_append]; omega

theorem z197 {l : ztv} (h : l.1.length <= 6000 /\ l.2.1.length <= 6000) : (z17t l).length <= 12021 := by
  have h1 := zgx l.1
  have h2 := zgx l.2.1
  unfold z17t
  split <;> simp only [List.length_cons, List.length_append] <;> omega

theorem z1a0 (N : Nat) {o : List UInt8} (b : UInt8) (h : o.length + 1 <= 1000000) : z1c N ((), (ofStr o, ())) ((b.toNat : Nat) : Int) = some (Go.Value.nilIface, (((), (ofStr (o ++ [b]), ())), ())) := by
  rw [z1c]
  simp only [zjr]
  rw [z8 (decide_eq_true (by omega))]
  simp [ofStr]

theorem z148 (N : Nat) {o s : List UInt8} (h : o.length + s.length <= 1000000) : ze N ((), (ofStr o, ())) s = some ((((s.length : Nat) : Int), (Go.Value.nilIface, ())), (((), (ofStr (o ++ s), ())), ())) := by
  rw [ze]
  simp only [zjr]
  rw [z8 (decide_eq_true (by omega))]
  simp [ofStr]

theorem z18l (s : List UInt8) : zpi (ofStr s) = true := by
  unfold zpi ofStr
  rw [List.all_map, List.all_eq_true]
  intro b _
  have := b.toNat_lt
  simp only [Function.comp, Bool.and_eq_true, decide_eq_true_eq]
  omega

theorem z17a (N : Nat) (hN : 100 < N) (l : List ztv) (hl : l.length <= 70) (hz : ∀ x ∈ l, x.1.length <= 6000 /\ x.2.1.length <= 6000) (out : List UInt8) (ho : out.length <= 7000) :
    zgo N ((), (ofStr out, ())) l ((l.length : Nat) : Int) 0 (fun out => (zzc (out, ())).bind fun y4 => some y4.1) = some (out ++ zid l) := by
  rw [zgo]
  refine (z68 (fun v => ∃ i : Nat, ∃ o : List UInt8, v.1 = ((), (ofStr o, ())) /\ v.2 = (i : Int) /\ i <= l.length /\ o.length <= 7000 + 12100 * i) (fun v => ((l.length : Int) - v.2).toNat) (fun v => some (toStr v.1.2.1 ++ zid (l.drop v.2.toNat))) ?_ N (((), (ofStr out, ())), 0) ⟨0, out, rfl, rfl, by omega, by simpa using ho⟩ (by simp only; omega)).trans (by simp only [z93]; rfl)
  rintro ⟨o, i⟩ r ⟨i, o, rfl, rfl, hi, hlen⟩ hr
  try simp only at hlen
  simp only [Int.toNat_natCast, z93]
  rw [zgn]
  by_cases hlt : i < l.length
  . rw [z8 (decide_eq_true (by omega)), z8 (z69 hlt), Int.toNat_natCast, ztc l (([] : List UInt8), (([] : List UInt8), ())) i hlt]
    have hv : (l.getD i (([] : List UInt8), (([] : List UInt8), ()))).1.length <= 6000 /\ (l.getD i (([] : List UInt8), (([] : List UInt8), ()))).2.1.length <= 6000 := hz _ (by
      rw [List.getD_eq_getElem?_getD, List.getElem?_eq_getElem hlt, Option.getD_some]; exact List.getElem_mem hlt)
    generalize l.getD i (([] : List UInt8), (([] : List UInt8), ())) = v at hv ⊢
    have h1 := zgx v.1
    have h2 := zgx v.2.1
    have b0 := z1a0 N (o := o) 0 (by omega)
    have b1 := z1a0 N (o := o) 1 (by omega)
    rw [show (((0 : UInt8).toNat : Nat) : Int) = 0 from rfl] at b0
    rw [show (((1 : UInt8).toNat : Nat) : Int) = 1 from rfl] at b1
    by_cases he : v.2.1 = []
    . rw [z8 (by rw [he]; rfl), b0, Option.bind_some, zol N (by omega) (by omega), Option.bind_some]
      simp only
      rw [show z60 v.1.length ++ v.1 = zm7 v.1 from rfl, z148 N (by simp only [List.length_append, List.length_cons, List.length_nil]; omega), Option.bind_some, z3a (by omega)]
      simp only
      rw [hr _ ⟨i + 1, _, rfl, rfl, by omega, by simp only [List.length_append, List.length_cons, List.length_nil]; omega⟩ (by simp only; omega)]
      simp only [Int.toNat_natCast, z93, zid, z17t, if_pos he, List.append_assoc, List.cons_append, List.nil_append]
    . rw [zp (beq_eq_false_iff_ne.2 he), b1, Option.bind_some, zol N (by omega) (by omega), Option.bind_some]
      simp only
      rw [show z60 v.1.length ++ v.1 = zm7 v.1 from rfl, z148 N (by simp only [List.length_append, List.length_cons, List.length_nil]; omega), Option.bind_some, zol N (by omega) (by omega), Option.bind_some]
      simp only
      rw [show z60 v.2.1.length ++ v.2.1 = zm7 v.2.1 from rfl, z148 N (by simp only [List.length_append, List.length_cons, List.length_nil]; omega), Option.bind_some, z3a (by omega)]
      simp only
      rw [hr _ ⟨i + 1, _, rfl, rfl, by omega, by simp only [List.length_append, List.length_cons, List.length_nil]; omega⟩ (by simp only; omega)]
      simp only [Int.toNat_natCast, z93, zid, z17t, if_neg he, List.append_assoc, List.cons_append, List.nil_append]
  . rw [zp (decide_eq_false (by omega)), ztb l (by omega), zid]
    simp only [zzc]
    rw [z18l, Bool.true_and, z8 (decide_eq_true (by rw [zjr]; omega)), z93, List.append_nil]
    rfl

theorem z17b (N : Nat) (hN : 100 < N) {t : z5v} (h : Sz t) : zbb N t = some (ztu t) := by
  obtain ⟨h1, h2, h3, h4⟩ := h
  have hx := zgx t.1
  have hp := z7s t.2.1.length
  rw [zbb, zol N (by omega) (by omega), Option.bind_some]
  have hw := z148 N (o := []) (s := zm7 t.1) (by simp only [List.length_nil]; omega)
  rw [show (ofStr [] : List Int) = [] from rfl] at hw
  rw [show z60 t.1.length ++ t.1 = zm7 t.1 from rfl, hw, Option.bind_some, z29 (by omega), zwm N (by omega) (by omega), Option.bind_some]
  simp only
  rw [z148 N (by simp only [List.length_nil, List.nil_append]; omega), Option.bind_some]
  simp only
  rw [z17a N hN _ h2 h3 _ (by simp only [List.length_append, List.length_nil]; omega)]
  simp only [ztu, List.nil_append, List.append_assoc]

theorem zyo : ∀ {l : List ztv}, (∀ x ∈ l, x.1.length <= 6000 /\ x.2.1.length <= 6000) -> (zid l).length <= 12021 * l.length
  | [], _ => by simp [zid]
  | x :: l, h => by
    have h1 := z197 (h x (List.mem_cons_self ..))
    have h2 := zyo (l := l) (fun y hy => h y (List.mem_cons_of_mem _ hy))
    simp only [zid, List.length_append, List.length_cons]; omega

theorem zkl {t : z5v} (h : Sz t) : (ztu t).length <= 900000 := by
  obtain ⟨h1, h2, h3, h4⟩ := h
  have hx := zgx t.1
  have hp := z7s t.2.1.length
  have hl := zyo h3
  unfold ztu
  simp only [List.length_append]; omega

theorem z1bb (N : Nat) (hN : 100 < N) {t : z5v} (h : Sz t) : zfc N t = some (putT t) := by
  have hl := zkl h
  have h4 := h.2.2.2
  rw [zfc, z19b N hN, Option.bind_some, z14c, Option.bind_some]
  unfold putT
  by_cases hb : zgh t = 0
  . rw [zp (by rw [hb]; rfl), if_neg (by simpa using hb), z17b N hN h, Option.bind_some, z8 (decide_eq_true (by omega))]
  . rw [z8 (by rw [bne_iff_ne]; exact hb), if_pos hb]

theorem z17y (N : Nat) (hN : 100 < N) {t : z5v} (h : Sz t) : zfb N t = some (if zvo t = 0 then (((ztu t).length + 32 : Nat) : Int) else 0) := by
  have hl := zkl h
  rw [zfb, zqr N hN, Option.bind_some, z14c, Option.bind_some]
  by_cases hb : zvo t = 0
  . rw [zp (by rw [hb]; rfl), if_pos hb, z17b N hN h, Option.bind_some, z7o (by unfold I64; omega)]
    rfl
  . rw [z8 (by rw [bne_iff_ne]; exact hb), if_neg hb]


end
end Go.Proofs.YtaackaafmidjkaaDoorLg

set_option linter.all false
set_option maxRecDepth 100000
namespace Go.Proofs.YtaackaafmidjkaaDoorLg
noncomputable section
open Go Go.Lift Go.Proofs.YtaackaafmidjkaaDoorPx

def z21 (s : List UInt8) (e : Int) : Int × List UInt8 × Int := if e ≠ 0 then (0, s, e) else zti s

theorem z127 (N : Nat) {s : List UInt8} {e : Int} (h : z5y s e) : z16 N (rdr s e) = some ((z21 s e).1, (rdr (z21 s e).2.1 (z21 s e).2.2, ())) := by
  unfold z21
  by_cases he : e = 0
  . subst he; rw [if_neg (by simp)]; exact z1c7 N h.1
  . rw [if_pos he]; exact z19h N s he

theorem z156 (N : Nat) (s : List UInt8) (e : Int) : z1n N (rf s e) = some ((z21 s e).1, (rf (z21 s e).2.1 (z21 s e).2.2, ())) := by
  unfold z21
  by_cases he : e = 0
  . subst he; rw [if_neg (by simp)]; exact z18f N s
  . rw [if_pos he, z1n, show (rf s e).2.1 = e from rfl, bne_iff_ne.2 he]
    rfl

theorem zos {s : List UInt8} {e : Int} (h : z5y s e) : z5y (z21 s e).2.1 (z21 s e).2.2 := by
  unfold z21
  by_cases he : e = 0
  . subst he; rw [if_neg (by simp)]; exact z176 h.1
  . rw [if_pos he]; exact h

def l0 (s : List UInt8) (e : Int) := z35 (z21 s e).2.1 (z21 s e).2.2 2048
def l1 (s : List UInt8) (e : Int) := z35 (z21 s e).2.1 (z21 s e).2.2 4144
def l2 (s : List UInt8) (e : Int) := z35 (l1 s e).2.1 (l1 s e).2.2 4144

def z9d (s : List UInt8) (e : Int) : ztv × (List UInt8 × Int) :=
 if (z21 s e).1 = 0 then (((l0 s e).1, ([], ())), (l0 s e).2)
 else if (z21 s e).1 = 1 then (((l1 s e).1, ((l2 s e).1, ())), if (l2 s e).1 = [] then zd9 (l2 s e).2.1 (l2 s e).2.2 2 else (l2 s e).2)
 else (([], ([], ())), zd9 (z21 s e).2.1 (z21 s e).2.2 2)

theorem zwg {s : List UInt8} {e : Int} (h : z5y s e) : z5y (z9d s e).2.1 (z9d s e).2.2 := by
  have hb := zos h
  have h0 : z5y (l0 s e).2.1 (l0 s e).2.2 := zgq hb
  have h1 : z5y (l1 s e).2.1 (l1 s e).2.2 := zgq hb
  have h2 : z5y (l2 s e).2.1 (l2 s e).2.2 := zgq h1
  unfold z9d
  split
  . exact h0
  . split
    . show z5y (if (l2 s e).1 = [] then zd9 (l2 s e).2.1 (l2 s e).2.2 2 else (l2 s e).2).1 (if (l2 s e).1 = [] then zd9 (l2 s e).2.1 (l2 s e).2.2 2 else (l2 s e).2).2
      split
      . exact zrj h2 2
      . exact h2
    . exact zrj hb 2

theorem z13m (N : Nat) (hN : 20 < N) {s : List UInt8} {e : Int} (h : z5y s e) : z7p N (rdr s e) = some ((z9d s e).1, (rdr (z9d s e).2.1 (z9d s e).2.2, ())) := by
  have hb := zos h
  have h1 : z5y (l1 s e).2.1 (l1 s e).2.2 := zgq hb
  have q0 : zq N (rdr (z21 s e).2.1 (z21 s e).2.2) 2048 = some ((l0 s e).1, (rdr (l0 s e).2.1 (l0 s e).2.2, ())) := zs4 N hN hb (by decide)
  have q1 : zq N (rdr (z21 s e).2.1 (z21 s e).2.2) 4144 = some ((l1 s e).1, (rdr (l1 s e).2.1 (l1 s e).2.2, ())) := zs4 N hN hb (by decide)
  have q2 : zq N (rdr (l1 s e).2.1 (l1 s e).2.2) 4144 = some ((l2 s e).1, (rdr (l2 s e).2.1 (l2 s e).2.2, ())) := zs4 N hN h1 (by decide)
  rw [z7p, z127 N h, Option.bind_some]
  unfold z9d
  by_cases c0 : (z21 s e).1 = 0
  . rw [z8 (beq_iff_eq.2 c0), if_pos c0, q0]; rfl
  . rw [zp (beq_eq_false_iff_ne.2 c0), if_neg c0]
    by_cases c1 : (z21 s e).1 = 1
    . rw [z8 (beq_iff_eq.2 c1), if_pos c1, q1, Option.bind_some, q2, Option.bind_some]
      by_cases c2 : (l2 s e).1 = []
      . rw [z8 (beq_iff_eq.2 c2), if_pos c2, z107 N _ _ (by decide)]; rfl
      . rw [zp (beq_eq_false_iff_ne.2 c2), if_neg c2]
    . rw [zp (beq_eq_false_iff_ne.2 c1), if_neg c1, z107 N _ _ (by decide)]; rfl

theorem zxe {s : List UInt8} {e : Int} (he : e ≠ 0) (m : Int) : z35 s e m = ([], s, e) := zs6 s he m

theorem z16p {s : List UInt8} {e : Int} (he : e ≠ 0) (f : Int) : zd9 s e f = (s, e) := by unfold zd9; rw [if_pos he]

theorem zrk {s : List UInt8} {e f : Int} (hf : f ≠ 0) : (zd9 s e f).2 ≠ 0 := by
  unfold zd9
  by_cases he : e = 0
  . rw [if_neg (by simpa using he)]; exact hf
  . rw [if_pos he]; exact he

theorem z175 (s : List UInt8) (e : Int) : 0 <= (z21 s e).1 := by
  unfold z21
  split
  . exact Int.le_refl _
  . cases s <;> simp [zti]

theorem z18a (N : Nat) (hN : 20 < N) {s : List UInt8} {e : Int} (h : z5y s e) (x2 t : z5v) (n i : Int) (hl : t.2.1.length <= 1000) (K : z5v -> z1d9 -> Option (z5v × Int × Unit)) :
    z53 N x2 t (rf s e) n i K = K (t.1, ((t.2.1 ++ [(z9d s e).1]), t.2.2)) (rf (z9d s e).2.1 (z9d s e).2.2) := by
  have hb := zos h
  have hp := z175 s e
  have h1 : z5y (l1 s e).2.1 (l1 s e).2.2 := zgq hb
  have q0 : zn N (rf (z21 s e).2.1 (z21 s e).2.2) 2048 = some ((l0 s e).1, (rf (l0 s e).2.1 (l0 s e).2.2, ())) := zgv N hN hb (by decide)
  have q1 : zn N (rf (z21 s e).2.1 (z21 s e).2.2) 4144 = some ((l1 s e).1, (rf (l1 s e).2.1 (l1 s e).2.2, ())) := zgv N hN hb (by decide)
  have q2 : zn N (rf (l1 s e).2.1 (l1 s e).2.2) 4144 = some ((l2 s e).1, (rf (l2 s e).2.1 (l2 s e).2.2, ())) := zgv N hN h1 (by decide)
  have hc : decide ((((List.length t.2.1) + 1) * 32) <= 70368744177664) = true := decide_eq_true (by omega)
  rw [z53, z156, Option.bind_some, z7z]
  simp only [hc, cond_true]
  unfold z9d
  by_cases c0 : (z21 s e).1 = 0
  . rw [zp (decide_eq_false (by omega)), if_pos c0, z3b, z8 (beq_iff_eq.2 c0), q0]; rfl
  . rw [if_neg c0]
    by_cases c1 : (z21 s e).1 = 1
    . rw [zp (decide_eq_false (by omega)), if_pos c1, z3b, zp (beq_eq_false_iff_ne.2 c0), q1, Option.bind_some, q2, Option.bind_some]
      by_cases c2 : (l2 s e).1 = []
      . rw [z8 (beq_iff_eq.2 c2), if_pos c2, zrc N _ _ (by decide), Option.bind_some]
      . rw [zp (beq_eq_false_iff_ne.2 c2), if_neg c2]
    . rw [z8 (decide_eq_true (by omega)), if_neg c1, zrc N _ _ (by decide), Option.bind_some, z3b, zp (beq_eq_false_iff_ne.2 c0)]
      have hne := zrk (s := (z21 s e).2.1) (e := (z21 s e).2.2) (f := 2) (by decide)
      have hi : z5y (zd9 (z21 s e).2.1 (z21 s e).2.2 2).1 (zd9 (z21 s e).2.1 (z21 s e).2.2 2).2 := zrj hb 2
      rw [zgv N hN hi (by decide), Option.bind_some, zxe hne]
      simp only
      rw [zgv N hN hi (by decide), Option.bind_some, zxe hne, z8 (by rfl)]
      simp only
      rw [zrc N _ _ (by decide), Option.bind_some, z16p hne]

def z4o : Nat -> List UInt8 -> Int -> List ztv -> List ztv × (List UInt8 × Int)
  | 0, s, e, acc => (acc, (s, e))
  | n + 1, s, e, acc => z4o n (z9d s e).2.1 (z9d s e).2.2 (acc ++ [(z9d s e).1])

theorem zya : ∀ (n : Nat) {s : List UInt8} {e : Int} (acc : List ztv), z5y s e -> z5y (z4o n s e acc).2.1 (z4o n s e acc).2.2
  | 0, _, _, _, h => h
  | n + 1, _, _, _, h => zya n _ (zwg h)

theorem z16b (N : Nat) (hN : 100 < N) {s : List UInt8} {e : Int} (h : z5y s e) (n : Nat) (hn : n <= 64) (x2 : z5v) (id : List UInt8) (K : RdrT.den -> z5v -> Option (z5v × Int × Unit)) :
    zj0 N x2 (rdr s e) (id, ([], ([], ()))) (n : Int) 0 K = K (rdr (z4o n s e []).2.1 (z4o n s e []).2.2) (id, ((z4o n s e []).1, ([], ()))) := by
  rw [zj0]
  refine (z68 (fun v => ∃ i s e acc, v = (rdr s e, ((id, (acc, ([], ()))), ((i : Nat) : Int))) /\ i <= n /\ z5y s e /\ acc.length = i) (fun v => ((n : Int) - v.2.2).toNat) (fun v => K (rdr (z4o (n - v.2.2.toNat) v.1.2.1 v.1.2.2.1 v.2.1.2.1).2.1 (z4o (n - v.2.2.toNat) v.1.2.1 v.1.2.2.1 v.2.1.2.1).2.2) (id, ((z4o (n - v.2.2.toNat) v.1.2.1 v.1.2.2.1 v.2.1.2.1).1, ([], ())))) ?_ N (rdr s e, ((id, ([], ([], ()))), 0)) ⟨0, s, e, [], rfl, by omega, h, rfl⟩ (by simp only; omega)).trans (by rfl)
  rintro _ r ⟨i, s, e, acc, rfl, hi, hinv, hacc⟩ hr
  simp only [Int.toNat_natCast]
  rw [ziy]
  by_cases hlt : i < n
  . rw [z8 (decide_eq_true (by omega)), z13m N (by omega) hinv, Option.bind_some]
    simp only
    rw [z8 (decide_eq_true (by omega)), show (((i : Nat) : Int) + 1) = ((i + 1 : Nat) : Int) from rfl, z29 (by omega)]
    rw [hr _ ⟨i + 1, _, _, _, rfl, by omega, zwg hinv, by simp [hacc]⟩ (by simp only; omega)]
    simp only [Int.toNat_natCast]
    rw [show n - i = (n - (i + 1)) + 1 by omega]
    rfl
  . rw [zp (decide_eq_false (by omega)), show n - i = 0 by omega]
    rfl

theorem z12p (N : Nat) (hN : 100 < N) {s : List UInt8} {e : Int} (h : z5y s e) (n : Nat) (hn : n <= 64) (x2 : z5v) (id : List UInt8) (K : z5v -> z1d9 -> Option (z5v × Int × Unit)) :
    z80 N x2 (id, ([], ([], ()))) (rf s e) (n : Int) 0 K = K (id, ((z4o n s e []).1, ([], ()))) (rf (z4o n s e []).2.1 (z4o n s e []).2.2) := by
  rw [z80]
  refine (z68 (fun v => ∃ i s e acc, v = ((id, (acc, ([], ()))), (rf s e, ((i : Nat) : Int))) /\ i <= n /\ z5y s e /\ acc.length = i) (fun v => ((n : Int) - v.2.2).toNat) (fun v => K (id, ((z4o (n - v.2.2.toNat) v.2.1.1 v.2.1.2.1 v.1.2.1).1, ([], ()))) (rf (z4o (n - v.2.2.toNat) v.2.1.1 v.2.1.2.1 v.1.2.1).2.1 (z4o (n - v.2.2.toNat) v.2.1.1 v.2.1.2.1 v.1.2.1).2.2)) ?_ N ((id, ([], ([], ()))), (rf s e, 0)) ⟨0, s, e, [], rfl, by omega, h, rfl⟩ (by simp only; omega)).trans (by rfl)
  rintro _ r ⟨i, s, e, acc, rfl, hi, hinv, hacc⟩ hr
  simp only [Int.toNat_natCast]
  rw [z7w, z7o (x := (n : Int)) (by unfold I64; omega)]
  by_cases hlt : i < n
  . rw [z8 (decide_eq_true (by omega)), z18a N (by omega) hinv _ _ _ _ (by simp only; omega), z3a (by omega)]
    rw [hr _ ⟨i + 1, _, _, _, rfl, by omega, zwg hinv, by simp [hacc]⟩ (by simp only; omega)]
    simp only [Int.toNat_natCast]
    rw [show n - i = (n - (i + 1)) + 1 by omega]
    rfl
  . rw [zp (decide_eq_false (by omega)), show n - i = 0 by omega]
    rfl

def zza : Nat -> Nat -> List UInt8 -> Int -> List Int -> List Int × (List UInt8 × Int)
  | 0, _, s, e, tag => (tag, (s, e))
  | k + 1, i, s, e, tag => zza k (i + 1) (z21 s e).2.1 (z21 s e).2.2 (tag.set i (z21 s e).1)

theorem zz9 : ∀ (k i : Nat) {s : List UInt8} {e : Int} (tag : List Int), e ≠ 0 -> (zza k i s e tag).2 = (s, e)
  | 0, _, _, _, _, _ => rfl
  | k + 1, i, s, e, tag, h => by
    have hb : z21 s e = (0, s, e) := by unfold z21; rw [if_pos h]
    rw [zza, hb]
    exact zz9 k (i + 1) _ h

theorem z1a1 : ∀ (k i : Nat) (s : List UInt8) (tag : List Int), tag.length = i + k -> k <= s.length -> zza k i s 0 tag = (tag.take i ++ ofStr (s.take k), (s.drop k, 0))
  | 0, i, s, tag, h, _ => by
    rw [zza, List.take_of_length_le (by omega)]
    simp [ofStr]
  | k + 1, i, [], tag, h, hk => by simp at hk
  | k + 1, i, a :: s, tag, h, hk => by
    have hb : z21 (a :: s) 0 = ((a.toNat : Int), s, 0) := by unfold z21; rw [if_neg (by simp)]; rfl
    simp only [List.length_cons] at hk
    rw [zza, hb]
    simp only
    rw [z1a1 k (i + 1) s _ (by rw [List.length_set]; omega) (by omega), List.take_set, List.take_succ_cons, List.drop_succ_cons]
    have hi : i < tag.length := by omega
    congr 1
    have : (tag.take (i + 1)).set i (a.toNat : Int) = tag.take i ++ [(a.toNat : Int)] := by
      rw [List.take_succ, List.getElem?_eq_getElem hi, Option.toList_some, List.set_append_right _ _ (by rw [List.length_take]; omega), List.length_take, Nat.min_eq_left (by omega), Nat.sub_self]
      rfl
    rw [this, List.append_assoc]
    simp [ofStr]

theorem zxj : ∀ (k i : Nat) (s : List UInt8) (tag : List Int), s.length < k -> (zza k i s 0 tag).2 = ([], 1)
  | 0, i, s, tag, h => by omega
  | k + 1, i, [], tag, _ => by
    have hb : z21 [] 0 = (0, [], 1) := by unfold z21; rw [if_neg (by simp)]; rfl
    rw [zza, hb]
    exact zz9 k (i + 1) _ (by decide)
  | k + 1, i, a :: s, tag, h => by
    have hb : z21 (a :: s) 0 = ((a.toNat : Int), s, 0) := by unfold z21; rw [if_neg (by simp)]; rfl
    simp only [List.length_cons] at h
    rw [zza, hb]
    exact zxj k (i + 1) s _ (by omega)

theorem z1by (N : Nat) (hN : 100 < N) {s : List UInt8} {e : Int} (h : z5y s e) (x2 t : z5v) (K : RdrT.den -> List Int -> Option (z5v × Int × Unit)) :
    ziz N x2 (rdr s e) t (List.replicate 32 (0 : Int)) (((List.length (List.replicate 32 (0 : Int))) : Nat) : Int) 0 K = K (rdr (zza 32 0 s e (List.replicate 32 0)).2.1 (zza 32 0 s e (List.replicate 32 0)).2.2) (zza 32 0 s e (List.replicate 32 0)).1 := by
  rw [ziz, show (((List.length (List.replicate 32 (0 : Int))) : Nat) : Int) = 32 from rfl]
  refine (z68 (fun v => ∃ i s e tag, v = (rdr s e, (tag, ((i : Nat) : Int))) /\ i <= 32 /\ z5y s e /\ tag.length = 32) (fun v => ((32 : Int) - v.2.2).toNat) (fun v => K (rdr (zza (32 - v.2.2.toNat) v.2.2.toNat v.1.2.1 v.1.2.2.1 v.2.1).2.1 (zza (32 - v.2.2.toNat) v.2.2.toNat v.1.2.1 v.1.2.2.1 v.2.1).2.2) (zza (32 - v.2.2.toNat) v.2.2.toNat v.1.2.1 v.1.2.2.1 v.2.1).1) ?_ N (rdr s e, (List.replicate 32 0, 0)) ⟨0, s, e, _, rfl, by omega, h, rfl⟩ (by simp only; omega)).trans (by rfl)
  rintro _ r ⟨i, s, e, tag, rfl, hi, hinv, htag⟩ hr
  simp only [Int.toNat_natCast]
  rw [zix]
  by_cases hlt : i < 32
  . rw [z8 (decide_eq_true (by omega)), z127 N hinv, Option.bind_some, z8 (z69 (by omega)), z8 (decide_eq_true (by rw [Int.toNat_natCast]; omega)), z3a (by omega)]
    simp only [Int.toNat_natCast]
    rw [hr _ ⟨i + 1, _, _, _, rfl, by omega, zos hinv, by rw [List.length_set]; exact htag⟩ (by simp only; omega)]
    simp only [Int.toNat_natCast]
    rw [show 32 - i = (32 - (i + 1)) + 1 by omega]
    rfl
  . rw [zp (decide_eq_false (by omega)), show 32 - i = 0 by omega]
    rfl

def zrm : z5v := ([], ([], ([], ())))
def gi (s : List UInt8) := z35 s 0 4144
def gn (s : List UInt8) := zgg (gi s).2.1 (gi s).2.2 64
def gl (s : List UInt8) := z4o (gn s).1.toNat (gn s).2.1 (gn s).2.2 []

def z11y (s : List UInt8) : z5v × Int × Unit :=
 if (gl s).2.2 ≠ 0 then (zrm, (gl s).2.2, ())
 else if (gl s).2.1.length < 32 then (zrm, 1, ())
 else if 32 < (gl s).2.1.length then (zrm, 2, ())
 else (((gi s).1, ((gl s).1, ((gl s).2.1, ()))), 0, ())

theorem z1a9 {s : List UInt8} {e m : Int} (hm : 0 <= m) : (zgg s e m).1 <= m := by
  unfold zgg
  split
  . exact hm
  . split
    . exact hm
    . split
      . exact hm
      . rename_i h; simp only; omega

theorem z1ae {s : List UInt8} (hs : s.length <= 1000000) : z5y (gi s).2.1 (gi s).2.2 /\ z5y (gn s).2.1 (gn s).2.2 /\ z5y (gl s).2.1 (gl s).2.2 /\ (∃ n : Nat, (gn s).1 = (n : Int) /\ n <= 64) := by
  have h0 : z5y s 0 := ⟨hs, fun h => absurd rfl h⟩
  have h1 : z5y (gi s).2.1 (gi s).2.2 := zgq h0
  have h2 : z5y (gn s).2.1 (gn s).2.2 := zsr h1
  have h3 := zzv (gi s).2.1 (gi s).2.2 64
  have h4 := z1a9 (s := (gi s).2.1) (e := (gi s).2.2) (m := 64) (by decide)
  exact ⟨h1, h2, zya _ _ h2, (gn s).1.toNat, by unfold gn; omega, by unfold gn; omega⟩

theorem z1bc (N : Nat) (hN : 100 < N) {s : List UInt8} (hs : s.length <= 1000000) : zj1 N s = some (z11y s) := by
  obtain ⟨i1, i2, i3, n, hn, hn'⟩ := z1ae hs
  have h0 : z5y s 0 := ⟨hs, fun h => absurd rfl h⟩
  have q1 : zq N (true, (s, ((0 : Int), ()))) 4144 = some ((gi s).1, (rdr (gi s).2.1 (gi s).2.2, ())) := zs4 N (by omega) h0 (by decide)
  have q2 : z2b N (rdr (gi s).2.1 (gi s).2.2) 64 = some ((gn s).1, (rdr (gn s).2.1 (gn s).2.2, ())) := z1aa N (by omega) i1 64
  have hgl : z4o n (gn s).2.1 (gn s).2.2 [] = gl s := by unfold gl; rw [hn, Int.toNat_natCast]
  rw [zj1, q1, Option.bind_some, q2, Option.bind_some]
  simp only
  rw [hn, z16b N hN i2 n hn', hgl, z1by N hN i3]
  simp only
  unfold z11y
  by_cases he : (gl s).2.2 = 0
  . rw [he] at i3 ⊢
    rw [if_neg (by simp)]
    by_cases hl : (gl s).2.1.length < 32
    . have ht := zxj 32 0 (gl s).2.1 (List.replicate 32 0) hl
      rw [ht, if_pos hl, z123 N (zmv 1), Option.bind_some]
      rfl
    . have ht := z1a1 32 0 (gl s).2.1 (List.replicate 32 0) rfl (by omega)
      have hd : z5y ((gl s).2.1.drop 32) 0 := zwk i3.1 32
      rw [ht, if_neg hl, z123 N hd, Option.bind_some]
      simp only
      unfold z196
      by_cases hm : 32 < (gl s).2.1.length
      . rw [if_neg (show (gl s).2.1.drop 32 ≠ [] from fun h => by have := congrArg List.length h; rw [List.length_drop] at this; simp at this; omega), if_pos hm]
        rfl
      . rw [if_pos (List.drop_of_length_le (by omega)), if_neg hm, List.take_zero, List.nil_append, z93, List.take_of_length_le (by omega)]
        rfl
  . have ht := zz9 32 0 (s := (gl s).2.1) (List.replicate 32 0) he
    rw [ht, if_pos he, i3.2 he, z123 N (zmv _), Option.bind_some]
    simp only [z196, if_true]
    rw [z8 (bne_iff_ne.2 he)]
    rfl

theorem z1bl (N : Nat) (hN : 100 < N) {s : List UInt8} (hs : s.length <= 1000000) : z5c N s = some (z11y s) := by
  obtain ⟨i1, i2, i3, n, hn, hn'⟩ := z1ae hs
  have h0 : z5y s 0 := ⟨hs, fun h => absurd rfl h⟩
  have q1 : zn N (s, ((0 : Int), ())) 4144 = some ((gi s).1, (rf (gi s).2.1 (gi s).2.2, ())) := zgv N (by omega) h0 (by decide)
  have q2 : z1j N (rf (gi s).2.1 (gi s).2.2) 64 = some ((gn s).1, (rf (gn s).2.1 (gn s).2.2, ())) := zzj N (by omega) i1 64
  have hgl : z4o n (gn s).2.1 (gn s).2.2 [] = gl s := by unfold gl; rw [hn, Int.toNat_natCast]
  rw [z5c, q1, Option.bind_some, q2, Option.bind_some]
  simp only
  rw [hn, z12p N hN i2 n hn', hgl, z7y, z7x]
  unfold z11y
  by_cases he : (gl s).2.2 = 0
  . rw [z8 (show ((rf (gl s).2.1 (gl s).2.2).2.1 == 0) = true from beq_iff_eq.2 he), if_neg (by simpa using he)]
    by_cases hl : (gl s).2.1.length < 32
    . rw [if_pos hl, z8 (show decide (((((rf (gl s).2.1 (gl s).2.2).1).length : Nat) : Int) < 32) = true from decide_eq_true (by show (((gl s).2.1.length : Nat) : Int) < 32; omega)), he, zdi N _ (by decide), Option.bind_some]
      rfl
    . rw [if_neg hl, zp (show decide (((((rf (gl s).2.1 (gl s).2.2).1).length : Nat) : Int) < 32) = false from decide_eq_false (by show ¬ (((gl s).2.1.length : Nat) : Int) < 32; omega)), z52, z51, z8 (show ((rf (gl s).2.1 (gl s).2.2).2.1 == 0) = true from beq_iff_eq.2 he)]
      by_cases hm : 32 < (gl s).2.1.length
      . rw [if_pos hm, z8 (show decide (32 < ((((rf (gl s).2.1 (gl s).2.2).1).length : Nat) : Int)) = true from decide_eq_true (by show 32 < (((gl s).2.1.length : Nat) : Int); omega)), he, zdi N _ (by decide), Option.bind_some]
        rfl
      . rw [if_neg hm, zp (show decide (32 < ((((rf (gl s).2.1 (gl s).2.2).1).length : Nat) : Int)) = false from decide_eq_false (by show ¬ 32 < (((gl s).2.1.length : Nat) : Int); omega)), zp (show ((rf (gl s).2.1 (gl s).2.2).2.1 != 0) = false by rw [bne_eq_false_iff_eq]; exact he)]
        rfl
  . rw [zp (show ((rf (gl s).2.1 (gl s).2.2).2.1 == 0) = false from beq_eq_false_iff_ne.2 he), if_pos he, cond_false, z52, z51, zp (show ((rf (gl s).2.1 (gl s).2.2).2.1 == 0) = false from beq_eq_false_iff_ne.2 he), cond_false, z8 (show ((rf (gl s).2.1 (gl s).2.2).2.1 != 0) = true from bne_iff_ne.2 he)]
    rfl

end
end Go.Proofs.YtaackaafmidjkaaDoorLg

set_option linter.all false
set_option maxRecDepth 100000
namespace Go.Proofs.YtaackaafmidjkaaDoorLg
noncomputable section
open Go Go.Lift Go.Proofs.YtaackaafmidjkaaDoorPx

theorem z12i {s s' t : List UInt8} {e : Int} {m : Nat} (h : z35 s e (m : Int) = (t, s', 0)) : e = 0 /\ t.length <= m /\ s = z60 t.length ++ t ++ s' := by
  unfold z35 zs5 at h
  rw [if_neg (show ¬ ((m : Nat) : Int) < 0 by omega)] at h
  obtain ⟨v, s1, f, hy⟩ : ∃ v s1 f, zgg s e (m : Int) = (v, s1, f) := ⟨_, _, _, rfl⟩
  rw [hy] at h
  simp only at h
  by_cases hf : f = 0
  . subst hf
    rw [if_neg (by simp)] at h
    obtain ⟨he, n, rfl, _, hm, rfl⟩ := zwc hy
    by_cases hl : (s1.length : Int) < (n : Int)
    . rw [if_pos hl] at h
      cases h
    . rw [if_neg hl, Int.toNat_natCast] at h
      cases h
      have hn : (s1.take n).length = n := by rw [List.length_take]; omega
      exact ⟨he, by omega, by rw [hn, List.append_assoc, List.take_append_drop]⟩
  . rw [if_pos hf] at h
    cases h
    exact absurd rfl hf

theorem z14h {t s' : List UInt8} {m : Nat} (hm : m < 1000000) (ht : t.length <= m) : z35 (z60 t.length ++ t ++ s') 0 (m : Int) = (t, s', 0) := by
  unfold z35 zs5
  rw [if_neg (show ¬ ((m : Nat) : Int) < 0 by omega), List.append_assoc, zzw (by omega) (by omega)]
  simp only
  rw [if_neg (by simp), if_neg (by simp only [List.length_append]; omega), Int.toNat_natCast, List.take_left, List.drop_left]


theorem zfd {s s' t : List UInt8} {e : Int} {m : Nat} (h : z35 s e (m : Int) = (t, s', 0)) : e = 0 /\ t.length <= m /\ s = zm7 t ++ s' := by
  obtain ⟨h1, h2, h3⟩ := z12i h
  exact ⟨h1, h2, by rw [h3]; simp only [zm7, List.append_assoc]⟩

theorem zj2 {t s' : List UInt8} {m : Nat} (hm : m < 1000000) (ht : t.length <= m) : z35 (zm7 t ++ s') 0 (m : Int) = (t, s', 0) := by
  have := z14h (s' := s') hm ht
  unfold zm7
  exact this

theorem zod {α β : Type} {p : α × β} {b : β} (h : p.2 = b) : p = (p.1, b) := by rw [<- h]

theorem z15z {s s' : List UInt8} {e : Int} {l : ztv} (h : z9d s e = (l, (s', 0))) : e = 0 /\ zhb l = false /\ s = z17t l ++ s' := by
  by_cases he : e = 0
  case neg =>
    have hb : z21 s e = (0, s, e) := by unfold z21; rw [if_pos he]
    unfold z9d at h
    rw [if_pos (by rw [hb])] at h
    unfold l0 at h
    rw [hb] at h
    simp only at h
    rw [zs6 s he] at h
    exact absurd (congrArg (fun x => x.2.2) h) he
  subst he
  refine ⟨rfl, ?_⟩
  cases s with
  | nil =>
    have hb : z21 [] 0 = (0, [], 1) := by unfold z21; rw [if_neg (by simp)]; rfl
    unfold z9d at h
    rw [if_pos (by rw [hb])] at h
    unfold l0 at h
    rw [hb] at h
    simp only at h
    rw [zs6 [] (by decide)] at h
    exact absurd (congrArg (fun x => x.2.2) h) (show ¬ ((1 : Int) = 0) by decide)
  | cons a r =>
    have hb : z21 (a :: r) 0 = ((a.toNat : Int), r, 0) := by unfold z21; rw [if_neg (by simp)]; rfl
    have ea : ∀ k : Nat, k < 256 -> (a.toNat : Int) = (k : Int) -> a = UInt8.ofNat k := by
      intro k hk h
      apply UInt8.toNat_inj.1
      rw [UInt8.toNat_ofNat']; omega
    unfold z9d at h
    rw [hb] at h
    simp only at h
    by_cases c0 : (a.toNat : Int) = 0
    . rw [if_pos c0] at h
      have h1 : l = ((l0 (a :: r) 0).1, ([], ())) := (congrArg (·.1) h).symm
      have h2 : (l0 (a :: r) 0).2 = (s', 0) := congrArg (·.2) h
      have h3 : z35 r 0 ((2048 : Nat) : Int) = ((l0 (a :: r) 0).1, (s', 0)) := by
        rw [<- h2]; unfold l0; rw [hb]; rfl
      obtain ⟨_, hl, hs⟩ := zfd h3
      subst h1
      refine ⟨?_, ?_⟩
      . unfold zhb; rw [if_pos rfl]; exact decide_eq_false (by show ¬ 2048 < (l0 (a :: r) 0).1.length; omega)
      . unfold z17t
        rw [if_pos rfl, List.cons_append, <- hs, ea 0 (by decide) c0]; rfl
    . rw [if_neg c0] at h
      by_cases c1 : (a.toNat : Int) = 1
      . rw [if_pos c1] at h
        have h1 : l = ((l1 (a :: r) 0).1, ((l2 (a :: r) 0).1, ())) := (congrArg (·.1) h).symm
        have h2 : (if (l2 (a :: r) 0).1 = [] then zd9 (l2 (a :: r) 0).2.1 (l2 (a :: r) 0).2.2 2 else (l2 (a :: r) 0).2) = (s', 0) := congrArg (·.2) h
        by_cases c2 : (l2 (a :: r) 0).1 = []
        . rw [if_pos c2] at h2
          exact absurd (congrArg (·.2) h2) (zrk (by decide))
        . rw [if_neg c2] at h2
          have h3 : z35 (l1 (a :: r) 0).2.1 (l1 (a :: r) 0).2.2 ((4144 : Nat) : Int) = ((l2 (a :: r) 0).1, (s', 0)) := by
            rw [<- h2]; unfold l2; rfl
          obtain ⟨g1, g2, g3⟩ := zfd h3
          have h4 : z35 r 0 ((4144 : Nat) : Int) = ((l1 (a :: r) 0).1, ((l1 (a :: r) 0).2.1, 0)) := by
            have : (l1 (a :: r) 0).2 = ((l1 (a :: r) 0).2.1, (0 : Int)) := zod g1
            rw [<- this]; unfold l1; rw [hb]; rfl
          obtain ⟨_, k2, k3⟩ := zfd h4
          subst h1
          refine ⟨?_, ?_⟩
          . unfold zhb
            rw [if_neg c2]
            show (decide (4144 < (l1 (a :: r) 0).1.length) || decide (4144 < (l2 (a :: r) 0).1.length)) = false
            rw [decide_eq_false (by omega), decide_eq_false (by omega)]; rfl
          . unfold z17t
            rw [if_neg c2, List.cons_append, List.append_assoc, <- g3, <- k3, ea 1 (by decide) c1]; rfl
      . rw [if_neg c1] at h
        exact absurd (congrArg (fun x => x.2.2) h) (zrk (by decide))

theorem z18s {l : ztv} (h : zhb l = false) (s' : List UInt8) : z9d (z17t l ++ s') 0 = (l, (s', 0)) := by
  obtain ⟨t, u, ⟨⟩⟩ := l
  unfold zhb at h
  simp only at h
  unfold z17t
  simp only
  by_cases hu : u = []
  . subst hu
    rw [if_pos rfl] at h
    have ht : t.length <= 2048 := by have := of_decide_eq_false h; omega
    rw [if_pos rfl]
    have hb : z21 ((0 : UInt8) :: zm7 t ++ s') 0 = (0, zm7 t ++ s', 0) := by unfold z21; rw [if_neg (by simp)]; rfl
    have h0 : l0 ((0 : UInt8) :: zm7 t ++ s') 0 = (t, (s', 0)) := by unfold l0; rw [hb]; exact zj2 (m := 2048) (by decide) ht
    unfold z9d
    rw [if_pos (by rw [hb]), h0]
  . rw [if_neg hu] at h
    have ht : t.length <= 4144 /\ u.length <= 4144 := by
      rw [Bool.or_eq_false_iff] at h
      have h1 := of_decide_eq_false h.1
      have h2 := of_decide_eq_false h.2
      omega
    rw [if_neg hu]
    have hb : z21 ((1 : UInt8) :: (zm7 t ++ zm7 u) ++ s') 0 = (1, zm7 t ++ (zm7 u ++ s'), 0) := by
      unfold z21; rw [if_neg (by simp), List.cons_append, List.append_assoc]; rfl
    have h1 : l1 ((1 : UInt8) :: (zm7 t ++ zm7 u) ++ s') 0 = (t, (zm7 u ++ s', 0)) := by unfold l1; rw [hb]; exact zj2 (m := 4144) (by decide) ht.1
    have h2 : l2 ((1 : UInt8) :: (zm7 t ++ zm7 u) ++ s') 0 = (u, (s', 0)) := by unfold l2; rw [h1]; exact zj2 (m := 4144) (by decide) ht.2
    unfold z9d
    rw [if_neg (by rw [hb]; show ¬ ((1 : Int) = 0); decide), if_pos (by rw [hb]), h1, h2]
    simp only
    rw [if_neg hu]

theorem zve : ∀ (n : Nat) {s s' : List UInt8} {e : Int} {acc ls : List ztv}, z4o n s e acc = (ls, (s', 0)) -> ∃ new, ls = acc ++ new /\ new.length = n /\ e = 0 /\ s = zid new ++ s' /\ new.any zhb = false
  | 0, s, s', e, acc, ls, h => by
    rw [z4o] at h
    cases h
    exact ⟨[], by simp, rfl, rfl, rfl, rfl⟩
  | n + 1, s, s', e, acc, ls, h => by
    rw [z4o] at h
    obtain ⟨new, h1, h2, h3, h4, h5⟩ := zve n h
    have hk : z9d s e = ((z9d s e).1, ((z9d s e).2.1, 0)) := by
      have : (z9d s e).2 = ((z9d s e).2.1, (0 : Int)) := zod h3
      rw [<- this]
    obtain ⟨g1, g2, g3⟩ := z15z hk
    refine ⟨(z9d s e).1 :: new, by rw [h1, List.append_assoc]; rfl, by simp [h2], g1, ?_, by rw [List.any_cons, g2, h5]; rfl⟩
    rw [zid, List.append_assoc, <- h4]; exact g3

theorem zyb : ∀ (new : List ztv) {s' : List UInt8} {acc : List ztv}, new.any zhb = false -> z4o new.length (zid new ++ s') 0 acc = (acc ++ new, (s', 0))
  | [], s', acc, _ => by simp [z4o, zid]
  | l :: new, s', acc, h => by
    rw [List.any_cons, Bool.or_eq_false_iff] at h
    rw [List.length_cons, z4o, zid, List.append_assoc, z18s h.1]
    simp only
    rw [zyb new h.2, List.append_assoc]; rfl

theorem ztn {t : z5v} : zgh t = 0 ↔ t.2.1.length <= 64 /\ t.2.1.any zhb = false /\ t.1.length <= 4144 /\ t.2.2.1.length = 32 := by
  unfold zgh zvo
  by_cases c1 : 64 < t.2.1.length
  . rw [if_pos c1]; simp; omega
  . rw [if_neg c1]
    by_cases c2 : t.2.1.any zhb = true
    . rw [if_pos c2]; simp only [c2]; simp
    . rw [if_neg c2]
      have c2' : t.2.1.any zhb = false := by simpa using c2
      by_cases c3 : 4144 < t.1.length
      . rw [if_pos c3]; simp; omega
      . rw [if_neg c3, if_neg (by simp)]
        by_cases c4 : t.2.2.1.length = 32
        . rw [if_neg (by simpa using c4)]
          exact ⟨fun _ => ⟨by omega, c2', by omega, c4⟩, fun _ => rfl⟩
        . rw [if_pos c4]
          exact ⟨fun h => absurd h (by decide), fun h => absurd h.2.2.2 c4⟩

theorem zuw {t : z5v} (h : zgh t = 0) : Sz t := by
  obtain ⟨h1, h2, h3, h4⟩ := ztn.1 h
  refine ⟨by omega, by omega, fun l hl => ?_, by omega⟩
  have := List.any_eq_false.1 h2 l hl
  unfold zhb at this
  by_cases hu : l.2.1 = []
  . rw [if_pos hu] at this
    rw [hu]
    have := of_decide_eq_false (by simpa using this : decide (2048 < l.1.length) = false)
    simp only [List.length_nil]; omega
  . rw [if_neg hu, Bool.not_eq_true, Bool.or_eq_false_iff] at this
    have h1 := of_decide_eq_false this.1
    have h2 := of_decide_eq_false this.2
    omega

theorem z16c {s : List UInt8} {t : z5v} (h : z11y s = (t, 0, ())) : zgh t = 0 /\ s = ztu t ++ t.2.2.1 := by
  unfold z11y at h
  by_cases c1 : (gl s).2.2 = 0
  . rw [if_neg (by simpa using c1)] at h
    by_cases c2 : (gl s).2.1.length < 32
    . rw [if_pos c2] at h; exact absurd (congrArg (fun x => x.2.1) h) (by simp)
    . rw [if_neg c2] at h
      by_cases c3 : 32 < (gl s).2.1.length
      . rw [if_pos c3] at h; exact absurd (congrArg (fun x => x.2.1) h) (by simp)
      . rw [if_neg c3] at h
        have ht : t = ((gi s).1, ((gl s).1, ((gl s).2.1, ()))) := (congrArg (·.1) h).symm
        have hg : z4o (gn s).1.toNat (gn s).2.1 (gn s).2.2 [] = ((gl s).1, ((gl s).2.1, 0)) := by
          have : (gl s).2 = ((gl s).2.1, (0 : Int)) := zod c1
          rw [<- this]; rfl
        obtain ⟨new, h1, h2, h3, h4, h5⟩ := zve _ hg
        rw [List.nil_append] at h1
        have hn : zgg (gi s).2.1 (gi s).2.2 64 = ((gn s).1, ((gn s).2.1, 0)) := by
          have : (gn s).2 = ((gn s).2.1, (0 : Int)) := zod h3
          rw [<- this]; rfl
        obtain ⟨k1, n, k2, k3, k4, k5⟩ := zwc hn
        have hi : z35 s 0 ((4144 : Nat) : Int) = ((gi s).1, ((gi s).2.1, 0)) := by
          have : (gi s).2 = ((gi s).2.1, (0 : Int)) := zod k1
          rw [<- this]; rfl
        obtain ⟨_, m1, m2⟩ := zfd hi
        have hlen : new.length = n := by rw [h2, k2, Int.toNat_natCast]
        subst ht
        refine ⟨ztn.2 ⟨?_, ?_, m1, ?_⟩, ?_⟩
        . show (gl s).1.length <= 64
          rw [h1]; omega
        . show (gl s).1.any zhb = false
          rw [h1]; exact h5
        . show (gl s).2.1.length = 32
          omega
        . show s = (zm7 (gi s).1 ++ (z60 (gl s).1.length ++ zid (gl s).1)) ++ (gl s).2.1
          rw [h1, hlen, List.append_assoc, List.append_assoc, <- h4, <- k5]
          exact m2
  . rw [if_pos c1] at h
    exact absurd (congrArg (fun x => x.2.1) h) c1

theorem z18y {t : z5v} (h : zgh t = 0) : z11y (ztu t ++ t.2.2.1) = (t, 0, ()) := by
  obtain ⟨h1, h2, h3, h4⟩ := ztn.1 h
  have e1 : gi (ztu t ++ t.2.2.1) = (t.1, (z60 t.2.1.length ++ (zid t.2.1 ++ t.2.2.1), 0)) := by
    unfold gi ztu
    rw [List.append_assoc, List.append_assoc]
    exact zj2 (m := 4144) (by decide) h3
  have e2 : gn (ztu t ++ t.2.2.1) = (((t.2.1.length : Nat) : Int), (zid t.2.1 ++ t.2.2.1, 0)) := by
    unfold gn
    rw [e1]
    exact zzw (by omega) (by omega)
  have e3 : gl (ztu t ++ t.2.2.1) = (t.2.1, (t.2.2.1, 0)) := by
    unfold gl
    rw [e2]
    simp only [Int.toNat_natCast]
    rw [zyb _ h2, List.nil_append]
  unfold z11y
  rw [e3, e1]
  simp only
  rw [if_neg (by simp), if_neg (by omega), if_neg (by omega)]

theorem z11b (N : Nat) (t : z5v) (hl : t.2.1.length < N) (hl' : t.2.1.length <= 1000000) : z27 N t t = some true := by
  rw [z27, z4c, z4b, beq_self_eq_true, beq_self_eq_true, bne_self_eq_false, Bool.not_true, cond_false, cond_false, cond_false, z82]
  refine (z68 (fun v => ∃ i : Nat, v = (i : Int) /\ i <= t.2.1.length) (fun v => ((t.2.1.length : Int) - v).toNat) (fun _ => some true) ?_ N 0 ⟨0, rfl, by omega⟩ (by omega))
  rintro _ r ⟨i, rfl, hi⟩ hr
  rw [z4a]
  by_cases hlt : i < t.2.1.length
  . rw [z8 (decide_eq_true (by omega)), z8 (z69 hlt), z8 (z69 hlt)]
    refine (congrArg (fun b : Bool => cond (!b) (some false) (r (Go.IntKind.wrap .i64 ((i : Int) + 1)))) (z195 (t := T.pair T.str (T.pair T.str T.unit)) rfl (t.2.1.getD i (([] : List UInt8), (([] : List UInt8), ()))))).trans ?_
    rw [Bool.not_true, cond_false, z3a (by omega)]
    exact hr _ ⟨i + 1, rfl, by omega⟩ (by omega)
  . rw [zp (decide_eq_false (by omega))]

end
end Go.Proofs.YtaackaafmidjkaaDoorLg

set_option linter.all false
set_option maxRecDepth 100000
namespace Go.Proofs.YtaackaafmidjkaaDoorLg
noncomputable section
open Go Go.Lift Go.Proofs.YtaackaafmidjkaaDoorPx

abbrev zvq := z5v × (List z5v × Unit)

def z1ao : zvq := (zrm, ([], ()))

def zr5 (s : List UInt8) (e f : Int) : List UInt8 × Int := if f = 0 then (s, e) else zd9 s e f

theorem z16o {s : List UInt8} {e : Int} (h : z5y s e) (f : Int) : z5y (zr5 s e f).1 (zr5 s e f).2 := by
  unfold zr5; split
  . exact h
  . exact zrj h f

theorem z192 (N : Nat) (s : List UInt8) (e f : Int) : zm N (rdr s e) f = some ((), (rdr (zr5 s e f).1 (zr5 s e f).2, ())) := by
  unfold zr5
  by_cases hf : f = 0
  . subst hf; rw [if_pos rfl]; exact z16m N s e
  . rw [if_neg hf]; exact z107 N s e hf

theorem z14y (N : Nat) (s : List UInt8) (e f : Int) : z9 N (rf s e) f = some (rf (zr5 s e f).1 (zr5 s e f).2) := by
  unfold zr5
  by_cases hf : f = 0
  . subst hf; rw [if_pos rfl]; exact z12q N s e
  . rw [if_neg hf]; exact zrc N s e hf

def zcy (s : List UInt8) (e : Int) : z5v × (List UInt8 × Int) :=
 ((z11y (z35 s e 65536).1).1, zr5 (z35 s e 65536).2.1 (z35 s e 65536).2.2 (z11y (z35 s e 65536).1).2.1)

theorem zns {s : List UInt8} {e : Int} (h : z5y s e) : z5y (zcy s e).2.1 (zcy s e).2.2 := z16o (zgq h) _

theorem z10w {s : List UInt8} {e : Int} (h : z5y s e) (m : Int) : (z35 s e m).1.length <= 1000000 := by
  have hn := zsr (most := if m < 0 then 0 else m) h
  unfold z35 zs5
  generalize zgg s e (if m < 0 then 0 else m) = y at *
  split
  . simp
  . split
    . simp
    . have := hn.1
      simp only [List.length_take]
      omega

theorem z180 {s : List UInt8} {e m : Int} (h : (z35 s e m).2.2 ≠ 0) : (z35 s e m).1 = [] := by
  unfold z35 zs5 at *
  generalize zgg s e (if m < 0 then 0 else m) = y at *
  by_cases h1 : y.2.2 = 0
  . rw [if_neg (by simpa using h1)] at h ⊢
    by_cases h2 : (y.2.1.length : Int) < y.1
    . rw [if_pos h2]
    . rw [if_neg h2] at h; exact absurd rfl h
  . rw [if_pos h1]

theorem z18x : z11y [] = (zrm, 1, ()) := by rfl

theorem z16a (N : Nat) (hN : 100 < N) {s : List UInt8} {e : Int} (h : z5y s e) : z40 N (rdr s e) = some ((zcy s e).1, (rdr (zcy s e).2.1 (zcy s e).2.2, ())) := by
  rw [z40, zs4 N (by omega) h (by omega), Option.bind_some, z1bc N hN (z10w h _), Option.bind_some, z192]
  rfl

theorem z14w (N : Nat) (hN : 100 < N) {s : List UInt8} {e : Int} (h : z5y s e) : z38 N (rf s e) = some ((zcy s e).1, (rf (zcy s e).2.1 (zcy s e).2.2, ())) := by
  rw [z38, zgv N (by omega) h (by omega), Option.bind_some]
  by_cases he : (z35 s e 65536).2.2 = 0
  . rw [zp (by simp only [rf]; rw [he]; rfl), z1bl N hN (z10w h _), Option.bind_some, z14y]
    rfl
  . rw [z8 (by simp only [rf]; simpa using he)]
    unfold zcy
    rw [z180 he, z18x]
    unfold zr5 zd9
    rw [if_neg (by decide), if_pos he]
    rfl

def zb2 : Nat -> List UInt8 -> Int -> List z5v -> List z5v × (List UInt8 × Int)
  | 0, s, e, acc => (acc, (s, e))
  | n + 1, s, e, acc => zb2 n (zcy s e).2.1 (zcy s e).2.2 (acc ++ [(zcy s e).1])

theorem z10t : ∀ (n : Nat) {s : List UInt8} {e : Int} (acc : List z5v), z5y s e -> z5y (zb2 n s e acc).2.1 (zb2 n s e acc).2.2
  | 0, _, _, _, h => h
  | n + 1, _, _, _, h => z10t n _ (zns h)

theorem z18w (N : Nat) (hN : 100 < N) {s : List UInt8} {e : Int} (h : z5y s e) (n : Nat) (hn : n <= 8) (x2 : zvq) (id : z5v) (K : RdrT.den -> zvq -> Option (zvq × Int × Unit)) :
    zhu N x2 (rdr s e) (id, ([], ())) (n : Int) 0 K = K (rdr (zb2 n s e []).2.1 (zb2 n s e []).2.2) (id, ((zb2 n s e []).1, ())) := by
  rw [zhu]
  refine (z68 (fun v => ∃ i s e acc, v = (rdr s e, ((id, (acc, ())), ((i : Nat) : Int))) /\ i <= n /\ z5y s e /\ acc.length = i) (fun v => ((n : Int) - v.2.2).toNat) (fun v => K (rdr (zb2 (n - v.2.2.toNat) v.1.2.1 v.1.2.2.1 v.2.1.2.1).2.1 (zb2 (n - v.2.2.toNat) v.1.2.1 v.1.2.2.1 v.2.1.2.1).2.2) (id, ((zb2 (n - v.2.2.toNat) v.1.2.1 v.1.2.2.1 v.2.1.2.1).1, ()))) ?_ N (rdr s e, ((id, ([], ())), 0)) ⟨0, s, e, [], rfl, by omega, h, rfl⟩ (by simp only; omega)).trans (by rfl)
  rintro _ r ⟨i, s, e, acc, rfl, hi, hinv, hacc⟩ hr
  simp only [Int.toNat_natCast]
  rw [zht]
  by_cases hlt : i < n
  . rw [z8 (decide_eq_true (by omega)), z16a N hN hinv, Option.bind_some]
    simp only
    rw [z8 (decide_eq_true (by omega)), show (((i : Nat) : Int) + 1) = ((i + 1 : Nat) : Int) from rfl, z29 (by omega)]
    rw [hr _ ⟨i + 1, _, _, _, rfl, by omega, zns hinv, by simp [hacc]⟩ (by simp only; omega)]
    simp only [Int.toNat_natCast]
    rw [show n - i = (n - (i + 1)) + 1 by omega]
    rfl
  . rw [zp (decide_eq_false (by omega)), show n - i = 0 by omega]
    rfl

theorem z14x (N : Nat) (hN : 100 < N) {s : List UInt8} {e : Int} (h : z5y s e) (n : Nat) (hn : n <= 8) (x2 : zvq) (id : z5v) (K : zvq -> z1d9 -> Option (zvq × Int × Unit)) :
    z7v N x2 (id, ([], ())) (n : Int) (rf s e) 0 K = K (id, ((zb2 n s e []).1, ())) (rf (zb2 n s e []).2.1 (zb2 n s e []).2.2) := by
  rw [z7v]
  refine (z68 (fun v => ∃ i s e acc, v = ((id, (acc, ())), (rf s e, ((i : Nat) : Int))) /\ i <= n /\ z5y s e /\ acc.length = i) (fun v => ((n : Int) - v.2.2).toNat) (fun v => K (id, ((zb2 (n - v.2.2.toNat) v.2.1.1 v.2.1.2.1 v.1.2.1).1, ())) (rf (zb2 (n - v.2.2.toNat) v.2.1.1 v.2.1.2.1 v.1.2.1).2.1 (zb2 (n - v.2.2.toNat) v.2.1.1 v.2.1.2.1 v.1.2.1).2.2)) ?_ N ((id, ([], ())), (rf s e, 0)) ⟨0, s, e, [], rfl, by omega, h, rfl⟩ (by simp only; omega)).trans (by rfl)
  rintro _ r ⟨i, s, e, acc, rfl, hi, hinv, hacc⟩ hr
  simp only [Int.toNat_natCast]
  rw [z7u, z7o (x := (n : Int)) (by unfold I64; omega)]
  by_cases hlt : i < n
  . rw [z8 (decide_eq_true (by omega)), z14w N hN hinv, Option.bind_some]
    simp only
    rw [z8 (decide_eq_true (by omega)), z3a (by omega)]
    rw [hr _ ⟨i + 1, _, _, _, rfl, by omega, zns hinv, by simp [hacc]⟩ (by simp only; omega)]
    simp only [Int.toNat_natCast]
    rw [show n - i = (n - (i + 1)) + 1 by omega]
    rfl
  . rw [zp (decide_eq_false (by omega)), show n - i = 0 by omega]
    rfl

def bt (s : List UInt8) := zcy s 0
def bn (s : List UInt8) := zgg (bt s).2.1 (bt s).2.2 8
def bm (s : List UInt8) := zb2 (bn s).1.toNat (bn s).2.1 (bn s).2.2 []
def be (s : List UInt8) : Int := z196 (bm s).2.1 (bm s).2.2

def zx4 (s : List UInt8) : zvq × Int × Unit :=
 if 65536 < s.length then (z1ao, 3, ()) else if be s ≠ 0 then (z1ao, be s, ()) else (((bt s).1, ((bm s).1, ())), 0, ())

theorem z17f {s : List UInt8} (hs : s.length <= 65536) : z5y (bt s).2.1 (bt s).2.2 /\ z5y (bn s).2.1 (bn s).2.2 /\ z5y (bm s).2.1 (bm s).2.2 /\ ∃ n : Nat, (bn s).1 = (n : Int) /\ n <= 8 := by
  have h0 : z5y s 0 := ⟨by omega, fun h => absurd rfl h⟩
  have h1 : z5y (bt s).2.1 (bt s).2.2 := zns h0
  have h2 : z5y (bn s).2.1 (bn s).2.2 := zsr h1
  have h3 : z5y (bm s).2.1 (bm s).2.2 := z10t _ _ h2
  have h4 := zzv (bt s).2.1 (bt s).2.2 8
  have h5 := z1a9 (s := (bt s).2.1) (e := (bt s).2.2) (m := 8) (by omega)
  refine ⟨h1, h2, h3, (bn s).1.toNat, ?_, ?_⟩
  . show (bn s).1 = _
    have : 0 <= (bn s).1 := h4
    omega
  . have : (bn s).1 <= 8 := h5
    omega

theorem z17e (N : Nat) (hN : 100 < N) (s : List UInt8) : z7m N s = some (zx4 s) := by
  rw [z7m]
  by_cases hl : 65536 < s.length
  . rw [z8 (decide_eq_true (by omega)), zx4, if_pos hl]; rfl
  rw [zp (decide_eq_false (by omega)), zx4, if_neg hl]
  obtain ⟨h1, h2, h3, n, h4, h5⟩ := z17f (s := s) (by omega)
  have h0 : z5y s 0 := ⟨by omega, fun h => absurd rfl h⟩
  rw [show ((true, (s, ((0 : Int), ()))) : RdrT.den) = rdr s 0 from rfl, z16a N hN h0, Option.bind_some]
  simp only
  rw [show zcy s 0 = bt s from rfl, z1aa N (by omega) h1, Option.bind_some]
  simp only
  rw [show zgg (bt s).2.1 (bt s).2.2 8 = bn s from rfl, h4, z18w N hN h2 n h5]
  have hm : zb2 n (bn s).2.1 (bn s).2.2 [] = bm s := by unfold bm; rw [h4, Int.toNat_natCast]
  rw [hm, z123 N h3, Option.bind_some]
  simp only
  rw [show z196 (bm s).2.1 (bm s).2.2 = be s from rfl]
  by_cases he : be s = 0
  . rw [zp (by rw [he]; rfl), if_neg (by simpa using he)]
  . rw [z8 (by simpa using he), if_pos he]; rfl

theorem z18g (N : Nat) (hN : 100 < N) (s : List UInt8) : z30 N s = some (zx4 s) := by
  rw [z30]
  by_cases hl : 65536 < s.length
  . rw [z8 (decide_eq_true (by omega)), zx4, if_pos hl]; rfl
  rw [zp (decide_eq_false (by omega)), zx4, if_neg hl]
  obtain ⟨h1, h2, h3, n, h4, h5⟩ := z17f (s := s) (by omega)
  have h0 : z5y s 0 := ⟨by omega, fun h => absurd rfl h⟩
  rw [show ((s, ((0 : Int), ())) : z1d9) = rf s 0 from rfl, z14w N hN h0, Option.bind_some]
  simp only
  rw [show zcy s 0 = bt s from rfl, zzj N (by omega) h1, Option.bind_some]
  simp only
  rw [show zgg (bt s).2.1 (bt s).2.2 8 = bn s from rfl, h4, z14x N hN h2 n h5]
  have hm : zb2 n (bn s).2.1 (bn s).2.2 [] = bm s := by unfold bm; rw [h4, Int.toNat_natCast]
  rw [hm, z1bm N h3, Option.bind_some]
  simp only [rf]
  rw [show z196 (bm s).2.1 (bm s).2.2 = be s from rfl]
  by_cases he : be s = 0
  . rw [zp (by rw [he]; rfl), if_neg (by simpa using he)]
  . rw [z8 (by simpa using he), if_pos he]; rfl

end
end Go.Proofs.YtaackaafmidjkaaDoorLg

set_option linter.all false
set_option maxRecDepth 100000
namespace Go.Proofs.YtaackaafmidjkaaDoorLg
noncomputable section
open Go Go.Lift Go.Proofs.YtaackaafmidjkaaDoorPx

def zpu (t : z5v) : List UInt8 := zm7 (ztu t ++ t.2.2.1)

def z7n : List z5v -> List UInt8
  | [] => []
  | t :: ts => zpu t ++ z7n ts

def zut : List z5v -> Int
  | [] => 0
  | t :: ts => if zgh t ≠ 0 then zgh t else zut ts

def z157 (b : zvq) : List UInt8 × Int × Unit :=
 if 8 < b.2.1.length then ([], 3, ()) else if zgh b.1 ≠ 0 then ([], zgh b.1, ()) else if zut b.2.1 ≠ 0 then ([], zut b.2.1, ()) else (zpu b.1 ++ (z60 b.2.1.length ++ z7n b.2.1), 0, ())

def z159 (b : zvq) : List UInt8 × Int × Unit := if (z157 b).2.1 ≠ 0 then z157 b else if 65536 < (z157 b).1.length then ([], 3, ()) else z157 b

def SzB (b : zvq) : Prop := Sz b.1 /\ ∀ t ∈ b.2.1, Sz t

theorem z124 {t : z5v} (h : Sz t) : (zpu t).length <= 910000 := by
  have h1 := zkl h
  have h2 := zgx (ztu t ++ t.2.2.1)
  have h3 := h.2.2.2
  unfold zpu
  rw [List.length_append] at h2
  omega

theorem zyq : ∀ {l : List z5v}, (∀ t ∈ l, Sz t) -> (z7n l).length <= 910000 * l.length
  | [], _ => by simp [z7n]
  | t :: ts, h => by
    have h1 := z124 (h t (List.mem_cons_self ..))
    have h2 := zyq (fun x hx => h x (List.mem_cons_of_mem _ hx))
    simp only [z7n, List.length_append, List.length_cons]
    omega

theorem zxc (N : Nat) (hN : 100 < N) {t : z5v} (h : Sz t) : zke N t = some (if zgh t = 0 then ((0 : Int), zpu t) else (zgh t, [])) := by
  unfold zke
  have h1 := zkl h
  have h3 := h.2.2.2
  rw [z1bb N hN h, Option.bind_some]
  unfold putT
  by_cases hb : zgh t = 0
  . rw [if_neg (show ¬ zgh t ≠ 0 by simpa using hb), if_pos hb]
    dsimp only
    rw [if_pos rfl, zol N (by omega) (by rw [List.length_append]; omega), Option.bind_some]
    rfl
  . rw [if_pos hb, if_neg hb]
    dsimp only
    rw [if_neg hb]

theorem z11o (N : Nat) (hN : 100 < N) : ∀ {l : List z5v}, (∀ t ∈ l, Sz t) -> ∃ r, zjo N l = some r /\ r.1 = zut l /\ (zut l = 0 -> r.2.flatten = z7n l)
  | [], _ => ⟨_, rfl, rfl, fun _ => rfl⟩
  | t :: ts, h => by
    obtain ⟨r, h1, h2, h3⟩ := z11o N hN (fun x hx => h x (List.mem_cons_of_mem _ hx))
    rw [zjo, zxc N hN (h t (List.mem_cons_self ..)), Option.bind_some, zut]
    by_cases hb : zgh t = 0
    . rw [if_pos hb, if_neg (show ¬ zgh t ≠ 0 by simpa using hb)]
      dsimp only
      rw [if_pos rfl, h1, Option.bind_some]
      refine ⟨_, rfl, h2, fun h0 => ?_⟩
      dsimp only
      rw [List.flatten_cons, h3 h0]
      rfl
    . rw [if_neg hb, if_pos hb]
      dsimp only
      rw [if_neg hb]
      exact ⟨_, rfl, rfl, fun h0 => absurd h0 hb⟩

theorem z1c9 (N : Nat) (hN : 100 < N) {b : zvq} (h : SzB b) : z9h N b = some (z159 b) := by
  obtain ⟨h1, h2⟩ := h
  unfold z9h z159 z157
  by_cases h8 : 8 < b.2.1.length
  . rw [if_pos h8, if_pos h8, if_pos (by decide)]
  rw [if_neg h8, if_neg h8]
  unfold zze
  rw [zxc N hN h1, Option.bind_some]
  by_cases hb : zgh b.1 = 0
  . rw [if_pos hb, if_neg (show ¬ zgh b.1 ≠ 0 by simpa using hb)]
    dsimp only
    rw [if_pos rfl, zwm N (by omega) (by omega), Option.bind_some]
    obtain ⟨r, k1, k2, k3⟩ := z11o N hN h2
    rw [k1, Option.bind_some, Option.bind_some]
    dsimp only
    rw [k2]
    by_cases hm : zut b.2.1 = 0
    . rw [if_pos hm, if_neg (show ¬ zut b.2.1 ≠ 0 by simpa using hm)]
      have e : (zpu b.1 :: z60 b.2.1.length :: r.2).flatten = zpu b.1 ++ (z60 b.2.1.length ++ z7n b.2.1) := by
        rw [List.flatten_cons, List.flatten_cons, k3 hm]
      rw [e]
      have q1 := z124 h1
      have q2 := zyq h2
      have q3 := (z7s b.2.1.length).2
      rw [if_pos (show (zpu b.1 ++ (z60 b.2.1.length ++ z7n b.2.1)).length <= 70368744177664 by simp only [List.length_append]; omega)]
      dsimp only
      rw [if_neg (show ¬ (0 : Int) ≠ 0 by decide)]
      by_cases hl : 65536 < (zpu b.1 ++ (z60 b.2.1.length ++ z7n b.2.1)).length
      . rw [if_pos hl, if_pos hl]
      . rw [if_neg hl, if_neg hl]
    . rw [if_neg hm, if_pos hm]
      dsimp only
      rw [if_pos hm]
  . rw [if_neg hb, if_pos hb]
    dsimp only
    rw [if_neg hb, Option.bind_some, if_pos hb]
    dsimp only
    rw [if_neg hb]

theorem z198 {l : List z5v} {i : Nat} (h : i < l.length) : l.drop i = l.getD i zrm :: l.drop (i + 1) := by
  rw [List.drop_eq_getElem_cons h, List.getD_eq_getElem?_getD, List.getElem?_eq_getElem h]; rfl

theorem z15t {l : List z5v} {i : Nat} (h : i < l.length) : l.getD i zrm ∈ l := by
  rw [List.getD_eq_getElem?_getD, List.getElem?_eq_getElem h]; exact List.getElem_mem h

def z142 (t : z5v) : Nat := if zvo t = 0 then (z60 ((ztu t).length + 32)).length + ((ztu t).length + 32) else 0

def z17p : List z5v -> Option Nat
  | [] => some 0
  | t :: ts => if zvo t = 0 then (z17p ts).map (z142 t + ·) else none

def sizB (b : zvq) : Nat := if 8 < b.2.1.length then 0 else if zvo b.1 ≠ 0 then 0 else match z17p b.2.1 with
  | some n => z142 b.1 + (z60 b.2.1.length).length + n
  | none => 0

theorem zxm (N : Nat) (hN : 100 < N) {t : z5v} (h : Sz t) : z5u N t = some (z142 t : Int) := by
  have e1 := zkl h
  rw [z5u, z17y N hN h, Option.bind_some, z142]
  by_cases hb : zvo t = 0
  . rw [if_pos hb, if_pos hb]
    have q := (z7s ((ztu t).length + 32)).2
    rw [zp (by simp; omega), z29 (by omega), zwm N (by omega) (by omega), Option.bind_some]
    congr 1
    rw [z7o (by unfold I64; omega)]
    omega
  . rw [if_neg hb, if_neg hb]
    rfl

theorem z117 {t : z5v} (h : zvo t = 0) : 0 < z142 t := by
  unfold z142; rw [if_pos h]; omega

theorem z118 {t : z5v} (h : Sz t) : z142 t <= 910000 := by
  have e1 := zkl h
  have q := (z7s ((ztu t).length + 32)).2
  unfold z142; split <;> omega

def z1cp (total : Int) (o : Option Nat) : Option Int := match o with
  | some n => some (total + (n : Int))
  | none => some 0

theorem z14s (N : Nat) (hN : 100 < N) {l : List z5v} (hz : ∀ t ∈ l, Sz t) (h8 : l.length <= 8) (total : Int) (ht : 0 <= total /\ total <= 1000000) :
    zf3 N total l (l.length : Int) 0 (fun x2 => some x2) (fun total => some total) = z1cp total (z17p l) := by
  rw [zf3]
  refine (z68 (fun v => ∃ i : Nat, v.2 = (i : Int) /\ i <= l.length /\ (0 : Int) <= v.1 /\ v.1 <= (1000000 : Int) + 910000 * (i : Int)) (fun v => ((l.length : Int) - v.2).toNat) (fun v => z1cp v.1 (z17p (l.drop v.2.toNat))) ?_ N (total, 0) ⟨0, rfl, by omega, ht.1, by simpa using ht.2⟩ (by simp only; omega)).trans (by rfl)
  rintro ⟨o, i⟩ r ⟨i, rfl, hi, hlo, hhi⟩ hr
  simp only at hlo hhi
  simp only [Int.toNat_natCast]
  rw [zf2]
  by_cases hlt : i < l.length
  . have hs := hz _ (z15t hlt)
    rw [z8 (decide_eq_true (by omega)), z8 (z69 hlt), Int.toNat_natCast, z198 hlt, show (([] : List UInt8), (([] : List ((List UInt8) × ((List UInt8) × Unit))), (([] : List UInt8), ()))) = zrm from rfl]
    generalize l.getD i zrm = t at hs ⊢
    rw [zxm N hN hs, Option.bind_some, z17p]
    have e := z118 hs
    by_cases hb : zvo t = 0
    . have e0 := z117 hb
      rw [zp (by simp; omega), if_pos hb, z7o (by unfold I64; omega), z3a (by omega)]
      rw [hr _ ⟨i + 1, rfl, by omega, by omega, by omega⟩ (by simp only; omega)]
      simp only [Int.toNat_natCast]
      cases z17p (l.drop (i + 1)) with
      | none => rfl
      | some n => simp only [z1cp, Option.map_some]; congr 1; omega
    . rw [if_neg hb, z8 (by unfold z142; rw [if_neg hb]; rfl)]
      rfl
  . rw [zp (decide_eq_false (by omega)), List.drop_of_length_le (by omega), z17p]
    simp [z1cp]

theorem z19i (N : Nat) (hN : 100 < N) {b : zvq} (h : SzB b) : zcw N b = some (sizB b : Int) := by
  obtain ⟨h1, h2⟩ := h
  rw [zcw, sizB]
  by_cases h8 : 8 < b.2.1.length
  . rw [z8 (decide_eq_true (by omega)), if_pos h8]; rfl
  rw [zp (decide_eq_false (by omega)), if_neg h8, zxm N hN h1, Option.bind_some]
  have e := z118 h1
  have q3 := (z7s b.2.1.length).2
  by_cases hb : zvo b.1 = 0
  . have e0 := z117 hb
    rw [zp (by simp; omega), if_neg (show ¬ zvo b.1 ≠ 0 by simpa using hb), z29 (by omega), zwm N (by omega) (by omega), Option.bind_some, z7o (by unfold I64; omega), z14s N hN h2 (by omega) _ (by omega)]
    cases z17p b.2.1 with
    | none => rfl
    | some n => simp only [z1cp]; congr 1
  . rw [if_pos hb, z8 (by unfold z142; rw [if_neg hb]; rfl)]
    rfl


end
end Go.Proofs.YtaackaafmidjkaaDoorLg

set_option linter.all false
set_option maxRecDepth 100000
namespace Go.Proofs.YtaackaafmidjkaaDoorLg
noncomputable section
open Go Go.Lift Go.Proofs.YtaackaafmidjkaaDoorPx

theorem zxh {s s' : List UInt8} {e : Int} {t : z5v} (h : zcy s e = (t, (s', 0))) : e = 0 /\ zgh t = 0 /\ s = zpu t ++ s' := by
  unfold zcy zr5 at h
  rw [Prod.mk.injEq] at h
  obtain ⟨h1, h2⟩ := h
  by_cases hf : (z11y (z35 s e 65536).1).2.1 = 0
  . rw [if_pos hf] at h2
    have hx : z35 s e ((65536 : Nat) : Int) = ((z35 s e 65536).1, s', 0) := by
      have : (z35 s e 65536).2 = (s', 0) := h2
      rw [<- this]; rfl
    obtain ⟨k1, k2, k3⟩ := zfd hx
    have hg : z11y (z35 s e 65536).1 = (t, 0, ()) := by
      have : (z11y (z35 s e 65536).1).2 = ((0 : Int), ()) := by rw [<- hf]
      rw [<- this, <- h1]
    obtain ⟨g1, g2⟩ := z16c hg
    refine ⟨k1, g1, ?_⟩
    unfold zpu
    rw [<- g2]
    exact k3
  . rw [if_neg hf] at h2
    have := zrk (s := (z35 s e 65536).2.1) (e := (z35 s e 65536).2.2) hf
    rw [h2] at this
    exact absurd rfl this

theorem z10y {t : z5v} (h : zgh t = 0) (hl : (ztu t ++ t.2.2.1).length <= 65536) (s' : List UInt8) : zcy (zpu t ++ s') 0 = (t, (s', 0)) := by
  unfold zcy zpu
  have := zj2 (t := ztu t ++ t.2.2.1) (s' := s') (m := 65536) (by omega) hl
  rw [show ((65536 : Nat) : Int) = 65536 from rfl] at this
  rw [this]
  dsimp only
  rw [z18y h]
  rfl

theorem zx6 : ∀ (n : Nat) {s s' : List UInt8} {e : Int} {acc l : List z5v}, zb2 n s e acc = (l, (s', 0)) -> ∃ new, l = acc ++ new /\ new.length = n /\ e = 0 /\ s = z7n new ++ s' /\ zut new = 0
  | 0, s, s', e, acc, l, h => by
    rw [zb2] at h
    cases h
    exact ⟨[], by simp, rfl, rfl, rfl, rfl⟩
  | n + 1, s, s', e, acc, l, h => by
    rw [zb2] at h
    obtain ⟨new, h1, h2, h3, h4, h5⟩ := zx6 n h
    obtain ⟨k1, k2, k3⟩ := zxh (s := s) (e := e) (t := (zcy s e).1) (s' := (zcy s e).2.1) (by rw [<- h3])
    refine ⟨(zcy s e).1 :: new, by rw [h1]; simp, by simp [h2], k1, ?_, by rw [zut, if_neg (show ¬ zgh _ ≠ 0 by simpa using k2)]; exact h5⟩
    rw [z7n, List.append_assoc, <- h4]
    exact k3

theorem z10u : ∀ (new : List z5v) {s' : List UInt8} {acc : List z5v}, zut new = 0 -> (∀ t ∈ new, (ztu t ++ t.2.2.1).length <= 65536) -> zb2 new.length (z7n new ++ s') 0 acc = (acc ++ new, (s', 0))
  | [], s', acc, _, _ => by simp [zb2, z7n]
  | t :: ts, s', acc, h, hl => by
    rw [zut] at h
    by_cases hb : zgh t = 0
    . rw [if_neg (show ¬ zgh t ≠ 0 by simpa using hb)] at h
      rw [List.length_cons, zb2, z7n, List.append_assoc, z10y hb (hl t (List.mem_cons_self ..))]
      dsimp only
      rw [z10u ts h (fun x hx => hl x (List.mem_cons_of_mem _ hx))]
      simp
    . rw [if_pos hb] at h
      exact absurd h hb

theorem z11m {b : zvq} (h8 : b.2.1.length <= 8) (h1 : zgh b.1 = 0) (h2 : zut b.2.1 = 0) : z157 b = (zpu b.1 ++ (z60 b.2.1.length ++ z7n b.2.1), 0, ()) := by
  unfold z157
  rw [if_neg (by omega), if_neg (show ¬ zgh b.1 ≠ 0 by simpa using h1), if_neg (show ¬ zut b.2.1 ≠ 0 by simpa using h2)]

theorem z1bo {b : zvq} (h : (z157 b).2.1 = 0) : b.2.1.length <= 8 /\ zgh b.1 = 0 /\ zut b.2.1 = 0 := by
  unfold z157 at h
  by_cases h8 : 8 < b.2.1.length
  . rw [if_pos h8] at h; exact absurd h (by decide)
  rw [if_neg h8] at h
  by_cases h1 : zgh b.1 = 0
  . rw [if_neg (show ¬ zgh b.1 ≠ 0 by simpa using h1)] at h
    by_cases h2 : zut b.2.1 = 0
    . exact ⟨by omega, h1, h2⟩
    . rw [if_pos h2] at h; exact absurd h h2
  . rw [if_pos h1] at h; exact absurd h h1

theorem z16d {s : List UInt8} {b : zvq} (h : zx4 s = (b, 0, ())) : b.2.1.length <= 8 /\ zgh b.1 = 0 /\ zut b.2.1 = 0 /\ z159 b = (s, 0, ()) := by
  unfold zx4 at h
  by_cases hl : 65536 < s.length
  . rw [if_pos hl] at h; cases h
  rw [if_neg hl] at h
  by_cases he : be s = 0
  . rw [if_neg (show ¬ be s ≠ 0 by simpa using he)] at h
    obtain ⟨-, -, -, n, hn, hn8⟩ := z17f (s := s) (by omega)
    have hend : (bm s).2.1 = [] /\ (bm s).2.2 = 0 := by
      unfold be z196 at he
      by_cases hs : (bm s).2.1 = []
      . rw [if_pos hs] at he; exact ⟨hs, he⟩
      . rw [if_neg hs] at he; exact absurd he (by decide)
    obtain ⟨new, k1, k2, k3, k4, k5⟩ := zx6 (bn s).1.toNat (s := (bn s).2.1) (e := (bn s).2.2) (acc := []) (l := (bm s).1) (s' := []) (by
      show bm s = _
      rw [<- hend.1, <- hend.2])
    obtain ⟨j1, m, j2, j3, j4, j5⟩ := zwc (s := (bt s).2.1) (e := (bt s).2.2) (most := 8) (v := (bn s).1) (s' := (bn s).2.1) (by
      show bn s = _
      rw [<- k3])
    obtain ⟨i1, i2, i3⟩ := zxh (s := s) (e := 0) (t := (bt s).1) (s' := (bt s).2.1) (by
      show bt s = _
      rw [<- j1])
    have hb : b = ((bt s).1, ((bm s).1, ())) := by cases h; rfl
    subst hb
    have hm : (bm s).1 = new := by rw [k1]; rfl
    have hlen : new.length = m := by rw [k2, j2]; rfl
    have h8 : new.length <= 8 := by omega
    rw [hm]
    refine ⟨h8, i2, k5, ?_⟩
    have hr := z11m (b := ((bt s).1, (new, ()))) h8 i2 k5
    have hs : s = zpu (bt s).1 ++ (z60 new.length ++ z7n new) := by
      rw [hlen]
      refine i3.trans ?_
      rw [<- List.append_nil (z7n new), <- k4, <- j5]
    dsimp only at hr
    rw [<- hs] at hr
    unfold z159
    rw [hr, if_neg (show ¬ (0 : Int) ≠ 0 by decide), if_neg hl]
  . rw [if_pos he] at h
    exact absurd (congrArg (fun x : zvq × Int × Unit => x.2.1) h) he

theorem z16s {t : z5v} : (ztu t ++ t.2.2.1).length <= (zpu t).length := by
  unfold zpu zm7
  simp only [List.length_append]
  omega

theorem zyp : ∀ {l : List z5v} {t : z5v}, t ∈ l -> (zpu t).length <= (z7n l).length
  | t :: ts, u, h => by
    rw [z7n, List.length_append]
    rcases List.mem_cons.1 h with rfl | h
    . omega
    . have := zyp h; omega

theorem z18z {b : zvq} {s : List UInt8} (h : z159 b = (s, 0, ())) : zx4 s = (b, 0, ()) /\ s.length = sizB b := by
  have h0 : (z157 b).2.1 = 0 := by
    by_cases he : (z157 b).2.1 = 0
    . exact he
    . unfold z159 at h; rw [if_pos he] at h; rw [h] at he; exact absurd rfl he
  obtain ⟨h8, h1, h2⟩ := z1bo h0
  have hr := z11m h8 h1 h2
  have hl : ¬ 65536 < (zpu b.1 ++ (z60 b.2.1.length ++ z7n b.2.1)).length := by
    intro hl
    unfold z159 at h
    rw [hr, if_neg (show ¬ (0 : Int) ≠ 0 by decide), if_pos hl] at h
    cases h
  have hs : s = zpu b.1 ++ (z60 b.2.1.length ++ z7n b.2.1) := by
    unfold z159 at h
    rw [hr, if_neg (show ¬ (0 : Int) ≠ 0 by decide), if_neg hl] at h
    cases h; rfl
  subst hs
  obtain ⟨t, l, ⟨⟩⟩ := b
  dsimp only at *
  have hl' : (zpu t).length <= 65536 /\ (z7n l).length <= 65536 := by
    simp only [List.length_append] at hl
    omega
  have et : bt (zpu t ++ (z60 l.length ++ z7n l)) = (t, (z60 l.length ++ z7n l, 0)) := z10y h1 (Nat.le_trans z16s hl'.1) _
  have en : bn (zpu t ++ (z60 l.length ++ z7n l)) = ((l.length : Int), (z7n l, 0)) := by
    unfold bn
    rw [et]
    exact zzw (by omega) (by omega)
  have em : bm (zpu t ++ (z60 l.length ++ z7n l)) = (l, ([], 0)) := by
    unfold bm
    rw [en]
    dsimp only
    rw [Int.toNat_natCast]
    have := z10u l (s' := []) (acc := []) h2 (fun x hx => Nat.le_trans z16s (Nat.le_trans (zyp hx) hl'.2))
    rw [List.append_nil, List.nil_append] at this
    exact this
  have ee : be (zpu t ++ (z60 l.length ++ z7n l)) = 0 := by
    unfold be; rw [em]; rfl
  refine ⟨?_, ?_⟩
  . unfold zx4
    rw [if_neg hl, if_neg (show ¬ be _ ≠ 0 by simpa using ee), et, em]
  . have badB_z : ∀ {u : z5v}, zgh u = 0 -> zvo u = 0 /\ u.2.2.1.length = 32 := fun {u} hu => by
      unfold zgh at hu
      by_cases hb : zvo u = 0
      . rw [if_neg (show ¬ zvo u ≠ 0 by simpa using hb)] at hu
        by_cases hg : u.2.2.1.length = 32
        . exact ⟨hb, hg⟩
        . rw [if_pos hg] at hu; exact absurd hu (by decide)
      . rw [if_pos hb] at hu; exact absurd hu hb
    have len : ∀ {u : z5v}, zgh u = 0 -> (zpu u).length = z142 u := fun {u} hu => by
      obtain ⟨q1, q2⟩ := badB_z hu
      unfold zpu zm7 z142
      rw [if_pos q1, List.length_append, List.length_append, q2]
    have z17s : ∀ m : List z5v, zut m = 0 -> z17p m = some (z7n m).length := by
      intro m
      induction m with
      | nil => intro _; rfl
      | cons u us ih =>
        intro hu
        rw [zut] at hu
        by_cases hb : zgh u = 0
        . rw [if_neg (show ¬ zgh u ≠ 0 by simpa using hb)] at hu
          rw [z17p, if_pos (badB_z hb).1, ih hu, z7n, List.length_append, len hb]
          rfl
        . rw [if_pos hb] at hu; exact absurd hu hb
    unfold sizB
    dsimp only
    rw [if_neg (by omega), if_neg (show ¬ zvo t ≠ 0 by simpa using (badB_z h1).1), z17s l h2]
    simp only [List.length_append]
    rw [len h1]
    omega

theorem z1be : Sz zrm := ⟨by decide, by decide, (fun l h => by cases h), by decide⟩

theorem z1bz (s : List UInt8) : SzB (zx4 s).1 /\ (zx4 s).1.2.1.length <= 8 := by
  by_cases he : (zx4 s).2.1 = 0
  . have hg : zx4 s = ((zx4 s).1, 0, ()) := by
      have : (zx4 s).2 = ((0 : Int), ()) := by rw [<- he]
      rw [<- this]
    obtain ⟨h8, h1, h2, _⟩ := z16d hg
    refine ⟨⟨zuw h1, ?_⟩, h8⟩
    have : ∀ l : List z5v, zut l = 0 -> ∀ t ∈ l, Sz t := by
      intro l
      induction l with
      | nil => intro _ t ht; cases ht
      | cons u us ih =>
        intro hu t ht
        rw [zut] at hu
        by_cases hb : zgh u = 0
        . rw [if_neg (show ¬ zgh u ≠ 0 by simpa using hb)] at hu
          rcases List.mem_cons.1 ht with rfl | ht
          . exact zuw hb
          . exact ih hu t ht
        . rw [if_pos hb] at hu; exact absurd hu hb
    exact this _ h2
  . have hz : (zx4 s).1 = z1ao := by
      unfold zx4 at he ⊢
      by_cases hl : 65536 < s.length
      . rw [if_pos hl]
      . rw [if_neg hl] at he ⊢
        by_cases hb : be s = 0
        . rw [if_neg (show ¬ be s ≠ 0 by simpa using hb)] at he; exact absurd rfl he
        . rw [if_pos hb]
    rw [hz]
    exact ⟨⟨z1be, fun t ht => by cases ht⟩, by decide⟩

theorem z11c (N : Nat) (hN : 100 < N) {b : zvq} (h : SzB b) (h8 : b.2.1.length <= 70) : z18 N b b = some true := by
  rw [z18, z3t, z3s, z11b N _ (by have := h.1.2.1; omega) (by have := h.1.2.1; omega), Option.bind_some, Bool.not_true, cond_false, bne_self_eq_false, cond_false, z78]
  refine (z68 (fun v => ∃ i : Nat, v = (i : Int) /\ i <= b.2.1.length) (fun v => ((b.2.1.length : Int) - v).toNat) (fun _ => some true) ?_ N 0 ⟨0, rfl, by omega⟩ (by omega))
  rintro _ r ⟨i, rfl, hi⟩ hr
  rw [z3r]
  by_cases hlt : i < b.2.1.length
  . have hs := h.2 _ (z15t hlt)
    rw [z8 (decide_eq_true (by omega)), z8 (z69 hlt), z8 (z69 hlt), Int.toNat_natCast, show (([] : List UInt8), (([] : List ((List UInt8) × ((List UInt8) × Unit))), (([] : List UInt8), ()))) = zrm from rfl, z11b N _ (by have := hs.2.1; omega) (by have := hs.2.1; omega), Option.bind_some, Bool.not_true, cond_false, z3a (by omega)]
    exact hr _ ⟨i + 1, rfl, by omega⟩ (by omega)
  . rw [zp (decide_eq_false (by omega))]

abbrev z184 : List UInt8 := [48, 49, 50, 51, 52, 53, 54, 55, 56, 57, 97, 98, 99, 100, 101, 102, 48, 49, 50, 51, 52, 53, 54, 55, 56, 57, 97, 98, 99, 100, 101, 102]

theorem z1ap (N : Nat) (hN : 100 < N) : z2v N = some true := by
  rw [z2v]
  have hz : SzB ((([(97 : UInt8)] : List UInt8), (([] : List ztv), (z184, ()))), (([] : List z5v), ())) := ⟨⟨by decide, by decide, (fun l h => by cases h), by decide⟩, fun t ht => by cases ht⟩
  have hp : z159 ((([(97 : UInt8)] : List UInt8), (([] : List ztv), (z184, ()))), (([] : List z5v), ())) = ((z159 ((([(97 : UInt8)] : List UInt8), (([] : List ztv), (z184, ()))), (([] : List z5v), ()))).1, 0, ()) := by kernel_rfl
  have hl : (z159 ((([(97 : UInt8)] : List UInt8), (([] : List ztv), (z184, ()))), (([] : List z5v), ()))).1.length = 37 := by kernel_rfl
  obtain ⟨hg, hsz⟩ := z18z hp
  rw [z1c9 N hN hz, Option.bind_some, z17e N hN, hg, Option.bind_some]
  rw [z8 (by rw [hl]; rfl), z8 (by rw [hp]; rfl), z11c N hN hz (by decide), Option.bind_some, cond_true, z8 (by rfl), z19i N hN hz, Option.bind_some]
  rw [<- hsz, hl]
  rfl

theorem zus (N : Nat) (hN : 100 < N) (s : List UInt8) : z1p N s = some true := by
  have rest : ((z7m N s).bind fun y =>
    (z30 N s).bind fun y1 =>
    (z18 N y.1 y1.1).bind fun y2 =>
    cond y2
    (cond (y.2.1 == y1.2.1)
      ((some true : Option Bool).bind fun y3 =>
        some y3)
      (some false))
    (some false)) = some true := by
    obtain ⟨hz, h8⟩ := z1bz s
    rw [z17e N hN, z18g N hN, Option.bind_some, Option.bind_some, z11c N hN hz (by omega)]
    simp only [Option.bind_some, beq_self_eq_true, cond_true]
  rw [z1p, z3g, z3f, z1ap N hN]
  have key : ∀ x : Bool, cond x ((some true : Option Bool).bind fun y => some y) ((z7m N s).bind fun y =>
    (z30 N s).bind fun y1 =>
    (z18 N y.1 y1.1).bind fun y2 =>
    cond y2
    (cond (y.2.1 == y1.2.1)
      ((some true : Option Bool).bind fun y3 =>
        some y3)
      (some false))
    (some false)) = some true := by
    intro x
    cases x with
    | true => rfl
    | false => exact rest
  cases decide ((6000 : Int) < (((List.length s) : Nat) : Int)) with
  | false => exact key _
  | true =>
    rw [cond_true]
    cases decide ((((List.length s) : Nat) : Int) <= (65536 : Int)) with
    | true => exact key true
    | false => exact key _

end
end Go.Proofs.YtaackaafmidjkaaDoorLg
