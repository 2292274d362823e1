import Derived.Test.YtbfmhambfonpcaaDoorLgPrRr5
import Derived.Test.YtbfmhambfonpcaaDoorChecked
import Derived.KernelRfl
import Derived.Test.YtbfmhambfonpcaaDoorLgPrRr3
set_option linter.all false
set_option maxRecDepth 100000
namespace Go.Proofs.YtbfmhambfonpcaaDoorLg
noncomputable section
open Go Go.Lift Go.Proofs.YtbfmhambfonpcaaDoorPx


def z19t (s : List UInt8) (sub : Option (Nat -> PR Tree)) : Prop := ∀ f, sub = some f -> ∀ b, b <= s.length -> Nz (f b)

theorem z11j {sub : Option (Nat -> PR Tree)} {s : List UInt8} {a : Nat} (hS : z19t s sub) (ha : a < s.length) : Nz (zgi sub s a) := by
  unfold zgi
  split
  . cases sub with
    | none => rfl
    | some f => exact (hS f rfl (a + 1) (by omega)).next fun t a1 _ => (z101 s a1 41).next fun _ _ _ => trivial
  split
  . trivial
  split
  . exact (z135 s _).next fun _ _ _ => trivial
  split
  . exact (z10w s _).next fun _ _ _ => trivial
  split
  . rfl
  . trivial

theorem zw4 {sub : Option (Nat -> PR Tree)} {s : List UInt8} {a : Nat} (hS : z19t s sub) (ha : a < s.length) : Nz (zeg sub s a) := by
  refine (z11j hS ha).next fun t a1 _ => ?_
  split
  . split
    . trivial
    split
    . trivial
    split
    . trivial
    split
    . exact (z11d s _).next fun _ _ _ => trivial
    . trivial
  . trivial

theorem ztb {s : List UInt8} {a : Nat} (h : ¬ zi0 s a = true) : a < s.length := by
  simp [zi0] at h
  exact h.1

theorem zsz {sub : Option (Nat -> PR Tree)} {s : List UInt8} (hA : z14r s sub) (hS : z19t s sub) : ∀ (k a : Nat) (ps : List Tree), a <= s.length -> s.length < a + k -> Nz (zk1 sub s k a ps)
  | 0, a, ps, h1, h2 => by omega
  | k + 1, a, ps, h1, h2 => by
    unfold zk1
    split
    . trivial
    . rename_i h
      have hlt := ztb h
      refine (zw4 hS hlt).next fun t a1 e => ?_
      have hc := z15 (zbl hA hlt) e
      exact zsz hA hS k a1 _ hc.2 (by omega)

theorem z11n {sub : Option (Nat -> PR Tree)} {s : List UInt8} (hA : z14r s sub) (hS : z19t s sub) : ∀ (k a : Nat) (ps : List Tree), a <= s.length -> s.length < a + k -> Nz (zfc sub s k a ps)
  | 0, a, ps, h1, h2 => by omega
  | k + 1, a, ps, h1, h2 => by
    unfold zfc
    split
    . rename_i h
      have hlt : a + 1 <= s.length := by simp [isB] at h; omega
      refine (zsz hA hS _ (a + 1) [] hlt (by omega)).next fun t a1 e => ?_
      have hc := z15 (z5h hA _ (a + 1) [] hlt) e
      exact z11n hA hS k a1 _ hc.2 (by omega)
    . trivial

theorem z11o (s : List UInt8) : ∀ (d a : Nat), a <= s.length -> Nz (zgj s d a) := by
  have step : ∀ d a, z19t s (zeu s d) -> a <= s.length -> Nz (zgj s d a) := by
    intro d a hS ha
    rw [zo4]
    refine (zsz (z6e s d) hS _ a [] ha (by omega)).next fun t a1 e => ?_
    have hc := z15 (z5h (z6e s d) _ a [] ha) e
    exact z11n (z6e s d) hS _ a1 _ hc.2 (by omega)
  intro d
  induction d with
  | zero => intro a ha; exact step 0 a (fun f h => by cases h) ha
  | succ d ih => intro a ha; exact step (d + 1) a (fun f h b hb => by cases h; exact ih b hb) ha

theorem zvo (s : List UInt8) (d : Nat) : z19t s (zeu s d) := by
  cases d with
  | zero => intro f h; cases h
  | succ d => intro f h; cases h; exact z11o s d


def Can (t : Tree) : Prop := (zky t = 2 -> (znc t).length ≠ 1) /\ (zky t = 3 -> (znc t).length ≠ 1 /\ t = .mk 3 z4 (znc t) 0 0)

def CanR (r : PR Tree) : Prop := ∀ t b, r = .ok t b -> Can t

theorem CanR.bad {e : Int} {x : Nat} : CanR (.bad e x) := fun t b h => by cases h
theorem CanR.ok {t : Tree} {x : Nat} (h : Can t) : CanR (.ok t x) := fun t b h => by cases h; assumption
theorem CanR.next {α : Type} {r : PR α} {f : α -> Nat -> PR Tree} (h : ∀ x b, r = .ok x b -> CanR (f x b)) : CanR (r.next f) := by
  cases r with
  | bad e b => exact CanR.bad
  | ok x b => exact h x b rfl

theorem zqc (st : List Int) : Can (zym st) := ⟨fun h => absurd (show (1 : Int) = 2 from h) (by decide), fun h => absurd (show (1 : Int) = 3 from h) (by decide)⟩
theorem zq3 (t : Tree) (lo hi : Int) : Can (zxh t lo hi) := ⟨fun h => absurd (show (4 : Int) = 2 from h) (by decide), fun h => absurd (show (4 : Int) = 3 from h) (by decide)⟩

theorem z147 {k : Int} (hk : k = 2 \/ k = 3) {ks : List Tree} (h : ks.length ≠ 1) : Can (.mk k z4 ks 0 0) := by
  rcases hk with rfl | rfl
  . exact ⟨fun _ => h, fun e => absurd (show (2 : Int) = 3 from e) (by decide)⟩
  . exact ⟨fun e => absurd (show (3 : Int) = 2 from e) (by decide), fun _ => ⟨h, rfl⟩⟩

theorem zwn {k : Int} (hk : k = 2 \/ k = 3) : ∀ {ps : List Tree} {x : Tree}, (∀ p ∈ ps, Can p) -> z7e k ps = [x] -> x ∈ ps
  | [], x, h, e => by simp [z7e] at e
  | p :: qs, x, h, e => by
    have hp := h p (List.mem_cons_self ..)
    have e' : zgg k p ++ z7e k qs = [x] := e
    cases hq : zgg k p with
    | nil =>
      rw [hq, List.nil_append] at e'
      exact List.mem_cons_of_mem _ (zwn hk (fun q hq => h q (List.mem_cons_of_mem _ hq)) e')
    | cons y ys =>
      rw [hq, List.cons_append] at e'
      have e1 : y = x := (List.cons.inj e').1
      have e2 : ys ++ z7e k qs = [] := (List.cons.inj e').2
      have e3 : ys = [] := (List.append_eq_nil_iff.1 e2).1
      subst e1 e3
      unfold zgg at hq
      cases hk2 : zky p == k with
      | true =>
        rw [hk2] at hq
        have hkk : zky p = k := eq_of_beq hk2
        have hl : (znc p).length = 1 := by rw [show znc p = [y] from hq]; rfl
        rcases hk with rfl | rfl
        . exact absurd hl (hp.1 hkk)
        . exact absurd hl (hp.2 hkk).1
      | false =>
        rw [hk2] at hq
        have : p = y := (List.cons.inj hq).1
        subst this
        exact List.mem_cons_self ..

theorem zwg {k : Int} (hk : k = 2 \/ k = 3) {ps : List Tree} (h : ∀ p ∈ ps, Can p) : Can (ze4 k ps) := by
  unfold ze4
  cases hf : z7e k ps with
  | nil => exact z147 hk (by simp)
  | cons x xs =>
    cases xs with
    | nil => exact h x (zwn hk h hf)
    | cons y ys => exact z147 hk (by simp)

theorem z10e {t : Tree} (h : Can t) : ze4 3 [t] = t := by
  have e : z7e 3 [t] = zgg 3 t := by simp [z7e]
  unfold ze4
  rw [e]
  unfold zgg
  cases hk : zky t == 3 with
  | false => rfl
  | true =>
    obtain ⟨h1, h2⟩ := h.2 (eq_of_beq hk)
    simp only [cond_true]
    generalize znc t = ks at h1 h2
    subst h2
    match ks, h1 with
    | [], _ => rfl
    | [x], h1 => exact absurd rfl h1
    | x :: y :: zs, _ => rfl

theorem z13d {sub : Option (Nat -> PR Tree)} {s : List UInt8} {a : Nat} (hS : ∀ f, sub = some f -> ∀ b, b <= s.length -> CanR (f b)) (ha : a < s.length) : CanR (zgi sub s a) := by
  unfold zgi
  split
  . cases sub with
    | none => exact CanR.bad
    | some f => exact CanR.next fun t a1 e => CanR.next fun _ a2 _ => CanR.ok (hS f rfl (a + 1) (by omega) t a1 e)
  split
  . exact CanR.ok (zqc _)
  split
  . exact CanR.next fun _ _ _ => CanR.ok (zqc _)
  split
  . exact CanR.next fun _ _ _ => CanR.ok (zqc _)
  split
  . exact CanR.bad
  . exact CanR.ok (zqc _)

theorem zzg {sub : Option (Nat -> PR Tree)} {s : List UInt8} {a : Nat} (hS : ∀ f, sub = some f -> ∀ b, b <= s.length -> CanR (f b)) (ha : a < s.length) : CanR (zeg sub s a) := by
  refine CanR.next fun t a1 e => ?_
  have ht := z13d hS ha t a1 e
  split
  . split
    . exact CanR.ok (zq3 _ _ _)
    split
    . exact CanR.ok (zq3 _ _ _)
    split
    . exact CanR.ok (zq3 _ _ _)
    split
    . exact CanR.next fun _ _ _ => CanR.ok (zq3 _ _ _)
    . exact CanR.ok ht
  . exact CanR.ok ht

theorem zwt {ps : List Tree} {t : Tree} (h : ∀ p ∈ ps, Can p) (ht : Can t) : ∀ p ∈ ps ++ [t], Can p := by
  intro p hp
  rcases List.mem_append.1 hp with hp | hp
  . exact h p hp
  . rw [List.mem_singleton.1 hp]; exact ht

theorem zqy {sub : Option (Nat -> PR Tree)} {s : List UInt8} (hS : ∀ f, sub = some f -> ∀ b, b <= s.length -> CanR (f b)) : ∀ (k a : Nat) (ps : List Tree), (∀ p ∈ ps, Can p) -> CanR (zk1 sub s k a ps)
  | 0, a, ps, h => CanR.bad
  | k + 1, a, ps, h => by
    unfold zk1
    split
    . exact CanR.ok (zwg (Or.inl rfl) h)
    . rename_i hst
      exact CanR.next fun t a1 e => zqy hS k a1 _ (zwt h (zzg hS (ztb hst) t a1 e))

theorem zwx {sub : Option (Nat -> PR Tree)} {s : List UInt8} (hS : ∀ f, sub = some f -> ∀ b, b <= s.length -> CanR (f b)) : ∀ (k a : Nat) (ps : List Tree), (∀ p ∈ ps, Can p) -> CanR (zfc sub s k a ps)
  | 0, a, ps, h => CanR.bad
  | k + 1, a, ps, h => by
    unfold zfc
    split
    . exact CanR.next fun t a1 e => zwx hS k a1 _ (zwt h (zqy hS _ _ [] (fun p hp => by cases hp) t a1 e))
    . exact CanR.ok (zwg (Or.inr rfl) h)

theorem z191 (s : List UInt8) : ∀ (d a : Nat), CanR (zgj s d a) := by
  have step : ∀ d a, (∀ f, zeu s d = some f -> ∀ b, b <= s.length -> CanR (f b)) -> CanR (zgj s d a) := by
    intro d a hS
    rw [zo4]
    exact CanR.next fun t a1 e => zwx hS _ _ _ (fun p hp => by rw [List.mem_singleton.1 hp]; exact zqy hS _ _ [] (fun p hp => by cases hp) t a1 e)
  intro d
  induction d with
  | zero => intro a; exact step 0 a (fun f h => by cases h)
  | succ d ih => intro a; exact step (d + 1) a (fun f h b hb => by cases h; exact ih b)

theorem z1az (s : List UInt8) (d : Nat) : ∀ f, zeu s d = some f -> ∀ b, b <= s.length -> CanR (f b) := by
  cases d with
  | zero => intro f h; cases h
  | succ d => intro f h; cases h; exact fun b _ => z191 s d b


def RefR {α : Type} (f : α -> Nat -> PP) (r : PR α) (p : PP) : Prop := match r with
  | .bad e a => p.2.2.2.2.1 = (e, ((a : Int), ()))
  | .ok x a => p = f x a

theorem RefR.of {α : Type} {f : α -> Nat -> PP} (r : PR α) : RefR f r (zq4 f r) := by cases r <;> rfl

theorem RefR.err {α : Type} {f : α -> Nat -> PP} {e : Int} {a : Nat} {p : PP} (h : RefR f (.bad e a) p) (z : (e != 0) = true) : (p.2.2.2.2.1.1 != (0 : Int)) = true := by
  rw [show p.2.2.2.2.1 = (e, ((a : Int), ())) from h]; exact z

def z19v (s : List UInt8) (d : Nat) (self : List UInt8 -> Int -> Int -> Option PP) : Prop := ∀ d', d = d' + 1 -> ∀ (a : Nat), a <= s.length -> ∃ p, self s (a : Int) ((16 - d' : Nat) : Int) = some p /\ RefR trP (zgj s d' a) p

theorem zxk {N : Nat} (hN : 300 <= N) {s : List UInt8} {a d : Nat} (hd : d <= 16) (ha : a < s.length) (hs : s.length <= 256) (self : List UInt8 -> Int -> Int -> Option PP) (hself : z19v s d self) :
    ∃ p, z73 N self s (a : Int) ((16 - d : Nat) : Int) = some p /\ RefR trP (zgi (zeu s d) s a) p := by
  have hb := zlx s a
  unfold z73 za9 za8 zgi
  rw [decide_eq_false (show ¬ (s.length : Int) <= (a : Int) by omega), z86 ha, z88, amA hN hb, z6i (by omega)]
  simp only [cond_false, cond_true, Option.bind_some, show (40 : Int) = ((40 : Nat) : Int) from rfl, show (46 : Int) = ((46 : Nat) : Int) from rfl, show (91 : Int) = ((91 : Nat) : Int) from rfl, show (92 : Int) = ((92 : Nat) : Int) from rfl, show (16 : Int) = ((16 : Nat) : Int) from rfl, eqI]
  by_cases e1 : gb s a = 40
  . have f : (specials.contains (gb s a) && !(gb s a == 40 || gb s a == 46 || gb s a == 91 || gb s a == 92)) = false := by rw [e1]; rfl
    rw [f, decide_eq_true e1, if_pos e1]
    simp only [cond_false, cond_true]
    cases d with
    | zero => exact ⟨_, rfl, rfl⟩
    | succ d =>
      rw [decide_eq_false (by omega), z6i (by omega), show 16 - (d + 1) + 1 = 16 - d by omega]
      simp only [cond_false]
      obtain ⟨y, e, r⟩ := hself d rfl (a + 1) (by omega)
      rw [e]
      simp only [Option.bind_some]
      unfold za7 za6
      show ∃ p, _ /\ RefR trP ((zgj s d (a + 1)).next fun t a1 => (zds s a1 41).next fun _ a2 => .ok t a2) p
      have z := z11o s d (a + 1) (by omega)
      cases h : zgj s d (a + 1) with
      | bad ee b =>
        rw [h] at z r
        have q : (y.2.2.2.2.1.1 == (0 : Int)) = false := by
          have := r.err z
          simpa [bne] using this
        rw [q]
        exact ⟨_, rfl, r⟩
      | ok t b =>
        rw [h] at r
        have hp := z15 (ze1 s d (a + 1) (by omega)) h
        obtain rfl : y = trP t b := r
        rw [show ((trP t b).2.2.2.2.1.1 == (0 : Int)) = true from rfl, show (trP t b).2.2.2.1 = (b : Int) from rfl, show (41 : Int) = ((41 : Nat) : Int) from rfl, zqo, z6i (by omega)]
        simp only [cond_true, Option.bind_some, PR.next]
        rcases Nat.lt_or_ge b s.length with hl | hl
        . by_cases h41 : gb s b = 41
          . have q : isB s b 41 = true := by simp [isB, hl, h41]
            rw [q, zqf hl h41]
            exact ⟨_, rfl, rfl⟩
          . have q : isB s b 41 = false := by simp [isB, h41]
            unfold zds
            rw [q, zit hl, zd1 N hl]
            simp only [PR.next]
            rw [if_neg h41]
            exact ⟨_, rfl, rfl⟩
        . have q : isB s b 41 = false := by simp [isB]; omega
          unfold zds
          rw [q, zfs hl, zju N hl]
          exact ⟨_, rfl, rfl⟩
  rw [decide_eq_false e1, if_neg e1]
  by_cases e2 : gb s a = 46
  . have f : (specials.contains (gb s a) && !(gb s a == 40 || gb s a == 46 || gb s a == 91 || gb s a == 92)) = false := by rw [e2]; rfl
    rw [f, decide_eq_true e2, if_pos e2]
    rw [show (0 : Int) = ((0 : Nat) : Int) from rfl, show (255 : Int) = ((255 : Nat) : Int) from rfl, zbu hN (by omega) (by omega)]
    exact ⟨_, rfl, rfl⟩
  rw [decide_eq_false e2, if_neg e2]
  by_cases e3 : gb s a = 91
  . have f : (specials.contains (gb s a) && !(gb s a == 40 || gb s a == 46 || gb s a == 91 || gb s a == 92)) = false := by rw [e3]; rfl
    rw [f, decide_eq_true e3, if_pos e3, ztm hN hs (by omega)]
    refine ⟨_, rfl, ?_⟩
    cases zdt s (a + 1) <;> rfl
  rw [decide_eq_false e3, if_neg e3]
  by_cases e4 : gb s a = 92
  . have f : (specials.contains (gb s a) && !(gb s a == 40 || gb s a == 46 || gb s a == 91 || gb s a == 92)) = false := by rw [e4]; rfl
    rw [f, decide_eq_true e4, if_pos e4, zrs hN hs (by omega)]
    have z := z10w s a
    cases h : ztx s a with
    | bad e b =>
      rw [h] at z
      simp only [cond_true, cond_false, Option.bind_some, zq4, zyn]
      rw [show (e != (0 : Int)) = true from z]
      exact ⟨_, rfl, rfl⟩
    | ok x b => exact ⟨_, rfl, rfl⟩
  rw [decide_eq_false e4, if_neg e4]
  have f : (specials.contains (gb s a) && !(gb s a == 40 || gb s a == 46 || gb s a == 91 || gb s a == 92)) = specials.contains (gb s a) := by simp [e1, e2, e3, e4]
  rw [f, z121 (by omega), zg8 hN hb, zd1 N ha]
  cases specials.contains (gb s a) <;> exact ⟨_, rfl, rfl⟩

theorem zti {N : Nat} (hN : 300 <= N) {s : List UInt8} {a d : Nat} (hd : d <= 16) (ha : a < s.length) (hs : s.length <= 256) (self : List UInt8 -> Int -> Int -> Option PP) (hself : z19v s d self) :
    ∃ p, z4n N self s (a : Int) ((16 - d : Nat) : Int) = some p /\ RefR trP (zeg (zeu s d) s a) p := by
  unfold z4n z93 z92 zeg
  obtain ⟨y, e, r⟩ := zxk hN hd ha hs self hself
  rw [e]
  have z := z11j (zvo s d) ha
  simp only [Option.bind_some]
  cases h : zgi (zeu s d) s a with
  | bad ee b =>
    rw [h] at z r
    rw [r.err z]
    exact ⟨_, rfl, r⟩
  | ok t c =>
    rw [h] at r
    have hp := z15 (zfi (z6e s d) ha) h
    obtain rfl : y = trP t c := r
    rw [show ((trP t c).2.2.2.2.1.1 != (0 : Int)) = false from rfl, show (trP t c).2.2.2.1 = (c : Int) from rfl, show (trP t c).1 = unN t from rfl]
    simp only [PR.next, cond_false]
    rcases Nat.lt_or_ge c s.length with hlt | hge
    . rw [decide_eq_false (by omega), if_pos hlt, z86 hlt, z88, z6i (by omega), zwl, zru hN hs hlt]
      simp only [cond_false, cond_true, Option.bind_some, show (43 : Int) = ((43 : Nat) : Int) from rfl, show (42 : Int) = ((42 : Nat) : Int) from rfl, show (63 : Int) = ((63 : Nat) : Int) from rfl, show (123 : Int) = ((123 : Nat) : Int) from rfl, eqI]
      by_cases e1 : gb s c = 43
      . rw [decide_eq_true e1, if_pos e1, decide_eq_false (by omega)]; exact ⟨_, rfl, rfl⟩
      rw [decide_eq_false e1, if_neg e1]
      by_cases e2 : gb s c = 42
      . rw [decide_eq_true e2, if_pos e2]; exact ⟨_, rfl, rfl⟩
      rw [decide_eq_false e2, if_neg e2]
      by_cases e3 : gb s c = 63
      . rw [decide_eq_true e3, if_pos e3]; exact ⟨_, rfl, rfl⟩
      rw [decide_eq_false e3, if_neg e3]
      by_cases e4 : gb s c = 123
      . rw [decide_eq_true e4, if_pos e4]
        refine ⟨_, rfl, ?_⟩
        cases zbm s (c + 1) <;> rfl
      . rw [decide_eq_false e4, if_neg e4]; exact ⟨_, rfl, rfl⟩
    . rw [decide_eq_true (by omega), if_neg (by omega)]; exact ⟨_, rfl, rfl⟩

theorem zxj (N : Nat) (k : Int) (ps : List Tree) (hm : ps.length <= maxLen) (hN : ps.length < N) (hb : (z7e k ps).length * 80 <= 70368744177664) : z26 N k ps = some (unN (ze4 k ps)) := by
  unfold z26 zdg
  have key : ∀ (x4 : NodT.den) (k0 : List NodT.den -> Option NodT.den), iter (fun (v : (List NodT.den × Int)) r => z4w N k ps x4 v.1 v.2 (fun kids x10 => (r (kids, x10))) k0) N ([], 0) = k0 ((z7e k ps).map unN) := by
    intro x4 k0
    have := zix (step := fun (v : (List NodT.den × Int)) r => z4w N k ps x4 v.1 v.2 (fun kids x10 => (r (kids, x10))) k0)
      (fun v => ∃ i : Nat, v.2 = (i : Int) /\ i <= ps.length /\ (v.1.length + (z7e k (ps.drop i)).length) * 80 <= 70368744177664) (fun v => ps.length - v.2.toNat) (fun v => k0 (v.1 ++ (z7e k (ps.drop v.2.toNat)).map unN)) (by
      rintro ⟨acc, v⟩ r ⟨i, rfl, hi, hbi⟩ hr
      unfold z4w za1
      dsimp only at hbi ⊢
      rcases Nat.lt_or_ge i ps.length with h | h
      . have ht : decide ((i : Int) < (ps.length : Int)) = true := decide_eq_true (by omega)
        rw [z5f ht, Int.toNat_natCast, z146 h hm]
        simp only [z5f (zce h)]
        rw [zhw k h, List.length_append] at hbi
        rw [zhw k h, List.map_append, <- List.append_assoc]
        change cond (zky (ps.getD i dT) == k) (cond (decide (((acc.length + (List.map unN (znc (ps.getD i dT))).length) * 80) <= 70368744177664)) (r (acc ++ List.map unN (znc (ps.getD i dT)), ((i + 1 : Nat) : Int))) none) (cond (decide (((acc.length + 1) * 80) <= 70368744177664)) (r (acc ++ [unN (ps.getD i dT)], ((i + 1 : Nat) : Int))) none) = _
        unfold zgg at hbi ⊢
        cases hk : zky (ps.getD i dT) == k with
        | true =>
          rw [hk] at hbi
          simp only [cond_true] at hbi ⊢
          rw [z5f (decide_eq_true (by rw [List.length_map]; omega)), hr _ ⟨i + 1, rfl, by omega, by simp only [List.length_append, List.length_map]; omega⟩ (by simp only [Int.toNat_natCast]; omega)]
          simp only [Int.toNat_natCast]
        | false =>
          rw [hk] at hbi
          simp only [cond_false, List.length_singleton] at hbi ⊢
          rw [z5f (decide_eq_true (by omega)), hr _ ⟨i + 1, rfl, by omega, by simp only [List.length_append, List.length_singleton]; omega⟩ (by simp only [Int.toNat_natCast]; omega)]
          simp only [Int.toNat_natCast, List.map_cons, List.map_nil]
      . have ht : decide ((i : Int) < (ps.length : Int)) = false := decide_eq_false (by omega)
        rw [zel ht, Int.toNat_natCast, List.drop_eq_nil_of_le h]
        simp [z7e])
    have := this N ([], 0) ⟨0, rfl, by omega, by simpa using hb⟩ (by simp; omega)
    simpa using this
  refine (key _ _).trans ?_
  unfold ze4
  cases hf : z7e k ps with
  | nil => rfl
  | cons x xs =>
    cases xs with
    | nil => rfl
    | cons y ys =>
      have h1 : (((List.map unN (x :: y :: ys)).length : Int) == 1) = false := by
        rw [beq_eq_false_iff_ne]; simp only [List.length_map, List.length_cons]; omega
      rw [zel h1, zk0]
      rfl

theorem zow {N : Nat} (hN : 2000 <= N) (k : Int) {ps : List Tree} (h : z21 ps <= 1000) : z26 N k (List.map Go.Lift.foN (ps.map unN)) = some (unN (ze4 k ps)) := by
  have h1 := z4q ps
  have h2 := Nat.le_trans (z4q (z7e k ps)) (zfg k ps)
  rw [zk0]
  exact zxj N k ps (by unfold maxLen; omega) (by omega) (by omega)

theorem ztn (N : Nat) (self : List UInt8 -> Int -> Int -> Option PP) (s : List UInt8) (o : Int) (x6 : PP) (a : Nat) (L : List NodT.den) (rec : Int -> List NodT.den -> Option PP) (k0 : PP -> Option PP) (k1 : Int -> List NodT.den -> Option PP) :
    z59 N self s o x6 (a : Int) L rec k0 k1 = cond (zi0 s a) (k1 (a : Int) L) ((z4n N self s (a : Int) o).bind fun y => cond (y.2.2.2.2.1.1 != (0 : Int)) (k0 y) (cond (decide (((L.length + 1) * 80) <= 70368744177664)) (rec y.2.2.2.1 (L ++ [y.1])) none)) := by
  unfold z59 zax zi0
  rcases Nat.lt_or_ge a s.length with h | h
  . rw [decide_eq_true (show (a : Int) < (s.length : Int) by omega), decide_eq_true h, z86 h, z88]
    simp only [cond_true, Bool.not_true, Bool.false_or, bne, show (124 : Int) = ((124 : Nat) : Int) from rfl, show (41 : Int) = ((41 : Nat) : Int) from rfl, eqI]
    by_cases e1 : gb s a = 124
    . have e2 : (gb s a == 124) = true := by simpa using e1
      rw [decide_eq_true e1, e2]; rfl
    . have e2 : (gb s a == 124) = false := by simpa using e1
      rw [decide_eq_false e1, e2]
      by_cases e3 : gb s a = 41
      . have e4 : (gb s a == 41) = true := by simpa using e3
        rw [decide_eq_true e3, e4]; rfl
      . have e4 : (gb s a == 41) = false := by simpa using e3
        rw [decide_eq_false e3, e4]; rfl
  . rw [decide_eq_false (show ¬ (a : Int) < (s.length : Int) by omega), decide_eq_false (show ¬ a < s.length by omega)]
    rfl

theorem zmp {N : Nat} (hN : 300 <= N) {s : List UInt8} {d : Nat} (hd : d <= 16) (hs : s.length <= 256) (self : List UInt8 -> Int -> Int -> Option PP) (hself : z19v s d self) (x6 : PP) (k1 : Int -> List NodT.den -> Option PP)
    (hk : ∀ (a : Nat) ps, z21 ps <= 3 * a -> a <= s.length -> k1 (a : Int) (ps.map unN) = some (trP (ze4 2 ps) a)) : ∀ (k N' a : Nat) (ps : List Tree), k <= N' -> a <= s.length -> s.length < a + k -> z21 ps <= 3 * a →
    ∃ p, iter (fun (v : (Int × (List NodT.den))) r => z59 N self s ((16 - d : Nat) : Int) x6 v.1 v.2 (fun at_ parts => (r (at_, parts))) (fun x => some x) k1) N' ((a : Int), ps.map unN) = some p /\ RefR trP (zk1 (zeu s d) s k a ps) p
  | 0, N', a, ps, h1, h2, h3, h4 => by omega
  | k + 1, N', a, ps, h1, h2, h3, h4 => by
    obtain ⟨M, rfl⟩ : ∃ M, N' = M + 1 := ⟨N' - 1, by omega⟩
    rw [iter, zk1]
    dsimp only
    rw [ztn]
    cases hst : zi0 s a with
    | true =>
      simp only [cond_true, if_true]
      rw [hk a ps h4 h2]
      exact ⟨_, rfl, rfl⟩
    | false =>
      have hlt : a < s.length := ztb (by rw [hst]; simp)
      simp only [cond_false, Bool.false_eq_true, if_false]
      obtain ⟨y, e, r⟩ := zti hN hd hlt hs self hself
      rw [e]
      have z := zw4 (zvo s d) hlt
      simp only [Option.bind_some]
      cases hp : zeg (zeu s d) s a with
      | bad ee c =>
        rw [hp] at z r
        rw [r.err z]
        exact ⟨_, rfl, r⟩
      | ok t c =>
        rw [hp] at r
        obtain rfl : y = trP t c := r
        have hc := z15 (zbl (z6e s d) hlt) hp
        have ht := (zhs (z6e s d) (zjd hs d) hlt t c hp).2
        have hl := z4q ps
        rw [show ((trP t c).2.2.2.2.1.1 != (0 : Int)) = false from rfl, z19n (by rw [List.length_map]; omega)]
        simp only [cond_false, cond_true, PR.next]
        have := zmp hN hd hs self hself x6 k1 hk k M c (ps ++ [t]) (by omega) hc.2 (by omega) (by rw [z3t, z3f]; omega)
        rw [List.map_append] at this
        exact this

theorem zrt {N : Nat} (hN : 2000 <= N) {s : List UInt8} {a d : Nat} (hd : d <= 16) (ha : a <= s.length) (hs : s.length <= 256) (self : List UInt8 -> Int -> Int -> Option PP) (hself : z19v s d self) :
    ∃ p, z65 N self s (a : Int) ((16 - d : Nat) : Int) = some p /\ RefR trP (zk1 (zeu s d) s (s.length + 1) a []) p := by
  unfold z65 zay zeb
  exact zmp (by omega) hd hs self hself _ _ (fun b ps h1 h2 => by dsimp only; rw [zow hN 2 (by omega)]; rfl) (s.length + 1) N a [] (by omega) ha (by omega) (Nat.zero_le _)

theorem zlf {N : Nat} (hN : 2000 <= N) {s : List UInt8} {d : Nat} (hd : d <= 16) (hs : s.length <= 256) (self : List UInt8 -> Int -> Int -> Option PP) (hself : z19v s d self) (x6 : PP) (k1 : PP -> List NodT.den -> Option PP)
    (hk : ∀ t (a : Nat) ps, z21 ps <= 3 * a + 1 -> a <= s.length -> k1 (trP t a) (ps.map unN) = some (trP (ze4 3 ps) a)) : ∀ (k N' a : Nat) (t0 : Tree) (ps : List Tree), k <= N' -> a <= s.length -> s.length < a + k -> z21 ps <= 3 * a + 1 →
    ∃ p, iter (fun (v : (PP × (List NodT.den))) r => z7i N self s ((16 - d : Nat) : Int) x6 v.1 v.2 (fun x7 parts => (r (x7, parts))) (fun x => some x) k1) N' (trP t0 a, ps.map unN) = some p /\ RefR trP (zfc (zeu s d) s k a ps) p
  | 0, N', a, t0, ps, h1, h2, h3, h4 => by omega
  | k + 1, N', a, t0, ps, h1, h2, h3, h4 => by
    obtain ⟨M, rfl⟩ : ∃ M, N' = M + 1 := ⟨N' - 1, by omega⟩
    rw [iter, zfc]
    dsimp only
    conv => rhs; ext p; lhs; lhs; unfold z7i
    rw [show (trP t0 a).2.2.2.1 = (a : Int) from rfl, show (124 : Int) = ((124 : Nat) : Int) from rfl, zqo, z6i (by omega)]
    cases hb : isB s a 124 with
    | false =>
      simp only [Option.bind_some, cond_false, Bool.false_eq_true, if_false]
      rw [hk t0 a ps h4 h2]
      exact ⟨_, rfl, rfl⟩
    | true =>
      have hlt : a + 1 <= s.length := by simp [isB] at hb; omega
      simp only [Option.bind_some, cond_true, if_true]
      obtain ⟨y, e, r⟩ := zrt hN hd hlt hs self hself
      rw [e]
      have z := zsz (z6e s d) (zvo s d) (s.length + 1) (a + 1) [] hlt (by omega)
      simp only [Option.bind_some]
      cases hp : zk1 (zeu s d) s (s.length + 1) (a + 1) [] with
      | bad ee c =>
        rw [hp] at z r
        rw [r.err z]
        exact ⟨_, rfl, r⟩
      | ok t c =>
        rw [hp] at r
        obtain rfl : y = trP t c := r
        have hc := z15 (z5h (z6e s d) _ (a + 1) [] hlt) hp
        have ht := (zcz hs (z6e s d) (zjd hs d) (a + 1) _ (a + 1) [] hlt (Nat.le_refl _) (fun x hx => by cases hx) (by simp [z21]) t c hp).2
        have hl := z4q ps
        rw [show ((trP t c).2.2.2.2.1.1 != (0 : Int)) = false from rfl, z19n (by rw [List.length_map]; omega)]
        simp only [cond_false, cond_true, PR.next]
        have := zlf hN hd hs self hself x6 k1 hk k M c t (ps ++ [t]) (by omega) hc.2 (by omega) (by rw [z3t, z3f]; omega)
        rw [List.map_append] at this
        exact this

theorem zmq {N : Nat} (hN : 2000 <= N) {s : List UInt8} {a d : Nat} (hd : d <= 16) (ha : a <= s.length) (hs : s.length <= 256) (self : List UInt8 -> Int -> Int -> Option PP) (hself : z19v s d self) :
    ∃ p, z8d N self s (a : Int) ((16 - d : Nat) : Int) = some p /\ RefR trP (zgj s d a) p := by
  unfold z8d
  obtain ⟨y, e, r⟩ := zrt hN hd ha hs self hself
  rw [e, zo4]
  have z := zsz (z6e s d) (zvo s d) (s.length + 1) a [] ha (by omega)
  simp only [Option.bind_some]
  unfold zb0 zaz
  cases hp : zk1 (zeu s d) s (s.length + 1) a [] with
  | bad ee c =>
    rw [hp] at z r
    rw [r.err z]
    exact ⟨_, rfl, r⟩
  | ok t c =>
    rw [hp] at r
    obtain rfl : y = trP t c := r
    have hc := z15 (z5h (z6e s d) _ a [] ha) hp
    have ht := (zcz hs (z6e s d) (zjd hs d) a _ a [] ha (Nat.le_refl _) (fun x hx => by cases hx) (by simp [z21]) t c hp).2
    have hcan := zqy (z1az s d) _ _ [] (fun p hp => by cases hp) t c hp
    rw [show ((trP t c).2.2.2.2.1.1 != (0 : Int)) = false from rfl, show (trP t c).2.2.2.1 = (c : Int) from rfl, show (124 : Int) = ((124 : Nat) : Int) from rfl, zqo]
    simp only [cond_false, Option.bind_some, PR.next]
    cases hb : isB s c 124 with
    | false =>
      refine ⟨trP t c, rfl, ?_⟩
      rw [zfc, if_neg (by rw [hb]; simp), z10e hcan]
      rfl
    | true =>
      simp only [Bool.not_true, cond_false]
      unfold zec
      exact zlf hN hd hs self hself _ _ (fun t b ps h1 h2 => by (try dsimp only); rw [zow hN 3 (by omega)]; rfl) (s.length + 1) N c t [t] (by omega) hc.2 (by omega) (by rw [z3f]; omega)

theorem zrv {s : List UInt8} (hs : s.length <= 256) : ∀ (d N : Nat), d <= 16 -> 2000 + d <= N -> ∀ (a : Nat), a <= s.length -> ∃ p, z3x N s (a : Int) ((16 - d : Nat) : Int) = some p /\ RefR trP (zgj s d a) p
  | 0, N, hd, hN, a, ha => by
    obtain ⟨M, rfl⟩ : ∃ M, N = M + 1 := ⟨N - 1, by omega⟩
    exact zmq (by omega) hd ha hs _ (fun d' h => by omega)
  | d + 1, N, hd, hN, a, ha => by
    obtain ⟨M, rfl⟩ : ∃ M, N = M + 1 := ⟨N - 1, by omega⟩
    exact zmq (by omega) hd ha hs _ (fun d' h b hb => by
      obtain rfl : d = d' := by omega
      exact zrv hs d M (by omega) (by omega) b hb)

theorem ztj {N : Nat} (hN : 2020 <= N) (s : List UInt8) : z67 N s = some (psF (zn6 s)) := by
  unfold z67 zn6
  by_cases hl : 256 < s.length
  . rw [decide_eq_true (show (256 : Int) < (s.length : Int) by omega), if_pos hl]; rfl
  . rw [decide_eq_false (show ¬ (256 : Int) < (s.length : Int) by omega), if_neg hl]
    have hs : s.length <= 256 := by omega
    simp only [cond_false]
    obtain ⟨y, e, r⟩ := zrv hs 16 N (by omega) (by omega) 0 (by omega)
    rw [show z3x N s (0 : Int) (0 : Int) = some y from e]
    have z := z11o s 16 0 (by omega)
    simp only [Option.bind_some]
    unfold z99 z98
    cases hp : zgj s 16 0 with
    | bad ee c =>
      rw [hp] at z r
      have q : (y.2.2.2.2.1.1 == (0 : Int)) = false := by
        have := r.err z
        simpa [bne] using this
      rw [q]
      simp only [cond_false]
      rw [r.err z, show y.2.2.2.2.1 = (ee, ((c : Int), ())) from r]
      rfl
    | ok t c =>
      rw [hp] at r
      obtain rfl : y = trP t c := r
      rw [show ((trP t c).2.2.2.2.1.1 == (0 : Int)) = true from rfl, show (trP t c).2.2.2.1 = (c : Int) from rfl]
      simp only [cond_true, PR.next]
      by_cases h : c < s.length
      . rw [decide_eq_true (show (c : Int) < (s.length : Int) by omega), if_pos h, zd1 N h]; rfl
      . rw [decide_eq_false (show ¬ (c : Int) < (s.length : Int) by omega), if_neg h]; rfl

end
end Go.Proofs.YtbfmhambfonpcaaDoorLg

set_option linter.all false
set_option maxRecDepth 100000
namespace Go.Proofs.YtbfmhambfonpcaaDoorLg
noncomputable section
open Go Go.Lift

def z18k : Code := (Tryd.f7.body).getD .skip

def L_77 : List (List Nat × List Nat) := [([0], []), ([0, 1], [2, 1]), ([0, 1, 1], [2, 1, 4, 3]), ([0, 1, 1, 1], [2, 1, 4, 3, 6]), ([0, 1, 1, 1, 1], [0]), ([1, 1, 1, 1, 1], [0])]

def E_77 (N : Nat) : Env := z27 tys glob [(14, zdf N)] [] [] [] false [] []

theorem z1lv (N : Nat) : EnvOk Tryd.prog (E_77 N) := zi mixed z16 (FnsOk.cons (zi9 N) (FnsOk.nil)) (ItsOk.nil)

def z68 (N : Nat) : Option Bool :=
 (z6v N ([(97 : UInt8), (124 : UInt8), (98 : UInt8), (42 : UInt8)] : List UInt8)).bind fun y =>
 (z6v N ([(40 : UInt8), (97 : UInt8), (41 : UInt8), (40 : UInt8), (98 : UInt8), (99 : UInt8), (41 : UInt8)] : List UInt8)).bind fun y1 =>
 (z6v N ([(97 : UInt8), (123 : UInt8), (51 : UInt8), (44 : UInt8), (50 : UInt8), (125 : UInt8)] : List UInt8)).bind fun y2 =>
 cond (eqD (T.pair (T.int IntKind.i64) (T.pair (T.int IntKind.i64) T.unit)) y.2.1 ((0 : Int), ((0 : Int), ())))
 (cond (y.1.1 == (3 : Int))
 (cond ((((List.length y.1.2.2.1) : Nat) : Int) == (2 : Int))
 (cond (inR (1 : Int) (List.length y.1.2.2.1))
 (cond ((unN (List.getD y.1.2.2.1 1 (Tree.mk (0 : Int) ([] : List Int) ([] : List Tree) (0 : Int) (0 : Int)))).1 == (4 : Int))
 (cond (inR (1 : Int) (List.length y.1.2.2.1))
 (cond ((unN (List.getD y.1.2.2.1 1 (Tree.mk (0 : Int) ([] : List Int) ([] : List Tree) (0 : Int) (0 : Int)))).2.2.2.2.1 == (-(1 : Int)))
 (cond (eqD (T.pair (T.int IntKind.i64) (T.pair (T.int IntKind.i64) T.unit)) y1.2.1 ((0 : Int), ((0 : Int), ())))
 (cond (y1.1.1 == (2 : Int))
 (cond ((((List.length y1.1.2.2.1) : Nat) : Int) == (3 : Int))
 (some (eqD (T.pair (T.int IntKind.i64) (T.pair (T.int IntKind.i64) T.unit)) y2.2.1 ((2 : Int), ((4 : Int), ()))))
 (some false))
 (some false))
 (some false))
 (some false))
 (none))
 (some false))
 (none))
 (some false))
 (some false))
 (some false)

def t_77 (N : Nat) : Tab Bool := []

theorem z168 (N : Nat) (x : z1a []) : zas (E_77 N) N (t_77 N) L_77 Tryd.f7 (mkS [] 0 x) (z6d (.v .bool) 0) = z68 N := by kernel_rfl

def zca (N : Nat) : List A -> Res := z1b [] (fun x => z68 N) (zb4 (.v .bool) 0)

theorem zi6 (N : Nat) : Contract Tryd.prog glob 7 (zca N) :=
  Contract.of (E := E_77 N) (H := t_77 N) (L := L_77) (N := N) (body := z18k) (K := (z6d (.v .bool) 0)) (z1lv N) Tryd.func7 (by kernel_rfl) (by decide) (fun _ hb => TabOk.nil) (fun x y h => by rw [z168]; exact h) (z1p (s := (.v .bool)) (m := 0))

def z18j : Code := (Tryd.f4.body).getD .skip

def L_79 : List (List Nat × List Nat) := [([0], [0]), ([0, 0, 1], [9, 0]), ([1, 0, 1], [0]), ([0, 0, 1, 0, 1], [2]), ([1, 0, 1, 0, 1], [2]), ([0, 1, 1], [0, 3, 4]), ([0, 1, 1, 1], [3, 5, 4, 6]), ([0, 1, 1, 1, 1], [2]), ([1, 1, 1, 1, 1], [2])]

def E_79 (N : Nat) : Env := z27 tys glob [(7, zca N), (12, zcq N), (14, zdf N), (15, zc8 N)] [] [] [] false [] []

theorem z1lu (N : Nat) : EnvOk Tryd.prog (E_79 N) := zi mixed z16 (FnsOk.cons (zi6 N) (FnsOk.cons (zdn N) (FnsOk.cons (zi9 N) (FnsOk.cons (zi4 N) (FnsOk.nil))))) (ItsOk.nil)

def z2g (N : Nat) (s : (List UInt8)) : Option Bool :=
 cond (decide ((300 : Int) < (((List.length s) : Nat) : Int)))
 ((z68 N).bind fun y =>
 some y)
 ((z6v N s).bind fun y1 =>
 (z67 N s).bind fun y2 =>
 (z2n N y1.1 y2.1).bind fun y3 =>
 cond y3
 (cond (eqD (T.pair (T.int IntKind.i64) (T.pair (T.int IntKind.i64) T.unit)) y1.2.1 y2.2.1)
 ((z68 N).bind fun y4 =>
 some y4)
 (some false))
 (some false))

def t_79 (N : Nat) : Tab Bool := []

theorem z167 (N : Nat) (x : z1a [(0, .v .str)]) : zas (E_79 N) N (t_79 N) L_79 Tryd.f4 (mkS [(0, .v .str)] 0 x) (z6d (.v .bool) 1) = z2g N x.1 := by kernel_rfl

def ze3 (N : Nat) : List A -> Res := z1b [(0, .v .str)] (fun x => z2g N x.1) (zb4 (.v .bool) 1)

theorem zep (N : Nat) : Contract Tryd.prog glob 4 (ze3 N) :=
  Contract.of (E := E_79 N) (H := t_79 N) (L := L_79) (N := N) (body := z18j) (K := (z6d (.v .bool) 1)) (z1lu N) Tryd.func4 (by kernel_rfl) (by decide) (fun _ hb => TabOk.nil) (fun x y h => by rw [z167]; exact h) (z1p (s := (.v .bool)) (m := 1))

end
end Go.Proofs.YtbfmhambfonpcaaDoorLg

set_option linter.all false
set_option maxRecDepth 100000
namespace Go.Proofs.YtbfmhambfonpcaaDoorLg
noncomputable section
open Go Go.Lift Go.Proofs.YtbfmhambfonpcaaDoorPx

theorem zx5 (k : Nat) : z68 (k + 300) = some true := by kernel_rfl

mutual
theorem zor : ∀ a : Tree, zo5 a a = true
  | .mk k st ks lo hi => by rw [zo5]; simp [zos ks]
theorem zos : ∀ a : List Tree, zo6 a a = true
  | [] => by simp [zo6]
  | x :: xs => by rw [zo6, zor x, zos xs]; rfl
end

end
end Go.Proofs.YtbfmhambfonpcaaDoorLg

set_option linter.all false
set_option maxRecDepth 100000
namespace Go.Proofs.YtbfmhambfonpcaaDoorLg
noncomputable section
open Go Go.Lift Go.Proofs.YtbfmhambfonpcaaDoorPx

def z15o (r : PR Tree) : Tree := match r with
  | .bad _ _ => .mk 0 z4 [] 0 0
  | .ok t _ => t

theorem z12g (r : PR Tree) : (psF r).1 = unN (z15o r) := by cases r <;> rfl

theorem z155 : WfN (.mk 0 z4 [] 0 0) := by
  rw [WfN]
  refine ⟨?_, zvh z85, ?_, ?_, ?_⟩
  . exact zg9 (by omega) (by omega)
  . exact ⟨by unfold maxLen; simp, by simp [z11q]⟩
  . exact zg9 (by omega) (by omega)
  . exact zg9 (by omega) (by omega)

theorem zxp (s : List UInt8) : WfN (z15o (zn6 s)) /\ z5p (z15o (zn6 s)) <= 1000 := by
  have hz : WfN (.mk 0 z4 [] 0 0) /\ z5p (.mk 0 z4 [] 0 0) <= 1000 := ⟨z155, by simp [z5p, z21]⟩
  unfold zn6
  by_cases hl : 256 < s.length
  . rw [if_pos hl]; exact hz
  . rw [if_neg hl]
    have hs : s.length <= 256 := by omega
    cases h : zgj s 16 0 with
    | bad e c => exact hz
    | ok t c =>
      have hc := z15 (ze1 s 16 0 (by omega)) h
      have ht := zwy hs 16 0 (by omega) t c h
      simp only [PR.next]
      split
      . exact hz
      . exact ⟨ht.1, by have := ht.2; show z5p t <= 1000; omega⟩

theorem z15t (s : List UInt8) : ∃ N, z2g N s = some true := by
  refine ⟨3700 + 300, ?_⟩
  have w := zx5 3700
  obtain ⟨hw, hn⟩ := zxp s
  unfold z2g
  rw [w]
  by_cases h : 300 < s.length
  . rw [decide_eq_true (show (300 : Int) < (s.length : Int) by omega)]; rfl
  . rw [decide_eq_false (show ¬ (300 : Int) < (s.length : Int) by omega), z15z (by omega) s, ztj (by omega) s]
    simp only [cond_false, Option.bind_some]
    rw [z12g, zov _ _ _ (by omega) hw, zor]
    simp only [Option.bind_some, cond_true]
    rw [(zj1 _ _ _ rfl).2 rfl]
    rfl

end
end Go.Proofs.YtbfmhambfonpcaaDoorLg
