import Derived.Test.YtdeemkigjeemjaaLgPrPw3
import Derived.Lib.MapLaws
set_option linter.all false
namespace Go.Proofs.YtdeemkigjeemjaaPx
noncomputable section
open Go Go.Lift

theorem zuw (s : List UInt8) (i : Nat) : runeAt s i = Go.Lib.decodeN (s.length - i) (s.getD i 0).toNat (s.getD (i + 1) 0).toNat (s.getD (i + 2) 0).toNat (s.getD (i + 3) 0).toNat :=
  Go.Lib.decode_N ⟨⟨s⟩⟩ i

theorem zpm {s : List UInt8} {i : Nat} (h : (s.getD i 0).toNat < 128) : runeAt s i = ((s.getD i 0).toNat, 1) := by
  rw [zuw]
  exact Go.Lib.decodeN_ascii _ _ _ _ _ h

theorem zrc {s : List UInt8} {i : Nat} (hi : i < s.length) (h : 128 <= (s.getD i 0).toNat) :
    128 <= (runeAt s i).1 /\ 1 <= (runeAt s i).2 /\ i + (runeAt s i).2 <= s.length /\ ∀ j, i <= j -> j < i + (runeAt s i).2 -> 128 <= (s.getD j 0).toNat := by
  rw [zuw]
  rcases Go.Lib.decodeN_shape (s.length - i) (s.getD i 0).toNat (s.getD (i + 1) 0).toNat (s.getD (i + 2) 0).toNat (s.getD (i + 3) 0).toNat with ⟨h1, e⟩ | ⟨h1, h2, h3, h4, e⟩ | ⟨h1, h2, h3, h4, h5, h6, e⟩ | ⟨h1, h2, h3, h4, h5, h6, h7, e⟩ | e
  . omega
  . rw [e]
    refine ⟨h4, by omega, by dsimp only; omega, fun j hj hj2 => ?_⟩
    dsimp only at hj2
    obtain rfl | rfl : j = i \/ j = i + 1 := by omega
    . exact h
    . omega
  . rw [e]
    refine ⟨by dsimp only; omega, by omega, by dsimp only; omega, fun j hj hj2 => ?_⟩
    dsimp only at hj2
    obtain rfl | rfl | rfl : j = i \/ j = i + 1 \/ j = i + 2 := by omega
    . exact h
    . omega
    . omega
  . rw [e]
    refine ⟨by dsimp only; omega, by omega, by dsimp only; omega, fun j hj hj2 => ?_⟩
    dsimp only at hj2
    obtain rfl | rfl | rfl | rfl : j = i \/ j = i + 1 \/ j = i + 2 \/ j = i + 3 := by omega
    . exact h
    . omega
    . omega
    . omega
  . rw [e]
    refine ⟨by omega, by omega, by dsimp only; omega, fun j hj hj2 => ?_⟩
    dsimp only at hj2
    obtain rfl : j = i := by omega
    exact h

end
end Go.Proofs.YtdeemkigjeemjaaPx

set_option linter.all false
namespace Go.Proofs.YtdeemkigjeemjaaPx
noncomputable section
open Go Go.Lift

def zvd (c : Nat) (first : Bool) : Bool := decide (97 <= c /\ c <= 122) || (decide ((48 <= c /\ c <= 57) \/ c = 45) && !first)

theorem zlb {c : Nat} (h : 128 <= c) (f : Bool) : zvd c f = false := by
  simp only [zvd, Bool.or_eq_false_iff, decide_eq_false_iff_not, Bool.and_eq_false_iff]
  exact ⟨by omega, .inl (by omega)⟩
def allS (p : Nat -> Bool -> Bool) : List UInt8 -> Bool -> Bool
  | [], _ => true
  | u :: r, f => p u.toNat f && allS p r false

def zp7 (s : List UInt8) : Bool := decide (1 <= s.length /\ s.length <= 32) && allS zvd s true


end
end Go.Proofs.YtdeemkigjeemjaaPx

set_option linter.all false
set_option maxRecDepth 100000
namespace Go.Proofs.YtdeemkigjeemjaaLg
noncomputable section
open Go Go.Lift Go.Proofs.YtdeemkigjeemjaaPx

theorem zmy (N : Nat) (c : Nat) (f : Bool) : z4o N (c : Int) f = some (zvd c f) := by
  simp only [z4o, z5q, zbi, zvd, Bool.cond_eq_ite, decide_eq_true_eq, beq_iff_eq]
  have key : (if (48 : Int) <= c then some (decide ((c : Int) <= 57)) else some false) = some (decide (48 <= c /\ c <= 57)) := by
    split
    . congr 1; rw [Bool.eq_iff_iff, decide_eq_true_eq, decide_eq_true_eq]; omega
    . congr 1; rw [Bool.eq_iff_iff, decide_eq_true_eq]; simp; omega
  rw [key]
  simp only [Option.bind_some, decide_eq_true_eq, Bool.false_eq_true, if_false]
  by_cases h1 : 97 <= c /\ c <= 122
  . rw [if_pos (by omega), if_pos (by omega)]; simp [h1]
  have hx : ∀ X Y : Option Bool, (if (97 : Int) <= c then if (c : Int) <= 122 then Y else X else X) = X := by
    intro X Y
    repeat' split
    all_goals first
      | rfl
      | omega
  rw [hx, decide_eq_false h1, Bool.false_or]
  by_cases h4 : 48 <= c /\ c <= 57
  . rw [if_pos h4, decide_eq_true (p := (48 <= c /\ c <= 57) \/ c = 45) (.inl h4), Bool.true_and]
  . rw [if_neg h4]
    by_cases h5 : c = 45
    . subst h5; simp
    . rw [if_neg (by omega), decide_eq_false (by omega), Bool.false_and]

theorem zud (i : Nat) : ((((i : Nat) : Int)) == 0) = decide (i = 0) := by
  rw [Bool.eq_iff_iff, beq_iff_eq, decide_eq_true_eq]; omega

theorem zqs (N : Nat) {s : List UInt8} (hN : 40 < N) : z4p N s = some (zp7 s) := by
  simp only [z4p, z5t, z5s, zp7]
  by_cases h0 : s = []
  . subst h0; rfl
  have hl : s.length ≠ 0 := fun e => h0 (List.length_eq_zero_iff.1 e)
  rw [z1n (by simpa using h0)]
  by_cases h1 : 32 < s.length
  . rw [z1d (z54 (by omega)), decide_eq_false (by omega)]; rfl
  rw [z1n (z75 (by omega)), decide_eq_true (p := 1 <= s.length /\ s.length <= 32) (by omega), Bool.true_and]
  simp only [z9u]
  rw [zkp (I := fun (v : List UInt8 × Nat) => v.1 = s /\ v.2 <= s.length) (m := fun (v : List UInt8 × Nat) => s.length - v.2) (R := fun (v : List UInt8 × Nat) => some (allS zvd (s.drop v.2) (decide (v.2 = 0)))) ?_ N (s, 0) ⟨rfl, Nat.zero_le _⟩ (by dsimp only; omega)]
  . simp
  rintro ⟨s', i⟩ r ⟨rfl, hi⟩ hr
  dsimp only at *
  simp only [z5r, zud]
  by_cases hlt : i < s'.length
  . rw [z1d (z54 hlt), zmy, Option.bind_some, zml s' 0 i hlt]
    simp only [allS]
    by_cases h128 : (s'.getD i 0).toNat < 128
    . rw [zpm h128]
      dsimp only
      cases hp : zvd (s'.getD i 0).toNat (decide (i = 0)) with
      | false => rfl
      | true =>
        rw [Bool.not_true, cond_false, hr _ ⟨rfl, by dsimp only; omega⟩ (by dsimp only; omega)]
        dsimp only
        rw [decide_eq_false (by omega), Bool.true_and]
    . obtain ⟨g1, _⟩ := zrc hlt (by omega)
      rw [zlb g1, zlb (by omega)]; rfl
  . rw [z1n (z75 hlt), zmk s' (by omega)]; rfl

theorem zvc (N : Nat) {s : List UInt8} (hN : 40 < N) : zau N s = some (zp7 s) := by
  simp only [zau, zqs N hN, Option.bind_some]


end
end Go.Proofs.YtdeemkigjeemjaaLg

set_option linter.all false
set_option maxRecDepth 100000
namespace Go.Proofs.YtdeemkigjeemjaaLg
noncomputable section
open Go Go.Lift Go.Proofs.YtdeemkigjeemjaaPx

abbrev CL : Type := List UInt8 × Int × Int × Unit
abbrev AK : Type := List UInt8 × List UInt8 × Int × Unit
abbrev OW : Type := List UInt8 × List UInt8 × Unit
abbrev RT : Type := List CL × Int × Option (List (OW × BK)) × Unit

theorem zk6 (N : Nat) (n : Int) : z2z N n = some (decide (zgd n)) := by
  unfold z2z zgd
  by_cases h : 0 <= n
  . rw [z1d (z54 h)]; simp [h]
  . rw [z1n (z75 h)]; simp [h]


def zwc (c : List UInt8) : List CL -> Int -> Int
  | [], _ => -1
  | x :: l, i => if x.1 = c then i else zwc c l (i + 1)

theorem zom (N : Nat) (l : List CL) (c : List UInt8) (hN : l.length < N) (hl : l.length < 9223372036854775807) : z68 N l c = some (zwc c l 0) := by
  simp only [z68, zbj, zdf]
  rw [zkp (I := fun (v : Int) => 0 <= v /\ v <= ((l.length : Nat) : Int)) (m := fun (v : Int) => l.length - v.toNat) (R := fun (v : Int) => some (zwc c (l.drop v.toNat) v)) ?_ N 0 ⟨by omega, by omega⟩ (by omega)]
  . simp
  intro v r ⟨h2, h3⟩ hr
  obtain ⟨i, rfl⟩ := Int.eq_ofNat_of_zero_le h2
  simp only [z9e, Int.toNat_natCast] at *
  by_cases hlt : i < l.length
  . rw [z1d (z54 (by omega)), z1d (zks hlt), zml l (([] : List UInt8), ((0 : Int), ((0 : Int), ()))) i hlt]
    simp only [zwc]
    by_cases hc : (l.getD i (([] : List UInt8), ((0 : Int), ((0 : Int), ())))).1 = c
    . rw [z1d (by rw [hc]; simp), if_pos hc]
    . rw [z1n (by simpa using hc), if_neg hc, zcm (by omega), hr _ ⟨by omega, by omega⟩ (by omega), Int.toNat_natCast]
      rfl
  . rw [z1n (z75 (by omega)), zmk l (by omega)]; rfl

def zqj (l : List CL) (c : List UInt8) : Option CL := l.find? (fun x => decide (x.1 = c))

theorem zhn (c : List UInt8) : ∀ (l : List CL) (i : Int), 0 <= i -> (zwc c l i = -1 /\ zqj l c = none) \/ ∃ k : Nat, zwc c l i = i + k /\ k < l.length /\ zqj l c = some (l.getD k (([] : List UInt8), ((0 : Int), ((0 : Int), ()))))
  | [], _, _ => .inl ⟨rfl, rfl⟩
  | x :: l, i, hi => by
    simp only [zwc, zqj, List.find?_cons]
    by_cases h : x.1 = c
    . rw [if_pos h, decide_eq_true h]
      exact .inr ⟨0, by simp, by simp, by simp⟩
    . rw [if_neg h, decide_eq_false h]
      rcases zhn c l (i + 1) (by omega) with ⟨h1, h2⟩ | ⟨k, h1, h2, h3⟩
      . exact .inl ⟨h1, h2⟩
      . exact .inr ⟨k + 1, by rw [h1]; omega, by simpa using h2, by rw [List.getD_cons_succ]; exact h3⟩


def zmb (l : List CL) (start : Int) (c : List UInt8) : BK × Bool × Unit := match zqj l c with
  | none => ((0, (0, (0, (0, ())))), (false, ()))
  | some x => ((x.2.1, (x.2.2.1, (0, (start, ())))), (true, ()))

theorem zsn (N : Nat) (l : List CL) (start : Int) (t c : List UInt8) (hN : l.length < N) (hl : l.length < 9223372036854775807) : zdi N l start (t, (c, ())) = some (zmb l start c) := by
  unfold zdi z1k
  dsimp only
  rw [zom N l c hN hl, Option.bind_some]
  unfold zmb
  rcases zhn c l 0 (by omega) with ⟨h1, h2⟩ | ⟨k, h1, h2, h3⟩
  . rw [h1, h2]; rfl
  . rw [h1, h3]
    have hk : (0 : Int) + (k : Int) = (k : Int) := by omega
    rw [hk, z1n (z75 (by omega)), z1d (zks h2), Int.toNat_natCast, z1d (z54 h2)]
    rfl


theorem zu3 (a b : OW) : eqD OwT a b = decide (a = b) := zwe (t := OwT) rfl

abbrev zqd (xs : List (OW × BK)) (t c : List UInt8) : Option BK := z3w (eqD OwT) (t, (c, ())) xs

theorem zkt (o : OW) (v : BK) (t c : List UInt8) : ∀ xs : List (OW × BK), zqd (zi6 (eqD OwT) o v xs) t c = if o = (t, (c, ())) then some v else zqd xs t c
  | [] => by
    show z3w (eqD OwT) (t, (c, ())) [(o, v)] = _
    simp only [z3w, zu3, zqd]
    by_cases h : o = (t, (c, ()))
    . rw [if_pos h, decide_eq_true h.symm]
    . rw [if_neg h, decide_eq_false (fun e => h e.symm)]
  | x :: xs => by
    have ih := zkt o v t c xs
    simp only [zqd, zi6, zu3] at ih ⊢
    by_cases hx : o = x.1
    . rw [decide_eq_true hx]
      simp only [z3w, zu3]
      by_cases h : o = (t, (c, ()))
      . rw [if_pos h, decide_eq_true h.symm]
      . rw [if_neg h, decide_eq_false (fun e => h e.symm), <- hx, decide_eq_false (fun e => h e.symm)]
    . rw [decide_eq_false hx]
      simp only [z3w, zu3]
      by_cases h : (t, (c, ())) = x.1
      . rw [decide_eq_true h]
        rw [if_neg (fun e => hx (by rw [e, h]))]
      . rw [decide_eq_false h]
        exact ih


def zqu (l : List CL) (start : Int) (xs : List (OW × BK)) (t c : List UInt8) : BK × Bool × Unit := match zqd xs t c with
  | some b => (b, (true, ()))
  | none => zmb l start c

theorem ztv (N : Nat) (l : List CL) (start : Int) (xs : List (OW × BK)) (t c : List UInt8) (hN : l.length < N) (hl : l.length < 9223372036854775807) : z1m N (l, (start, (some xs, ()))) (t, (c, ())) = some (zqu l start xs t c, (l, (start, (some xs, ())))) := by
  have e : zqu l start xs t c = match z3w (eqD OwT) (t, (c, ())) xs with
    | some b => (b, (true, ()))
    | none => zmb l start c := rfl
  rw [e]
  unfold z1m
  dsimp only [Option.getD_some]
  cases h : z3w (eqD OwT) (t, (c, ())) xs with
  | some b => rfl
  | none =>
    dsimp only
    rw [zsn N l start t c hN hl]
    rfl

theorem ztr (N : Nat) (l : List CL) (start : Int) (xs : List (OW × BK)) (t c : List UInt8) {now : Int} (hn : I64 now) (hN : l.length < N) (hl : l.length < 9223372036854775807) :
    z19 N (l, (start, (some xs, ()))) t c now = some (if (zqu l start xs t c).2.1 then ((if (z63 (zqu l start xs t c).1 now).2.1 then 0 else 17), ((l, (start, (some (zi6 (eqD OwT) (t, (c, ())) (z63 (zqu l start xs t c).1 now).1 xs), ()))), ())) else (6, ((l, (start, (some xs, ()))), ()))) := by
  unfold z19
  dsimp only
  rw [ztv N l start xs t c hN hl, Option.bind_some]
  dsimp only
  cases (zqu l start xs t c).2.1 with
  | true => rw [cond_true, zvy N _ hn]; rfl
  | false => rfl

theorem zrl (N : Nat) (l : List CL) (start : Int) (xs : List (OW × BK)) (now : Int) : z2o N (l, (start, (some xs, ()))) now = some ((), ((if zgd now then (l, (now, (some [], ()))) else (l, (start, (some xs, ())))), ())) := by
  simp only [z2o, z45, Option.isSome_some, Bool.not_true, Bool.not_false, cond_true, zk6, Option.bind_some]
  by_cases h : zgd now
  . rw [decide_eq_true h, if_pos h]; rfl
  . rw [decide_eq_false h, if_neg h]; rfl


def chkX (l : List CL) (x : CL) : Int :=
 if zp7 x.1 = false then 4
 else if ¬ (zgd x.2.1 /\ zgd x.2.2.1) then 7
 else if (zqj l x.1).isSome then 5 else 0

def zt2 (l : List CL) (i : Nat) : Int := chkX (l.take i) (l.getD i (([] : List UInt8), ((0 : Int), ((0 : Int), ()))))

def zmq (l : List CL) : Nat -> Nat -> Int
  | 0, _ => 0
  | n + 1, i => cond (zt2 l i != 0) (zt2 l i) (zmq l n (i + 1))

def chk (l : List CL) : Int := if 8 < l.length then 3 else zmq l l.length 0

theorem zrk (N : Nat) (l : List CL) (hN : 40 < N) : z8d N l = some (chk l) := by
  simp only [z8d, chk]
  by_cases h8 : 8 < l.length
  . rw [z1d (z54 (by omega)), if_pos h8]
  rw [z1n (z75 (by omega)), if_neg h8]
  simp only [zd2]
  rw [zkp (I := fun (v : Int) => 0 <= v /\ v <= ((l.length : Nat) : Int)) (m := fun (v : Int) => l.length - v.toNat) (R := fun (v : Int) => some (zmq l (l.length - v.toNat) v.toNat)) ?_ N 0 ⟨by omega, by omega⟩ (by omega)]
  . simp
  intro v r ⟨h2, h3⟩ hr
  obtain ⟨i, rfl⟩ := Int.eq_ofNat_of_zero_le h2
  simp only [z96]
  rw [show some (zmq l (l.length - Int.toNat (i : Int)) (Int.toNat (i : Int))) = some (zmq l (l.length - i) i) from by rw [Int.toNat_natCast]]
  rw [Int.toNat_natCast] at hr
  by_cases hlt : i < l.length
  . obtain ⟨n, hn⟩ : ∃ n, l.length - i = n + 1 := ⟨l.length - i - 1, by omega⟩
    rw [z1d (z54 (by omega)), z1d (zks hlt), zvc N hN, Option.bind_some, hn]
    simp only [zmq, zt2]
    generalize hx : l.getD (Int.toNat (i : Int)) (([] : List UInt8), ((0 : Int), ((0 : Int), ()))) = x
    have hx' : l.getD i (([] : List UInt8), ((0 : Int), ((0 : Int), ()))) = x := by rw [<- hx, Int.toNat_natCast]
    rw [hx', Int.toNat_natCast]
    unfold chkX
    cases hw : zp7 x.1 with
    | false => rw [if_pos rfl]; rfl
    | true =>
      rw [if_neg (by simp)]
      simp only [Bool.not_true, cond_false, z97, zk6, Option.bind_some]
      by_cases o1 : zgd x.2.1
      . rw [decide_eq_true o1]
        simp only [Bool.not_true, cond_false]
        by_cases o2 : zgd x.2.2.1
        . rw [decide_eq_true o2]
          simp only [Bool.not_true, cond_false]
          rw [if_neg (fun h => h ⟨o1, o2⟩), z1d (z54 ⟨by omega, by omega⟩), zue, zom N (l.take i) x.1 (by rw [List.length_take]; omega) (by rw [List.length_take]; omega), Option.bind_some]
          rcases zhn x.1 (l.take i) 0 (by omega) with ⟨g1, g2⟩ | ⟨k, g1, g2, g3⟩
          . rw [g1, g2, z1n (by decide), zcm (by omega), hr _ ⟨by omega, by omega⟩ (by omega), Int.toNat_natCast]
            rw [show l.length - (i + 1) = n by omega]
            rfl
          . rw [g1, g3, z1d (z54 (by omega))]
            rfl
        . rw [decide_eq_false o2, if_pos (fun h => o2 h.2)]; rfl
      . rw [decide_eq_false o1, if_pos (fun h => o1 h.1)]; rfl
  . rw [z1n (z75 (by omega)), show l.length - i = 0 by omega]; rfl

theorem zw3 (N : Nat) (l : List CL) (now : Int) (hN : 40 < N) (hl : l.length <= 1000) : zbg N l now = some (if chk l ≠ 0 then (none, (chk l, ())) else if zgd now then (some (l, (now, (some [], ()))), (0, ())) else (none, (7, ()))) := by
  simp only [zbg, zrk N l hN, Option.bind_some, zk6]
  by_cases hc : chk l = 0
  . rw [z1n (by rw [hc]; rfl), if_neg (fun h => h hc)]
    by_cases h : zgd now
    . rw [decide_eq_true h, if_pos h]
      simp only [Bool.not_true, cond_false, zck]
      rw [z1d (z54 (by omega))]
      rfl
    . rw [decide_eq_false h, if_neg h]; rfl
  . rw [z1d (by simpa using hc), if_pos hc]

theorem zlo (k : Nat) : z1f (k + 1000) = some true := by kernel_rfl

end
end Go.Proofs.YtdeemkigjeemjaaLg

set_option linter.all false
set_option maxRecDepth 100000
namespace Go.Proofs.YtdeemkigjeemjaaLg
noncomputable section
open Go Go.Lift Go.Proofs.YtdeemkigjeemjaaPx

abbrev BEG : List UInt8 := [(98 : UInt8), (101 : UInt8), (103 : UInt8), (105 : UInt8), (110 : UInt8)]

end
end Go.Proofs.YtdeemkigjeemjaaLg

set_option linter.all false
set_option maxRecDepth 100000
namespace Go.Proofs.YtdeemkigjeemjaaLg
noncomputable section
open Go Go.Lift Go.Proofs.YtdeemkigjeemjaaPx

abbrev zi7 : List UInt8 := [(103 : UInt8), (111 : UInt8), (108 : UInt8), (100 : UInt8)]
abbrev FREE : List UInt8 := [(102 : UInt8), (114 : UInt8), (101 : UInt8), (101 : UInt8)]
abbrev TA : List UInt8 := [(97 : UInt8)]
abbrev two (c : Int × Int × Unit) : List CL := [(zi7, c), (FREE, ((5 : Int), ((1 : Int), ())))]

theorem zqz {c : Int × Int × Unit} (h : chk (two c) = 0) : zgd c.1 /\ zgd c.2.1 := by
  have h' : zmq (two c) 2 0 = 0 := h
  simp only [zmq] at h'
  have h0 : zt2 (two c) 0 = 0 := by
    by_cases hx : zt2 (two c) 0 = 0
    . exact hx
    . rw [z1d (by simpa using hx)] at h'; exact h'
  have h1 : chkX [] ((zi7, c) : CL) = 0 := h0
  unfold chkX at h1
  rw [if_neg (show ¬ zp7 zi7 = false by decide)] at h1
  by_cases ho : zgd c.1 /\ zgd c.2.1
  . exact ho
  . rw [if_pos ho] at h1; omega

theorem zqi (c : Int × Int × Unit) : zqj (two c) zi7 = some (zi7, c) := rfl

def za7 (c : Int × Int × Unit) (start : Int) (xs : List (OW × BK)) : BK := (zqd xs TA zi7).getD (c.1, (c.2.1, (0, (start, ()))))

theorem zrw (c : Int × Int × Unit) (start : Int) (xs : List (OW × BK)) : zqu (two c) start xs TA zi7 = (za7 c start xs, (true, ())) := by
  unfold zqu za7
  cases zqd xs TA zi7 with
  | some b => rfl
  | none =>
    dsimp only [Option.getD_none]
    unfold zmb
    rw [zqi]

theorem zx9 {b : BK} {now : Int} (h : z4w b) (h1 : b.2.2.2.1 <= now) (h2 : now <= 1099511627776) : (atB b now).2.2.2.1 = now := by
  unfold atB
  by_cases h3 : b.2.2.2.1 < now
  . rw [if_pos ⟨h, h3, h2⟩]
  . rw [if_neg (fun hh => h3 hh.2.1)]; omega

theorem zvx {b : BK} {now : Int} (h : z4w b) (h1 : b.2.2.2.1 <= now) (h2 : now <= 1099511627776) : (z63 b now).1.2.2.2.1 = now /\ (z63 b now).1.1 = b.1 /\ (z63 b now).1.2.1 = b.2.1 := by
  have e := zx9 h h1 h2
  obtain ⟨_, e1, e2⟩ := zl4 now h
  unfold z63
  split
  . exact ⟨e, e1, e2⟩
  . exact ⟨e, e1, e2⟩

theorem zve {from_ long : Int} {b : BK} {n now : Int} (hf : 0 <= from_) (hl : 0 <= long) (h : Win from_ long b n) (h1 : b.2.2.2.1 <= now) (h2 : now <= 1099511627776) : Win from_ long (b.1, (b.2.1, (0, (now, ())))) n := by
  have hw := zut hf hl h now
  have e := zx9 h.right h1 h2
  obtain ⟨_, e1, e2⟩ := zl4 now h.right
  have hr := h.right
  have hr2 := hw.right
  obtain ⟨⟨c0, c1⟩, ⟨f0, f1⟩, ⟨a0, a1⟩, g0, g1⟩ := hr
  refine ⟨⟨⟨c0, c1⟩, ⟨f0, f1⟩, ⟨by dsimp only; omega, by dsimp only; omega⟩, by dsimp only; omega, by dsimp only; omega⟩, h.pos, fun hh => h.ahead (by dsimp only at hh; omega), h.most, fun g h' => ?_⟩
  dsimp only at g h' ⊢
  have := hw.now (by rw [e]; exact g) (by rw [e]; exact h')
  rw [e, e1, e2] at this
  have := hr2.2.2.2.1
  omega

theorem zie (k : Nat) (c : CL) (asked : List AK) (l : List Int) (hl : l.length = 2) (hli : ∀ x ∈ l, I64 x) (ha : ∀ a ∈ asked, I64 a.2.2.1) : z11 (k + 1000) c asked l = some true := by
  obtain ⟨from_, long, rfl⟩ : ∃ x y, l = [x, y] := by
    match l, hl with
    | [x, y], _ => exact ⟨x, y, rfl⟩
  have hfi := hli from_ (by simp)
  have hlo := hli long (by simp)
  obtain ⟨nm, c⟩ := c
  have l0 : decide (0 < 0 + 1 + 1) = true := rfl
  have l1 : decide (1 < 0 + 1 + 1) = true := rfl
  simp only [z11, z27, z26, zlo, Option.bind_some, List.getD_cons_zero, List.getD_cons_succ, List.length_cons, List.length_nil, l0, l1, cond_true]
  rw [zw3 (k + 1000) (two c) 0 (by omega) (by simp), Option.bind_some]
  by_cases hc : chk (two c) = 0
  . rw [if_neg (fun h => h hc), if_pos ⟨by omega, by omega⟩]
    obtain ⟨oc, of⟩ := zqz hc
    dsimp only
    rw [z1n (by rfl)]
    by_cases h1 : 60 < asked.length
    . rw [z1d (z54 (by omega))]
    rw [z1n (z75 (by omega))]
    by_cases h2 : from_ < 0
    . rw [z1d (z54 h2)]
    rw [z1n (z75 h2)]
    by_cases h3 : 1099511627776 < from_
    . rw [z1d (z54 h3)]
    rw [z1n (z75 h3)]
    by_cases h4 : long < 0
    . rw [z1d (z54 h4)]
    rw [z1n (z75 h4)]
    by_cases h5 : 1099511627776 < long
    . rw [z1d (z54 h5)]
    rw [z1n (z75 h5)]
    simp only [Option.isSome_some, cond_true, Option.getD_some, z3h]
    have hstart : Win from_ long (c.1, (c.2.1, (0, (0, ())))) 0 := by
      obtain ⟨c0, c1⟩ := oc
      obtain ⟨f0, f1⟩ := of
      have hp : 0 <= c.2.1 * long := Int.mul_nonneg f0 (by omega)
      refine ⟨⟨⟨c0, c1⟩, ⟨f0, f1⟩, ⟨by dsimp only; omega, by dsimp only; omega⟩, by dsimp only; omega, by dsimp only; omega⟩, by omega, fun _ => rfl, by dsimp only; omega, fun h _ => ?_⟩
      dsimp only at h ⊢
      have hp : 0 <= c.2.1 * (0 - from_) := Int.mul_nonneg f0 (by omega)
      omega
    refine zm7 (I := fun (v : RT × Int × Int × Int) => ∃ (xs : List (OW × BK)) (start : Int) (i : Nat), v.1 = (two c, (start, (some xs, ()))) /\ v.2.2.2 = (i : Int) /\ Win from_ long (za7 c start xs) v.2.1 /\ (za7 c start xs).1 = c.1 /\ (za7 c start xs).2.1 = c.2.1 /\ (za7 c start xs).2.2.2.1 <= v.2.2.1 /\ v.2.1 <= i /\ i <= asked.length) (m := fun (v : RT × Int × Int × Int) => asked.length - v.2.2.2.toNat) (p := fun o => o = some true) ?_ (k + 1000) _ ⟨[], 0, 0, rfl, rfl, hstart, rfl, rfl, Int.le_refl _, Int.le_refl _, Nat.zero_le _⟩ (by dsimp only; omega)
    rintro ⟨r0, n, last, i0⟩ r ⟨xs, start, i, hv1, hv2, hw, hw1, hw2, hw3, hni, hil⟩ hrec
    dsimp only at hv1 hv2 hw hw1 hw2 hw3 hni hrec
    subst hv1; subst hv2
    rw [Int.toNat_natCast] at hrec
    simp only [z1z, z25, z24, z21, z20, zlo, Option.bind_some]
    by_cases hlt : i < asked.length
    . rw [z1d (z54 (by omega))]
      simp only [zks hlt, cond_true]
      have hi64 := ha _ (zua asked (([] : List UInt8), (([] : List UInt8), ((0 : Int), ()))) i hlt)
      generalize hx : asked.getD (Int.toNat (i : Int)) (([] : List UInt8), (([] : List UInt8), ((0 : Int), ()))) = a
      have hx' : asked.getD i (([] : List UInt8), (([] : List UInt8), ((0 : Int), ()))) = a := by rw [<- hx, Int.toNat_natCast]
      rw [hx'] at hi64
      by_cases g1 : a.2.2.1 < last
      . rw [z1d (z54 g1)]
      rw [z1n (z75 g1)]
      by_cases g2 : 1099511627776 < a.2.2.1
      . rw [z54 g2, cond_true]
      rw [z75 g2, cond_false]
      have hat := hw.right.2.2.1.1
      have hpos : 0 <= a.2.2.1 := by omega
      by_cases hb : a.2.1 = BEG
      . rw [z1d (by rw [hb]; rfl), zrl, Option.bind_some, if_pos ⟨hpos, by omega⟩, zcm (by omega)]
        refine hrec _ ⟨[], a.2.2.1, i + 1, rfl, rfl, ?_, rfl, rfl, Int.le_refl _, by dsimp only; omega, by omega⟩ (by dsimp only; omega)
        dsimp only
        have := zve (by omega) (by omega) hw (now := a.2.2.1) (by omega) (by omega)
        rw [hw1, hw2] at this
        exact this
      . rw [z1n (by simpa using hb), ztr (k + 1000) (two c) start xs a.1 a.2.1 hi64 (by simp) (by simp), Option.bind_some, zcm (by omega)]
        have same : ∀ xs', zqd xs' TA zi7 = zqd xs TA zi7 -> r ((two c, (start, (some xs', ()))), n, a.2.2.1, ((i + 1 : Nat) : Int)) = some true := by
          intro xs' hg
          have hgb : za7 c start xs' = za7 c start xs := by unfold za7; rw [hg]
          refine hrec _ ⟨xs', start, i + 1, rfl, rfl, ?_, ?_, ?_, ?_, by dsimp only; omega, by omega⟩ (by dsimp only; omega) <;> (try dsimp only) <;> rw [hgb]
          . exact hw
          . exact hw1
          . exact hw2
          . omega
        by_cases hk : a.1 = TA /\ a.2.1 = zi7
        . obtain ⟨e1, e2⟩ := hk
          rw [e1, e2, zrw]
          simp only [if_true]
          have hset : zqd (zi6 (eqD OwT) (TA, (zi7, ())) (z63 (za7 c start xs) a.2.2.1).1 xs) TA zi7 = some (z63 (za7 c start xs) a.2.2.1).1 := by rw [zkt, if_pos rfl]
          obtain ⟨hw', _⟩ := ztj (by omega) (by omega) hw a.2.2.1
          obtain ⟨t1, t2, t3⟩ := zvx hw.right (now := a.2.2.1) (by omega) (by omega)
          have hgb : za7 c start (zi6 (eqD OwT) (TA, (zi7, ())) (z63 (za7 c start xs) a.2.2.1).1 xs) = (z63 (za7 c start xs) a.2.2.1).1 := by
            show (zqd (zi6 (eqD OwT) (TA, (zi7, ())) (z63 (za7 c start xs) a.2.2.1).1 xs) TA zi7).getD _ = _
            rw [hset]; rfl
          have fin : ∀ n', Win from_ long (z63 (za7 c start xs) a.2.2.1).1 n' -> n' <= ((i + 1 : Nat) : Int) -> r ((two c, (start, (some (zi6 (eqD OwT) (TA, (zi7, ())) (z63 (za7 c start xs) a.2.2.1).1 xs), ()))), n', a.2.2.1, ((i + 1 : Nat) : Int)) = some true := by
            intro n' hn1 hn2
            refine hrec _ ⟨_, start, i + 1, rfl, rfl, ?_, ?_, ?_, ?_, hn2, by omega⟩ (by dsimp only; omega) <;> (try dsimp only) <;> rw [hgb]
            . exact hn1
            . rw [t2, hw1]
            . rw [t3, hw2]
            . rw [t1]; exact Int.le_refl _
          have hwr : IntKind.wrap .i64 (a.2.2.1 - from_) = a.2.2.1 - from_ := z5n (by unfold I64; omega)
          have hwn : IntKind.wrap .i64 (n + 1) = n + 1 := z5n (by unfold I64; have := hw.pos; omega)
          rw [t1] at hw'
          simp only [List.getD_cons_zero, List.getD_cons_succ, List.length_cons, List.length_nil, l0, l1, cond_true, hwr, hwn]
          cases htk : (z63 (za7 c start xs) a.2.2.1).2.1 with
          | false =>
            rw [if_neg (by simp), z1n (by rfl), cond_false]
            rw [htk, if_neg (fun hh => by cases hh.1)] at hw'
            exact fin n hw' (by omega)
          | true =>
            rw [if_pos rfl, z1d (by rfl), z1d (by rfl), z1d (by rfl)]
            rw [htk] at hw'
            by_cases d1 : from_ <= a.2.2.1
            . rw [z1d (z54 d1)]
              by_cases d2 : a.2.2.1 - from_ <= long
              . rw [z54 d2, cond_true]
                rw [if_pos ⟨rfl, by simp only [zqb, decide_eq_true_eq]; exact ⟨d1, d2⟩⟩] at hw'
                exact fin (n + 1) hw' (by omega)
              . rw [z75 d2, cond_false]
                rw [if_neg (fun hh => d2 (by have := hh.2; simp only [zqb, decide_eq_true_eq] at this; exact this.2))] at hw'
                exact fin n hw' (by omega)
            . rw [z1n (z75 d1), cond_false]
              rw [if_neg (fun hh => d1 (by have := hh.2; simp only [zqb, decide_eq_true_eq] at this; exact this.1))] at hw'
              exact fin n hw' (by omega)
        . have hno : ∀ (X Y : RT -> Option Bool) (z : RT) , (cond (a.1 == TA) (cond (a.2.1 == zi7) (X z) (Y z)) (Y z)) = Y z := by
            intro X Y z
            by_cases e1 : a.1 = TA
            . rw [z1d (by rw [e1]; rfl), z1n (by simpa using fun e2 => hk ⟨e1, e2⟩)]
            . rw [z1n (by simpa using e1)]
          have hkeep : ∀ v, zqd (zi6 (eqD OwT) (a.1, (a.2.1, ())) v xs) TA zi7 = zqd xs TA zi7 := fun v => by
            rw [zkt, if_neg (fun e => hk ⟨congrArg (fun q : OW => q.1) e, congrArg (fun q : OW => q.2.1) e⟩)]
          by_cases e1 : a.1 = TA
          . have e2 : ¬ a.2.1 = zi7 := fun e2 => hk ⟨e1, e2⟩
            rw [z1d (b := a.1 == TA) (by rw [e1]; rfl), z1n (b := a.2.1 == zi7) (by simpa using e2)]
            cases (zqu (two c) start xs a.1 a.2.1).2.1 with
            | false =>
              simp only [Bool.false_eq_true, if_false, cond_false]
              cases ((6 : Int) == 0) <;> exact same xs rfl
            | true =>
              simp only [if_true, cond_false]
              cases ((if (z63 (zqu (two c) start xs a.1 a.2.1).1 a.2.2.1).2.1 = true then (0 : Int) else 17) == 0) <;> exact same _ (hkeep _)
          . rw [z1n (b := a.1 == TA) (by simpa using e1)]
            cases (zqu (two c) start xs a.1 a.2.1).2.1 with
            | false =>
              simp only [Bool.false_eq_true, if_false, cond_false]
              cases ((6 : Int) == 0) <;> exact same xs rfl
            | true =>
              simp only [if_true, cond_false]
              cases ((if (z63 (zqu (two c) start xs a.1 a.2.1).1 a.2.2.1).2.1 = true then (0 : Int) else 17) == 0) <;> exact same _ (hkeep _)
    . rw [z1n (z75 (by omega))]
      have hm := hw.most
      have p0 := hw.pos
      rw [hw1, hw2] at hm
      obtain ⟨c0, c1⟩ := oc
      obtain ⟨f0, f1⟩ := of
      by_cases hn : n <= c.1
      . rw [z1d (z54 hn)]
      rw [z1n (z75 hn)]
      have hmax : (if c.2.1 > 1 then c.2.1 else (1 : Int)) = max c.2.1 1 := by split <;> omega
      have hfp : 0 < c.2.1 := by
        rcases Int.lt_or_le 0 c.2.1 with h | h
        . exact h
        . have : c.2.1 = 0 := by omega
          rw [this, Int.zero_mul] at hm; omega
      have w1 : IntKind.wrap .i64 (n - c.1) = n - c.1 := z5n (by unfold I64; omega)
      have w2 : IntKind.wrap .i64 (n - c.1 - 1) = n - c.1 - 1 := z5n (by unfold I64; omega)
      have hq : (n - c.1 - 1).tdiv c.2.1 = (n - c.1 - 1) / c.2.1 := Int.tdiv_eq_ediv_of_nonneg (by omega)
      have hq0 : 0 <= (n - c.1 - 1) / c.2.1 := Int.ediv_nonneg (by omega) (by omega)
      have hq1 : (n - c.1 - 1) / c.2.1 <= n - c.1 - 1 := Int.ediv_le_self _ (by omega)
      have w3 : IntKind.wrap .i64 ((n - c.1 - 1) / c.2.1) = (n - c.1 - 1) / c.2.1 := z5n (by unfold I64; omega)
      have hlt2 : (n - c.1 - 1) / c.2.1 < long := by
        rw [Int.ediv_lt_iff_lt_mul hfp, Int.mul_comm]; omega
      rw [z1d (z54 hfp), hmax, show max c.2.1 1 = c.2.1 by omega]
      simp only [w1, w2, hq, w3]
      rw [z1n (by simp; omega), z1d (z54 hlt2)]
  . rw [if_pos hc]
    dsimp only
    rw [z1d (by simpa using hc)]

end
end Go.Proofs.YtdeemkigjeemjaaLg
