import Derived.Test.YtbnhlpehccohjaaLgPrBw5
import Derived.Lib.MapLaws
set_option linter.all false
namespace Go.Proofs.YtbnhlpehccohjaaPx
noncomputable section
open Go Go.Lift

theorem z11p (s : List UInt8) (i : Nat) : runeAt s i = Go.Lib.decodeN (s.length - i) (s.getD i 0).toNat (s.getD (i + 1) 0).toNat (s.getD (i + 2) 0).toNat (s.getD (i + 3) 0).toNat :=
  Go.Lib.decode_N ⟨⟨s⟩⟩ i

theorem zwd {s : List UInt8} {i : Nat} (h : (s.getD i 0).toNat < 128) : runeAt s i = ((s.getD i 0).toNat, 1) := by
  rw [z11p]
  exact Go.Lib.decodeN_ascii _ _ _ _ _ h

theorem zy1 {s : List UInt8} {i : Nat} (hi : i < s.length) (h : 128 <= (s.getD i 0).toNat) :
    128 <= (runeAt s i).1 /\ 1 <= (runeAt s i).2 /\ i + (runeAt s i).2 <= s.length /\ ∀ j, i <= j -> j < i + (runeAt s i).2 -> 128 <= (s.getD j 0).toNat := by
  rw [z11p]
  rcases Go.Lib.decodeN_shape (s.length - i) (s.getD i 0).toNat (s.getD (i + 1) 0).toNat (s.getD (i + 2) 0).toNat (s.getD (i + 3) 0).toNat with ⟨h1, e⟩ | ⟨h1, h2, h3, h4, e⟩ | ⟨h1, h2, h3, h4, h5, h6, e⟩ | ⟨h1, h2, h3, h4, h5, h6, h7, e⟩ | e
  . omega
  . rw [e]
    refine ⟨h4, by omega, by dsimp only; omega, fun j hj hj2 => ?_⟩
    dsimp only at hj2
    obtain rfl | rfl : j = i \/ j = i + 1 := by omega
    . exact h
    . omega
  . rw [e]
    refine ⟨by dsimp only; omega, by omega, by dsimp only; omega, fun j hj hj2 => ?_⟩
    dsimp only at hj2
    obtain rfl | rfl | rfl : j = i \/ j = i + 1 \/ j = i + 2 := by omega
    . exact h
    . omega
    . omega
  . rw [e]
    refine ⟨by dsimp only; omega, by omega, by dsimp only; omega, fun j hj hj2 => ?_⟩
    dsimp only at hj2
    obtain rfl | rfl | rfl | rfl : j = i \/ j = i + 1 \/ j = i + 2 \/ j = i + 3 := by omega
    . exact h
    . omega
    . omega
    . omega
  . rw [e]
    refine ⟨by omega, by omega, by dsimp only; omega, fun j hj hj2 => ?_⟩
    dsimp only at hj2
    obtain rfl : j = i := by omega
    exact h

end
end Go.Proofs.YtbnhlpehccohjaaPx

set_option linter.all false
namespace Go.Proofs.YtbnhlpehccohjaaPx
noncomputable section
open Go Go.Lift

def z12a (c : Nat) (first : Bool) : Bool := decide (97 <= c /\ c <= 122) || (decide ((48 <= c /\ c <= 57) \/ c = 45) && !first)

theorem zrg {c : Nat} (h : 128 <= c) (f : Bool) : z12a c f = false := by
  simp only [z12a, Bool.or_eq_false_iff, decide_eq_false_iff_not, Bool.and_eq_false_iff]
  exact ⟨by omega, .inl (by omega)⟩
def allS (p : Nat -> Bool -> Bool) : List UInt8 -> Bool -> Bool
  | [], _ => true
  | u :: r, f => p u.toNat f && allS p r false

def zvy (s : List UInt8) : Bool := decide (1 <= s.length /\ s.length <= 32) && allS z12a s true


end
end Go.Proofs.YtbnhlpehccohjaaPx

set_option linter.all false
set_option maxRecDepth 100000
namespace Go.Proofs.YtbnhlpehccohjaaLg
noncomputable section
open Go Go.Lift Go.Proofs.YtbnhlpehccohjaaPx

theorem ztb (N : Nat) (c : Nat) (f : Bool) : z4q N (c : Int) f = some (z12a c f) := by
  simp only [z4q, z5w, zd5, z12a, Bool.cond_eq_ite, decide_eq_true_eq, beq_iff_eq]
  have key : (if (48 : Int) <= c then some (decide ((c : Int) <= 57)) else some false) = some (decide (48 <= c /\ c <= 57)) := by
    split
    . congr 1; rw [Bool.eq_iff_iff, decide_eq_true_eq, decide_eq_true_eq]; omega
    . congr 1; rw [Bool.eq_iff_iff, decide_eq_true_eq]; simp; omega
  rw [key]
  simp only [Option.bind_some, decide_eq_true_eq, Bool.false_eq_true, if_false]
  by_cases h1 : 97 <= c /\ c <= 122
  . rw [if_pos (by omega), if_pos (by omega)]; simp [h1]
  have hx : ∀ X Y : Option Bool, (if (97 : Int) <= c then if (c : Int) <= 122 then Y else X else X) = X := by
    intro X Y
    repeat' split
    all_goals first
      | rfl
      | omega
  rw [hx, decide_eq_false h1, Bool.false_or]
  by_cases h4 : 48 <= c /\ c <= 57
  . rw [if_pos h4, decide_eq_true (p := (48 <= c /\ c <= 57) \/ c = 45) (.inl h4), Bool.true_and]
  . rw [if_neg h4]
    by_cases h5 : c = 45
    . subst h5; simp
    . rw [if_neg (by omega), decide_eq_false (by omega), Bool.false_and]

theorem z117 (i : Nat) : ((((i : Nat) : Int)) == 0) = decide (i = 0) := by
  rw [Bool.eq_iff_iff, beq_iff_eq, decide_eq_true_eq]; omega

theorem zxf (N : Nat) {s : List UInt8} (hN : 40 < N) : z4r N s = some (zvy s) := by
  simp only [z4r, z5z, z5y, zvy]
  by_cases h0 : s = []
  . subst h0; rfl
  have hl : s.length ≠ 0 := fun e => h0 (List.length_eq_zero_iff.1 e)
  rw [z2n (by simpa using h0)]
  by_cases h1 : 32 < s.length
  . rw [z1q (z61 (by omega)), decide_eq_false (by omega)]; rfl
  rw [z2n (z8r (by omega)), decide_eq_true (p := 1 <= s.length /\ s.length <= 32) (by omega), Bool.true_and]
  simp only [zau]
  rw [zqv (I := fun (v : List UInt8 × Nat) => v.1 = s /\ v.2 <= s.length) (m := fun (v : List UInt8 × Nat) => s.length - v.2) (R := fun (v : List UInt8 × Nat) => some (allS z12a (s.drop v.2) (decide (v.2 = 0)))) ?_ N (s, 0) ⟨rfl, Nat.zero_le _⟩ (by dsimp only; omega)]
  . simp
  rintro ⟨s', i⟩ r ⟨rfl, hi⟩ hr
  dsimp only at *
  simp only [z5x, z117]
  by_cases hlt : i < s'.length
  . rw [z1q (z61 hlt), ztb, Option.bind_some, zsw s' 0 i hlt]
    simp only [allS]
    by_cases h128 : (s'.getD i 0).toNat < 128
    . rw [zwd h128]
      dsimp only
      cases hp : z12a (s'.getD i 0).toNat (decide (i = 0)) with
      | false => rfl
      | true =>
        rw [Bool.not_true, cond_false, hr _ ⟨rfl, by dsimp only; omega⟩ (by dsimp only; omega)]
        dsimp only
        rw [decide_eq_false (by omega), Bool.true_and]
    . obtain ⟨g1, _⟩ := zy1 hlt (by omega)
      rw [zrg g1, zrg (by omega)]; rfl
  . rw [z2n (z8r hlt), zsv s' (by omega)]; rfl

theorem z129 (N : Nat) {s : List UInt8} (hN : 40 < N) : z7k N s = some (zvy s) := by
  simp only [z7k, zxf N hN, Option.bind_some]


end
end Go.Proofs.YtbnhlpehccohjaaLg

set_option linter.all false
set_option maxRecDepth 100000
namespace Go.Proofs.YtbnhlpehccohjaaLg
noncomputable section
open Go Go.Lift Go.Proofs.YtbnhlpehccohjaaPx

abbrev CL : Type := List UInt8 × Int × Int × Unit
abbrev AK : Type := List UInt8 × List UInt8 × Int × Unit
abbrev OW : Type := List UInt8 × List UInt8 × Unit
abbrev RT : Type := List CL × Int × Option (List (OW × BK)) × Unit

theorem zvd (N : Nat) (n : Int) : z46 N n = some (decide (zkw n)) := by
  unfold z46 zkw
  by_cases h : 0 <= n
  . rw [z1q (z61 h)]; simp [h]
  . rw [z2n (z8r h)]; simp [h]


def z13n (c : List UInt8) : List CL -> Int -> Int
  | [], _ => -1
  | x :: l, i => if x.1 = c then i else z13n c l (i + 1)

theorem zv9 (N : Nat) (l : List CL) (c : List UInt8) (hN : l.length < N) (hl : l.length < 9223372036854775807) : z70 N l c = some (z13n c l 0) := by
  simp only [z70, zd6, zgp]
  rw [zqv (I := fun (v : Int) => 0 <= v /\ v <= ((l.length : Nat) : Int)) (m := fun (v : Int) => l.length - v.toNat) (R := fun (v : Int) => some (z13n c (l.drop v.toNat) v)) ?_ N 0 ⟨by omega, by omega⟩ (by omega)]
  . simp
  intro v r ⟨h2, h3⟩ hr
  obtain ⟨i, rfl⟩ := Int.eq_ofNat_of_zero_le h2
  simp only [zac, Int.toNat_natCast] at *
  by_cases hlt : i < l.length
  . rw [z1q (z61 (by omega)), z1q (zqy hlt), zsw l (([] : List UInt8), ((0 : Int), ((0 : Int), ()))) i hlt]
    simp only [z13n]
    by_cases hc : (l.getD i (([] : List UInt8), ((0 : Int), ((0 : Int), ())))).1 = c
    . rw [z1q (by rw [hc]; simp), if_pos hc]
    . rw [z2n (by simpa using hc), if_neg hc, zkx (by omega), hr _ ⟨by omega, by omega⟩ (by omega), Int.toNat_natCast]
      rfl
  . rw [z2n (z8r (by omega)), zsv l (by omega)]; rfl

def zzp (l : List CL) (c : List UInt8) : Option CL := l.find? (fun x => decide (x.1 = c))

theorem zmg (c : List UInt8) : ∀ (l : List CL) (i : Int), 0 <= i -> (z13n c l i = -1 /\ zzp l c = none) \/ ∃ k : Nat, z13n c l i = i + k /\ k < l.length /\ zzp l c = some (l.getD k (([] : List UInt8), ((0 : Int), ((0 : Int), ()))))
  | [], _, _ => .inl ⟨rfl, rfl⟩
  | x :: l, i, hi => by
    simp only [z13n, zzp, List.find?_cons]
    by_cases h : x.1 = c
    . rw [if_pos h, decide_eq_true h]
      exact .inr ⟨0, by simp, by simp, by simp⟩
    . rw [if_neg h, decide_eq_false h]
      rcases zmg c l (i + 1) (by omega) with ⟨h1, h2⟩ | ⟨k, h1, h2, h3⟩
      . exact .inl ⟨h1, h2⟩
      . exact .inr ⟨k + 1, by rw [h1]; omega, by simpa using h2, by rw [List.getD_cons_succ]; exact h3⟩


def zvo (l : List CL) (start : Int) (c : List UInt8) : BK × Bool × Unit := match zzp l c with
  | none => ((0, (0, (0, (0, ())))), (false, ()))
  | some x => ((x.2.1, (x.2.2.1, (0, (start, ())))), (true, ()))

theorem zzc (N : Nat) (l : List CL) (start : Int) (t c : List UInt8) (hN : l.length < N) (hl : l.length < 9223372036854775807) : zgs N l start (t, (c, ())) = some (zvo l start c) := by
  unfold zgs z1p
  dsimp only
  rw [zv9 N l c hN hl, Option.bind_some]
  unfold zvo
  rcases zmg c l 0 (by omega) with ⟨h1, h2⟩ | ⟨k, h1, h2, h3⟩
  . rw [h1, h2]; rfl
  . rw [h1, h3]
    have hk : (0 : Int) + (k : Int) = (k : Int) := by omega
    rw [hk, z2n (z8r (by omega)), z1q (zqy h2), Int.toNat_natCast, z1q (z61 h2)]
    rfl


theorem z10v (a b : OW) : eqD OwT a b = decide (a = b) := z13p (t := OwT) rfl

abbrev z113 (xs : List (OW × BK)) (t c : List UInt8) : Option BK := z40 (eqD OwT) (t, (c, ())) xs

theorem zvn (o : OW) (v : BK) (t c : List UInt8) : ∀ xs : List (OW × BK), z113 (znh (eqD OwT) o v xs) t c = if o = (t, (c, ())) then some v else z113 xs t c
  | [] => by
    show z40 (eqD OwT) (t, (c, ())) [(o, v)] = _
    simp only [z40, z10v, z113]
    by_cases h : o = (t, (c, ()))
    . rw [if_pos h, decide_eq_true h.symm]
    . rw [if_neg h, decide_eq_false (fun e => h e.symm)]
  | x :: xs => by
    have ih := zvn o v t c xs
    simp only [z113, znh, z10v] at ih ⊢
    by_cases hx : o = x.1
    . rw [decide_eq_true hx]
      simp only [z40, z10v]
      by_cases h : o = (t, (c, ()))
      . rw [if_pos h, decide_eq_true h.symm]
      . rw [if_neg h, decide_eq_false (fun e => h e.symm), <- hx, decide_eq_false (fun e => h e.symm)]
    . rw [decide_eq_false hx]
      simp only [z40, z10v]
      by_cases h : (t, (c, ())) = x.1
      . rw [decide_eq_true h]
        rw [if_neg (fun e => hx (by rw [e, h]))]
      . rw [decide_eq_false h]
        exact ih


def z11t (l : List CL) (start : Int) (xs : List (OW × BK)) (t c : List UInt8) : BK × Bool × Unit := match z113 xs t c with
  | some b => (b, (true, ()))
  | none => zvo l start c

theorem z10n (N : Nat) (l : List CL) (start : Int) (xs : List (OW × BK)) (t c : List UInt8) (hN : l.length < N) (hl : l.length < 9223372036854775807) : z35 N (l, (start, (some xs, ()))) (t, (c, ())) = some (z11t l start xs t c, (l, (start, (some xs, ())))) := by
  have e : z11t l start xs t c = match z40 (eqD OwT) (t, (c, ())) xs with
    | some b => (b, (true, ()))
    | none => zvo l start c := rfl
  rw [e]
  unfold z35
  dsimp only [Option.getD_some]
  cases h : z40 (eqD OwT) (t, (c, ())) xs with
  | some b => rfl
  | none =>
    dsimp only
    rw [zzc N l start t c hN hl]
    rfl

theorem z10h (N : Nat) (l : List CL) (start : Int) (xs : List (OW × BK)) (t c : List UInt8) {now : Int} (hn : I64 now) (hN : l.length < N) (hl : l.length < 9223372036854775807) :
    z38 N (l, (start, (some xs, ()))) t c now = some (if (z11t l start xs t c).2.1 then ((if (z8l (z11t l start xs t c).1 now).2.1 then 0 else 17), ((l, (start, (some (znh (eqD OwT) (t, (c, ())) (z8l (z11t l start xs t c).1 now).1 xs), ()))), ())) else (6, ((l, (start, (some xs, ()))), ()))) := by
  unfold z38
  dsimp only
  rw [z10n N l start xs t c hN hl, Option.bind_some]
  dsimp only
  cases (z11t l start xs t c).2.1 with
  | true => rw [cond_true, z138 N _ hn]; rfl
  | false => rfl


def chkX (l : List CL) (x : CL) : Int :=
 if zvy x.1 = false then 4
 else if ¬ (zkw x.2.1 /\ zkw x.2.2.1) then 7
 else if (zzp l x.1).isSome then 5 else 0

def zzs (l : List CL) (i : Nat) : Int := chkX (l.take i) (l.getD i (([] : List UInt8), ((0 : Int), ((0 : Int), ()))))

def zt1 (l : List CL) : Nat -> Nat -> Int
  | 0, _ => 0
  | n + 1, i => cond (zzs l i != 0) (zzs l i) (zt1 l n (i + 1))

def chk (l : List CL) : Int := if 8 < l.length then 3 else zt1 l l.length 0

theorem zyc (N : Nat) (l : List CL) (hN : 40 < N) : z9a N l = some (chk l) := by
  simp only [z9a, chk]
  by_cases h8 : 8 < l.length
  . rw [z1q (z61 (by omega)), if_pos h8]
  rw [z2n (z8r (by omega)), if_neg h8]
  simp only [zg3]
  rw [zqv (I := fun (v : Int) => 0 <= v /\ v <= ((l.length : Nat) : Int)) (m := fun (v : Int) => l.length - v.toNat) (R := fun (v : Int) => some (zt1 l (l.length - v.toNat) v.toNat)) ?_ N 0 ⟨by omega, by omega⟩ (by omega)]
  . simp
  intro v r ⟨h2, h3⟩ hr
  obtain ⟨i, rfl⟩ := Int.eq_ofNat_of_zero_le h2
  simp only [za4]
  rw [show some (zt1 l (l.length - Int.toNat (i : Int)) (Int.toNat (i : Int))) = some (zt1 l (l.length - i) i) from by rw [Int.toNat_natCast]]
  rw [Int.toNat_natCast] at hr
  by_cases hlt : i < l.length
  . obtain ⟨n, hn⟩ : ∃ n, l.length - i = n + 1 := ⟨l.length - i - 1, by omega⟩
    rw [z1q (z61 (by omega)), z1q (zqy hlt), z129 N hN, Option.bind_some, hn]
    simp only [zt1, zzs]
    generalize hx : l.getD (Int.toNat (i : Int)) (([] : List UInt8), ((0 : Int), ((0 : Int), ()))) = x
    have hx' : l.getD i (([] : List UInt8), ((0 : Int), ((0 : Int), ()))) = x := by rw [<- hx, Int.toNat_natCast]
    rw [hx', Int.toNat_natCast]
    unfold chkX
    cases hw : zvy x.1 with
    | false => rw [if_pos rfl]; rfl
    | true =>
      rw [if_neg (by simp)]
      simp only [Bool.not_true, cond_false, za5, zvd, Option.bind_some]
      by_cases o1 : zkw x.2.1
      . rw [decide_eq_true o1]
        simp only [Bool.not_true, cond_false]
        by_cases o2 : zkw x.2.2.1
        . rw [decide_eq_true o2]
          simp only [Bool.not_true, cond_false]
          rw [if_neg (fun h => h ⟨o1, o2⟩), z1q (z61 ⟨by omega, by omega⟩), z118, zv9 N (l.take i) x.1 (by rw [List.length_take]; omega) (by rw [List.length_take]; omega), Option.bind_some]
          rcases zmg x.1 (l.take i) 0 (by omega) with ⟨g1, g2⟩ | ⟨k, g1, g2, g3⟩
          . rw [g1, g2, z2n (by decide), zkx (by omega), hr _ ⟨by omega, by omega⟩ (by omega), Int.toNat_natCast]
            rw [show l.length - (i + 1) = n by omega]
            rfl
          . rw [g1, g3, z1q (z61 (by omega))]
            rfl
        . rw [decide_eq_false o2, if_pos (fun h => o2 h.2)]; rfl
      . rw [decide_eq_false o1, if_pos (fun h => o1 h.1)]; rfl
  . rw [z2n (z8r (by omega)), show l.length - i = 0 by omega]; rfl

theorem z13f (N : Nat) (l : List CL) (now : Int) (hN : 40 < N) (hl : l.length <= 1000) : zg2 N l now = some (if chk l ≠ 0 then (none, (chk l, ())) else if zkw now then (some (l, (now, (some [], ()))), (0, ())) else (none, (7, ()))) := by
  simp only [zg2, zyc N l hN, Option.bind_some, zvd]
  by_cases hc : chk l = 0
  . rw [z2n (by rw [hc]; rfl), if_neg (fun h => h hc)]
    by_cases h : zkw now
    . rw [decide_eq_true h, if_pos h]
      simp only [Bool.not_true, cond_false, zf0]
      rw [z1q (z61 (by omega))]
      rfl
    . rw [decide_eq_false h, if_neg h]; rfl
  . rw [z1q (by simpa using hc), if_pos hc]

end
end Go.Proofs.YtbnhlpehccohjaaLg

set_option linter.all false
set_option maxRecDepth 100000
namespace Go.Proofs.YtbnhlpehccohjaaLg
noncomputable section
open Go Go.Lift Go.Proofs.YtbnhlpehccohjaaPx

abbrev zxg : List UInt8 := [(103 : UInt8), (111 : UInt8), (108 : UInt8), (100 : UInt8)]
abbrev TA : List UInt8 := [(97 : UInt8)]
def zew (c : Int × Int × Unit) (start : Int) (xs : List (OW × BK)) : BK := (z113 xs TA zxg).getD (c.1, (c.2.1, (0, (start, ()))))

theorem at_is {b : BK} {now : Int} (h : z4y b) (h1 : b.2.2.2.1 <= now) (h2 : now <= 1099511627776) : (atB b now).2.2.2.1 = now := by
  unfold atB
  by_cases h3 : b.2.2.2.1 < now
  . rw [if_pos ⟨h, h3, h2⟩]
  . rw [if_neg (fun hh => h3 hh.2.1)]; omega

theorem z137 {b : BK} {now : Int} (h : z4y b) (h1 : b.2.2.2.1 <= now) (h2 : now <= 1099511627776) : (z8l b now).1.2.2.2.1 = now /\ (z8l b now).1.1 = b.1 /\ (z8l b now).1.2.1 = b.2.1 := by
  have e := at_is h h1 h2
  obtain ⟨_, e1, e2⟩ := zuj now h
  unfold z8l
  split
  . exact ⟨e, e1, e2⟩
  . exact ⟨e, e1, e2⟩

end
end Go.Proofs.YtbnhlpehccohjaaLg

set_option linter.all false
set_option maxRecDepth 100000
namespace Go.Proofs.YtbnhlpehccohjaaLg
noncomputable section
open Go Go.Lift Go.Proofs.YtbnhlpehccohjaaPx

abbrev zny (c : Int × Int × Unit) : List CL := [(zxg, c)]

theorem zym {c : Int × Int × Unit} (h : chk (zny c) = 0) : zkw c.1 /\ zkw c.2.1 := by
  have h' : zt1 (zny c) 1 0 = 0 := h
  simp only [zt1] at h'
  have h0 : zzs (zny c) 0 = 0 := by
    by_cases hx : zzs (zny c) 0 = 0
    . exact hx
    . rw [z1q (by simpa using hx)] at h'; exact h'
  have h1 : chkX [] ((zxg, c) : CL) = 0 := h0
  unfold chkX at h1
  rw [if_neg (show ¬ zvy zxg = false by decide)] at h1
  by_cases ho : zkw c.1 /\ zkw c.2.1
  . exact ho
  . rw [if_pos ho] at h1; omega

theorem z10y (c : Int × Int × Unit) (start : Int) (xs : List (OW × BK)) : z11t (zny c) start xs TA zxg = (zew c start xs, (true, ())) := by
  unfold z11t zew
  cases z113 xs TA zxg with
  | some b => rfl
  | none => rfl

theorem zuo (k : Nat) : z1s (k + 1000) = some true := by kernel_rfl

theorem z13y (N : Nat) (nm : List UInt8) {c : Int × Int × Unit} {n : Int} (hc : zkw c.1) (hf : zkw c.2.1) (h0 : 0 <= n) (h1 : n <= 1099511627776) : z5r N (nm, c) n = some (zmv (c.1 + zmv (c.2.1 * n))) := by
  obtain ⟨c0, c1⟩ := hc
  obtain ⟨f0, f1⟩ := hf
  simp only [z5r]
  rw [if_neg (by omega), if_neg (by omega), if_neg (by omega), zux N (by unfold I64; omega) (by unfold I64; omega), Option.bind_some, zv3 N (by unfold I64; omega) (zvt _), Option.bind_some]

theorem zn6 (k : Nat) (c : CL) (asked : List AK) (l : List Int) (hl : l.length = 2) (hli : ∀ x ∈ l, I64 x) (ha : ∀ a ∈ asked, I64 a.2.2.1) : z13 (k + 1000) c asked l = some true := by
  obtain ⟨from_, long, rfl⟩ : ∃ x y, l = [x, y] := by
    match l, hl with
    | [x, y], _ => exact ⟨x, y, rfl⟩
  have hfi := hli from_ (by simp)
  have hlo := hli long (by simp)
  obtain ⟨nm, c⟩ := c
  have l0 : decide (0 < 0 + 1 + 1) = true := rfl
  have l1 : decide (1 < 0 + 1 + 1) = true := rfl
  simp only [z13, z26, z25, zuo, Option.bind_some, List.getD_cons_zero, List.getD_cons_succ, List.length_cons, List.length_nil, l0, l1, cond_true]
  rw [z13f (k + 1000) (zny c) 0 (by omega) (by simp), Option.bind_some]
  by_cases hc : chk (zny c) = 0
  . rw [if_neg (fun h => h hc), if_pos ⟨by omega, by omega⟩]
    obtain ⟨oc, of⟩ := zym hc
    dsimp only
    rw [z2n (by rfl)]
    by_cases h1 : 60 < asked.length
    . rw [z1q (z61 (by omega))]
    rw [z2n (z8r (by omega))]
    by_cases h2 : from_ < 0
    . rw [z1q (z61 h2)]
    rw [z2n (z8r h2)]
    by_cases h3 : 1099511627776 < from_
    . rw [z1q (z61 h3)]
    rw [z2n (z8r h3)]
    by_cases h4 : long < 0
    . rw [z1q (z61 h4)]
    rw [z2n (z8r h4)]
    by_cases h5 : 1099511627776 < long
    . rw [z1q (z61 h5)]
    rw [z2n (z8r h5)]
    simp only [Option.isSome_some, cond_true, Option.getD_some, z3j]
    have hstart : Win from_ long (c.1, (c.2.1, (0, (0, ())))) 0 := by
      obtain ⟨c0, c1⟩ := oc
      obtain ⟨f0, f1⟩ := of
      have hp : 0 <= c.2.1 * long := Int.mul_nonneg f0 (by omega)
      refine ⟨⟨⟨c0, c1⟩, ⟨f0, f1⟩, ⟨by dsimp only; omega, by dsimp only; omega⟩, by dsimp only; omega, by dsimp only; omega⟩, by omega, fun _ => rfl, by dsimp only; omega, fun h _ => ?_⟩
      dsimp only at h ⊢
      have hp : 0 <= c.2.1 * (0 - from_) := Int.mul_nonneg f0 (by omega)
      omega
    refine zsh (I := fun (v : RT × Int × Int × Int) => ∃ (xs : List (OW × BK)) (start : Int) (i : Nat), v.1 = (zny c, (start, (some xs, ()))) /\ v.2.2.2 = (i : Int) /\ Win from_ long (zew c start xs) v.2.1 /\ (zew c start xs).1 = c.1 /\ (zew c start xs).2.1 = c.2.1 /\ (zew c start xs).2.2.2.1 <= v.2.2.1 /\ v.2.1 <= i /\ i <= asked.length) (m := fun (v : RT × Int × Int × Int) => asked.length - v.2.2.2.toNat) (p := fun o => o = some true) ?_ (k + 1000) _ ⟨[], 0, 0, rfl, rfl, hstart, rfl, rfl, Int.le_refl _, Int.le_refl _, Nat.zero_le _⟩ (by dsimp only; omega)
    rintro ⟨r0, n, last, i0⟩ r ⟨xs, start, i, hv1, hv2, hw, hw1, hw2, hw3, hni, hil⟩ hrec
    dsimp only at hv1 hv2 hw hw1 hw2 hw3 hni hrec
    subst hv1; subst hv2
    rw [Int.toNat_natCast] at hrec
    simp only [z1y, z24, z21, z20, z1z, zuo, Option.bind_some]
    by_cases hlt : i < asked.length
    . rw [z1q (z61 (by omega))]
      simp only [zqy hlt, cond_true]
      have hi64 := ha _ (z114 asked (([] : List UInt8), (([] : List UInt8), ((0 : Int), ()))) i hlt)
      generalize hx : asked.getD (Int.toNat (i : Int)) (([] : List UInt8), (([] : List UInt8), ((0 : Int), ()))) = a
      have hx' : asked.getD i (([] : List UInt8), (([] : List UInt8), ((0 : Int), ()))) = a := by rw [<- hx, Int.toNat_natCast]
      rw [hx'] at hi64
      by_cases g1 : a.2.2.1 < last
      . rw [z1q (z61 g1)]
      rw [z2n (z8r g1)]
      by_cases g2 : 1099511627776 < a.2.2.1
      . rw [z61 g2, cond_true]
      rw [z8r g2, cond_false]
      have hat := hw.right.2.2.1.1
      have hpos : 0 <= a.2.2.1 := by omega
      rw [z10h (k + 1000) (zny c) start xs TA zxg hi64 (by simp) (by simp), Option.bind_some, zkx (by omega), z10y]
      simp only [if_true]
      have hset : z113 (znh (eqD OwT) (TA, (zxg, ())) (z8l (zew c start xs) a.2.2.1).1 xs) TA zxg = some (z8l (zew c start xs) a.2.2.1).1 := by rw [zvn, if_pos rfl]
      obtain ⟨hw', _⟩ := z107 (by omega) (by omega) hw a.2.2.1
      obtain ⟨t1, t2, t3⟩ := z137 hw.right (now := a.2.2.1) (by omega) (by omega)
      have hgb : zew c start (znh (eqD OwT) (TA, (zxg, ())) (z8l (zew c start xs) a.2.2.1).1 xs) = (z8l (zew c start xs) a.2.2.1).1 := by
        show (z113 (znh (eqD OwT) (TA, (zxg, ())) (z8l (zew c start xs) a.2.2.1).1 xs) TA zxg).getD _ = _
        rw [hset]; rfl
      have fin : ∀ n', Win from_ long (z8l (zew c start xs) a.2.2.1).1 n' -> n' <= ((i + 1 : Nat) : Int) -> r ((zny c, (start, (some (znh (eqD OwT) (TA, (zxg, ())) (z8l (zew c start xs) a.2.2.1).1 xs), ()))), n', a.2.2.1, ((i + 1 : Nat) : Int)) = some true := by
        intro n' hn1 hn2
        refine hrec _ ⟨_, start, i + 1, rfl, rfl, ?_, ?_, ?_, ?_, hn2, by omega⟩ (by dsimp only; omega) <;> (try dsimp only) <;> rw [hgb]
        . exact hn1
        . rw [t2, hw1]
        . rw [t3, hw2]
        . rw [t1]; exact Int.le_refl _
      have hwr : IntKind.wrap .i64 (a.2.2.1 - from_) = a.2.2.1 - from_ := z9m (by unfold I64; omega)
      have hwn : IntKind.wrap .i64 (n + 1) = n + 1 := z9m (by unfold I64; have := hw.pos; omega)
      rw [t1] at hw'
      simp only [List.getD_cons_zero, List.getD_cons_succ, List.length_cons, List.length_nil, l0, l1, cond_true, hwr, hwn]
      cases htk : (z8l (zew c start xs) a.2.2.1).2.1 with
      | false =>
        rw [if_neg (by simp), z2n (by rfl), cond_false]
        rw [htk, if_neg (fun hh => by cases hh.1)] at hw'
        exact fin n hw' (by omega)
      | true =>
        rw [if_pos rfl, z1q (by rfl)]
        rw [htk] at hw'
        by_cases d1 : from_ <= a.2.2.1
        . rw [z1q (z61 d1)]
          by_cases d2 : a.2.2.1 - from_ <= long
          . rw [z61 d2, cond_true]
            rw [if_pos ⟨rfl, by simp only [zx1, decide_eq_true_eq]; exact ⟨d1, d2⟩⟩] at hw'
            exact fin (n + 1) hw' (by omega)
          . rw [z8r d2, cond_false]
            rw [if_neg (fun hh => d2 (by have := hh.2; simp only [zx1, decide_eq_true_eq] at this; exact this.2))] at hw'
            exact fin n hw' (by omega)
        . rw [z2n (z8r d1), cond_false]
          rw [if_neg (fun hh => d1 (by have := hh.2; simp only [zx1, decide_eq_true_eq] at this; exact this.1))] at hw'
          exact fin n hw' (by omega)
    . rw [z2n (z8r (by omega))]
      have hm := hw.most
      have p0 := hw.pos
      rw [hw1, hw2] at hm
      rw [z13y _ _ oc of (by omega) (by omega), Option.bind_some]
      obtain ⟨c0, c1⟩ := oc
      obtain ⟨f0, f1⟩ := of
      have hp : 0 <= c.2.1 * long := Int.mul_nonneg f0 (by omega)
      have hle : n <= zmv (c.1 + zmv (c.2.1 * long)) := by
        generalize c.2.1 * long = q at *
        unfold zmv
        repeat' split
        all_goals omega
      rw [z1q (z61 hle)]
  . rw [if_pos hc]
    dsimp only
    rw [z1q (by simpa using hc)]

end
end Go.Proofs.YtbnhlpehccohjaaLg
