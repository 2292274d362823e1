import Derived.Test.YtbfmhambfonpcaaDoorLgW
import Derived.LaidLaws
import Derived.Test.YtbfmhambfonpcaaDoorLgPrRq1
import Derived.Test.YtbfmhambfonpcaaDoorLgPrRq2
import Derived.KernelRfl
set_option linter.all false
namespace Go.Proofs.YtbfmhambfonpcaaDoorPx
noncomputable section
open Go Go.Lift

theorem znw {α β : Type} {f : α -> Option β} : ∀ {l : List α} {ys : List β}, l.mapM f = some ys -> ys.length = l.length /\ ∀ i, (h : i < l.length) -> ∃ y, ys[i]? = some y /\ f l[i] = some y
  | [], ys, h => by simp at h; subst h; simp
  | a :: l, ys, h => by
    simp only [List.mapM_cons, Option.pure_def, Option.bind_eq_bind, Option.bind_eq_some_iff, Option.some.injEq] at h
    obtain ⟨y, hy, zs, hz, rfl⟩ := h
    obtain ⟨h1, h2⟩ := znw hz
    refine ⟨by simp [h1], fun i hi => ?_⟩
    cases i with
    | zero => exact ⟨y, rfl, hy⟩
    | succ i =>
      obtain ⟨z, e1, e2⟩ := h2 i (by simpa using hi)
      exact ⟨z, by simpa using e1, by simpa using e2⟩

theorem zq1 {H : Type} {enc : TypeId × Value -> H} {P : Program} {w : World} {base : Nat} {sp : Nat -> Bool} {held : Bool} {fuel : Nat} {t : TypeId} {k : IntKind} {c : Value} {y : DataW H × List MemPlace}
    (ht : P.underlying t = some (.int k)) (h : DataW.trod enc P w base sp held fuel t [c] = some y) : ∃ n, c = .int k n /\ y = (.lit (.int k n), []) := by
  cases fuel with
  | zero => simp [DataW.trod] at h
  | succ fuel =>
    cases c <;> simp [DataW.trod, ht] at h
    rename_i k' n
    obtain ⟨⟨rfl, _⟩, rfl⟩ := h
    exact ⟨n, rfl, rfl⟩

theorem zo9 {P : Program} {w : World} {base : Nat} {sp : Nat -> Bool} {held : Bool} {fuel : Nat} {t e : TypeId} {k : IntKind} {n : Nat} {cs : List Value} {ns : List Int} {p : List MemPlace}
    (ht : P.underlying t = some (.array n e)) (he : P.underlying e = some (.int k)) (hc : P.cellsOf e = 1) (hct : P.cellsOf t = n)
    (h : DataW.trod (fun _ => ()) P w base sp held fuel t cs = some (.agg (ns.map fun i => .lit (.int k i)), p)) : cs = ns.map (fun i => .int k i) /\ ns.length = n := by
  cases fuel with
  | zero => simp [DataW.trod] at h
  | succ fuel =>
    simp only [DataW.trod, ht, hc, hct] at h
    split at h
    . rename_i hl
      simp only [Option.map_eq_some_iff] at h
      obtain ⟨xs, hm, hx⟩ := h
      obtain ⟨h1, h2⟩ := znw hm
      simp only [Prod.mk.injEq, DataW.agg.injEq] at hx
      have hlen : ns.length = n := by
        have := congrArg List.length hx.1
        simp only [List.length_map, List.length_range] at this h1
        omega
      refine ⟨List.ext_getElem? fun i => ?_, hlen⟩
      by_cases hi : i < n
      . obtain ⟨y, e1, e2⟩ := h2 i (by simpa using hi)
        have hci : (cs.drop (i * 1)).take 1 = [cs[i]'(by omega)] := by
          rw [Nat.mul_one, List.drop_eq_getElem_cons (by omega : i < cs.length)]; rfl
        simp only [List.getElem_range] at e2
        rw [hci] at e2
        obtain ⟨m, hm1, hm2⟩ := zq1 he e2
        have hy : (xs.map (·.1))[i]? = some (.lit (.int k m)) := by rw [List.getElem?_map, e1, hm2]; rfl
        rw [hx.1, List.getElem?_map] at hy
        have hn : ns[i]? = some (ns[i]'(by omega)) := List.getElem?_eq_getElem (by omega)
        rw [hn] at hy
        simp only [Option.map_some, Option.some.injEq, DataW.lit.injEq, Lit.int.injEq, true_and] at hy
        rw [List.getElem?_eq_getElem (by omega : i < cs.length), hm1, List.getElem?_map, hn, Option.map_some, hy]
      . rw [List.getElem?_eq_none (by omega), List.getElem?_eq_none (by rw [List.length_map]; omega)]
    . cases h

theorem zgr (S : Hp) (k : IntKind) : ∀ ns : List Int, All (Rd S (.int k)) ns (ns.map fun i => .int k i)
  | [] => rfl
  | x :: r => ⟨[.int k x], _, rfl, rfl, zgr S k r⟩

theorem zw2 {P : Program} {W : World} {name : String} {g : Nat} {t e : TypeId} {k : IntKind} {n : Nat} {ns : List Int} {r : List (String × DataW Unit)} {ps : List MemPlace}
    (hg : P.globalNamed name = some g) (hty : (P.globals[g]?).map (·.type) = some t) (ht : P.underlying t = some (.array n e)) (he : P.underlying e = some (.int k)) (hc : P.cellsOf e = 1) (hct : P.cellsOf t = n)
    (h : DataW.LaidVars P W ((name, .agg (ns.map fun i => .lit (.int k i))) :: r) ps) :
    VR (hp W) (.ptr (.arr n (.int k))) ns (.pointer (some ⟨g, 0, none⟩)) /\ ∃ q, DataW.LaidVars P W r q := by
  obtain ⟨g', t', cs, fuel, p, q, e1, e2, e3, e4, e5, _⟩ := h
  obtain rfl := Option.some.inj (hg.symm.trans e1)
  obtain rfl := Option.some.inj (hty.symm.trans e2)
  obtain ⟨h1, h2⟩ := zo9 ht he hc hct e4
  refine ⟨?_, q, e5⟩
  simp only [World.var?, hg, Option.bind_some] at e3
  split at e3
  . rename_i cs' t2 fr hh
    simp only [Option.some.injEq] at e3
    subst e3
    refine VR.of_one rfl ⟨g, 0, cs'.toList, rfl, ⟨cs', t2, fr, [], [], hh, by simp, rfl⟩, ?_⟩
    rw [h1]
    exact ⟨h2, zgr _ _ _⟩
  . cases e3

end
end Go.Proofs.YtbfmhambfonpcaaDoorPx

set_option linter.all false
namespace Go.Proofs.YtbfmhambfonpcaaDoorPx
noncomputable section
open Go Go.Lift

theorem z108 (x : Int) : IntKind.wrap .u8 x = x % 256 := by
  simp only [IntKind.wrap, IntKind.bits, IntKind.signed, Bool.false_and, Bool.false_eq_true, if_false]
  rfl

theorem zkq {x : Int} (h0 : 0 <= x) (h1 : x < 256) : IntKind.wrap .u8 x = x := by rw [z108]; omega

theorem z10c (u : UInt8) : u.toNat < 256 := u.toNat_lt

theorem zn4 {i : Nat} (h : i < 9223372036854775807) : IntKind.wrap .i64 ((i : Int) + 1) = ((i + 1 : Nat) : Int) := by
  rw [z8s (by unfold I64; omega)]; omega

theorem zmq {α : Type} (l : List α) (d : α) (i : Nat) (h : i < l.length) : l.getD i d ∈ l := by
  rw [List.getD_eq_getElem?_getD, List.getElem?_eq_getElem h]; simp

theorem zwe {α : Type} (l : List α) (d : α) (i : Nat) (h : i < l.length) : l.drop i = l.getD i d :: l.drop (i + 1) := by
  rw [List.getD_eq_getElem?_getD, List.getElem?_eq_getElem h, Option.getD_some, List.drop_eq_getElem_cons h]

theorem zwd {α : Type} (l : List α) {i : Nat} (h : l.length <= i) : l.drop i = [] := List.drop_of_length_le h

end
end Go.Proofs.YtbfmhambfonpcaaDoorPx

set_option linter.all false
namespace Go.Proofs.YtbfmhambfonpcaaDoorPx
noncomputable section
open Go Go.Lift

def U64 (x : Int) : Prop := 0 <= x /\ x < 18446744073709551616

instance (x : Int) : Decidable (U64 x) := by unfold U64; infer_instance

def bit (w : Int) (i : Nat) : Bool := w.toNat.testBit i

theorem zlz (x : Int) : IntKind.wrap .u64 x = x % 18446744073709551616 := rfl

theorem zra (x : Int) : U64 (IntKind.wrap .u64 x) := by rw [zlz]; unfold U64; omega

theorem zf6 {x : Int} (h : U64 x) : IntKind.wrap .u64 x = x := by rw [zlz]; unfold U64 at h; omega

theorem zmf {x : Int} (h : U64 x) : (BitVec.ofInt 64 x).toNat = x.toNat := by
  unfold U64 at h
  rw [BitVec.toNat_ofInt]
  omega

theorem zzt (v : BitVec 64) : U64 ((v.toNat : Nat) : Int) := by
  have := v.isLt
  unfold U64; omega

theorem z131 {x y : Int} (hx : U64 x) (hy : U64 y) : bitsOp .and .u64 x y = ((x.toNat &&& y.toNat : Nat) : Int) := by
  have e : bitsOp .and .u64 x y = IntKind.wrap .u64 ((BitVec.ofInt 64 x &&& BitVec.ofInt 64 y).toNat : Int) := rfl
  rw [e, zf6 (zzt _), BitVec.toNat_and, zmf hx, zmf hy]

theorem z14d {x y : Int} (hx : U64 x) (hy : U64 y) : bitsOp .or .u64 x y = ((x.toNat ||| y.toNat : Nat) : Int) := by
  have e : bitsOp .or .u64 x y = IntKind.wrap .u64 ((BitVec.ofInt 64 x ||| BitVec.ofInt 64 y).toNat : Int) := rfl
  rw [e, zf6 (zzt _), BitVec.toNat_or, zmf hx, zmf hy]

theorem zz0 {x y : Int} (hx : U64 x) (hy : U64 y) : U64 (bitsOp .or .u64 x y) := by
  have e : bitsOp .or .u64 x y = IntKind.wrap .u64 ((BitVec.ofInt 64 x ||| BitVec.ofInt 64 y).toNat : Int) := rfl
  rw [e]; exact zra _
theorem z10d {x y : Int} (hx : U64 x) (hy : U64 y) : U64 (bitsOp .xor .u64 x y) := by
  have e : bitsOp .xor .u64 x y = IntKind.wrap .u64 ((BitVec.ofInt 64 x ^^^ BitVec.ofInt 64 y).toNat : Int) := rfl
  rw [e]; exact zra _

theorem z1az {x y : Int} (hx : U64 x) (hy : U64 y) (i : Nat) : bit (bitsOp .or .u64 x y) i = (bit x i || bit y i) := by
  rw [z14d hx hy]; simp only [bit, Int.toNat_natCast, Nat.testBit_or]
theorem z10e : U64 18446744073709551615 := by unfold U64; omega
theorem zp9 {n : Nat} (hn : n < 64) : U64 ((2 ^ n : Nat) : Int) := by
  have hp : 2 ^ n < 2 ^ 64 := Nat.pow_lt_pow_right (by omega) hn
  have e : (2 : Nat) ^ 64 = 18446744073709551616 := rfl
  rw [e] at hp
  generalize 2 ^ n = q at hp
  unfold U64; omega

theorem shl1 {n : Nat} (hn : n < 64) : shlI .u64 1 (n : Int) = ((2 ^ n : Nat) : Int) := by
  have e : shlI .u64 1 (n : Int) = IntKind.wrap .u64 (1 * 2 ^ (min (n : Int).toNat 64)) := rfl
  have hp : 2 ^ n < 2 ^ 64 := Nat.pow_lt_pow_right (by omega) hn
  rw [e, Int.toNat_natCast, Nat.min_eq_left (by omega), Int.one_mul]
  have e2 : ((2 : Int) ^ n) = ((2 ^ n : Nat) : Int) := by rw [Int.natCast_pow]; rfl
  rw [e2, zf6 (zp9 hn)]

theorem z12z (n i : Nat) : bit ((2 ^ n : Nat) : Int) i = decide (n = i) := by
  simp only [bit, Int.toNat_natCast, Nat.testBit_two_pow]

theorem z12y {x : Int} (hx : U64 x) {n : Nat} (hn : n < 64) (i : Nat) : bit (bitsOp .or .u64 x (shlI .u64 1 (n : Int))) i = (bit x i || decide (n = i)) := by
  rw [shl1 hn, z1az hx (zp9 hn), z12z]

def SetOk (s : List Int) : Prop := ∃ a b c d, s = [a, b, c, d] /\ U64 a /\ U64 b /\ U64 c /\ U64 d

def zq2 (s : List Int) (b : Nat) : Bool := bit (s.getD (b / 64) 0) (b % 64)

theorem SetOk.length {s : List Int} (h : SetOk s) : s.length = 4 := by
  obtain ⟨a, b, c, d, rfl, _⟩ := h; rfl

theorem SetOk.word {s : List Int} (h : SetOk s) {i : Nat} (hi : i < 4) : U64 (s.getD i 0) := by
  obtain ⟨a, b, c, d, rfl, ha, hb, hc, hd⟩ := h
  match i, hi with
  | 0, _ => exact ha
  | 1, _ => exact hb
  | 2, _ => exact hc
  | 3, _ => exact hd

theorem SetOk.set {s : List Int} (h : SetOk s) {i : Nat} (hi : i < 4) {x : Int} (hx : U64 x) : SetOk (s.set i x) := by
  obtain ⟨a, b, c, d, rfl, ha, hb, hc, hd⟩ := h
  match i, hi with
  | 0, _ => exact ⟨x, b, c, d, rfl, hx, hb, hc, hd⟩
  | 1, _ => exact ⟨a, x, c, d, rfl, ha, hx, hc, hd⟩
  | 2, _ => exact ⟨a, b, x, d, rfl, ha, hb, hx, hd⟩
  | 3, _ => exact ⟨a, b, c, x, rfl, ha, hb, hc, hx⟩

def zipS (f : Int -> Int -> Int) (s t : List Int) : List Int := List.zipWith f s t

theorem SetOk.zip {s t : List Int} (f : Int -> Int -> Int) (hf : ∀ x y, U64 x -> U64 y -> U64 (f x y)) (hs : SetOk s) (ht : SetOk t) : SetOk (zipS f s t) := by
  obtain ⟨a, b, c, d, rfl, ha, hb, hc, hd⟩ := hs
  obtain ⟨a', b', c', d', rfl, ha', hb', hc', hd'⟩ := ht
  exact ⟨_, _, _, _, rfl, hf _ _ ha ha', hf _ _ hb hb', hf _ _ hc hc', hf _ _ hd hd'⟩

theorem SetOk.map {s : List Int} (f : Int -> Int) (hf : ∀ x, U64 x -> U64 (f x)) (hs : SetOk s) : SetOk (s.map f) := by
  obtain ⟨a, b, c, d, rfl, ha, hb, hc, hd⟩ := hs
  exact ⟨_, _, _, _, rfl, hf _ ha, hf _ hb, hf _ hc, hf _ hd⟩

def orS := zipS (bitsOp .or .u64)
def z16e (s : List Int) : List Int := s.map (bitsOp .xor .u64 18446744073709551615)

theorem z10z {s t : List Int} (hs : SetOk s) (ht : SetOk t) : SetOk (orS s t) := SetOk.zip _ (fun _ _ => zz0) hs ht
theorem z16c {s : List Int} (hs : SetOk s) : SetOk (z16e s) := SetOk.map _ (fun _ h => z10d z10e h) hs

def zss (s : List Int) (b : Nat) : List Int := s.set (b / 64) (bitsOp .or .u64 (s.getD (b / 64) 0) (shlI .u64 1 ((b % 64 : Nat) : Int)))

theorem zio {s : List Int} (hs : SetOk s) {b : Nat} (hb : b < 256) : SetOk (zss s b) := by
  have hi : b / 64 < 4 := by omega
  exact hs.set hi (zz0 (hs.word hi) (by rw [shl1 (by omega)]; exact zp9 (by omega)))

theorem zy2 {s : List Int} (hs : SetOk s) {b c : Nat} (hb : b < 256) (hc : c < 256) : zq2 (zss s b) c = (zq2 s c || decide (b = c)) := by
  have hi : b / 64 < 4 := by omega
  have hl := hs.length
  unfold zq2 zss
  by_cases h : b / 64 = c / 64
  . rw [h]
    have e : (s.set (c / 64) (bitsOp .or .u64 (s.getD (c / 64) 0) (shlI .u64 1 ((b % 64 : Nat) : Int)))).getD (c / 64) 0 = bitsOp .or .u64 (s.getD (c / 64) 0) (shlI .u64 1 ((b % 64 : Nat) : Int)) := by
      rw [List.getD_eq_getElem?_getD, List.getElem?_set_self (by omega)]; rfl
    rw [e, z12y (hs.word (by omega)) (by omega)]
    congr 1
    exact decide_eq_decide.2 (by omega)
  . have e : (s.set (b / 64) (bitsOp .or .u64 (s.getD (b / 64) 0) (shlI .u64 1 ((b % 64 : Nat) : Int)))).getD (c / 64) 0 = s.getD (c / 64) 0 := by
      rw [List.getD_eq_getElem?_getD, List.getElem?_set_ne h, <- List.getD_eq_getElem?_getD]
    rw [e, decide_eq_false (by omega), Bool.or_false]

theorem zao : SetOk [0, 0, 0, 0] := ⟨0, 0, 0, 0, rfl, by decide, by decide, by decide, by decide⟩
theorem zs8 (b : Nat) : zq2 [0, 0, 0, 0] b = false := by
  have e : ([0, 0, 0, 0] : List Int).getD (b / 64) 0 = 0 := by
    rw [List.getD_eq_getElem?_getD]
    match b / 64 with
    | 0 => rfl
    | 1 => rfl
    | 2 => rfl
    | 3 => rfl
    | n + 4 => rfl
  rw [zq2, e, bit]; exact Nat.zero_testBit _

end
end Go.Proofs.YtbfmhambfonpcaaDoorPx

set_option linter.all false
namespace Go.Proofs.YtbfmhambfonpcaaDoorPx
noncomputable section
open Go Go.Lift

def zxv (k : Nat) : Nat -> Nat
  | 0 => 0
  | n + 1 => (2 ^ k - 1) + 2 ^ (2 * k) * zxv k n

end
end Go.Proofs.YtbfmhambfonpcaaDoorPx

set_option linter.all false
namespace Go.Proofs.YtbfmhambfonpcaaDoorPx
noncomputable section
open Go Go.Lift

theorem m1 : (6148914691236517205 : Nat) = zxv 1 32 := by decide
theorem m2 : (3689348814741910323 : Nat) = zxv 2 16 := by decide
theorem m3 : (1085102592571150095 : Nat) = zxv 4 8 := by decide

end
end Go.Proofs.YtbfmhambfonpcaaDoorPx

set_option linter.all false
namespace Go.Proofs.YtbfmhambfonpcaaDoorPx
noncomputable section
open Go Go.Lift

def z147 (l : List UInt8) (s : List Int) : List Int := l.foldl (fun s u => zss s u.toNat) s

theorem zz8 : ∀ (l : List UInt8) {s : List Int}, SetOk s -> SetOk (z147 l s)
  | [], _, h => h
  | u :: l, _, h => zz8 l (zio h (z10c u))

def zhx (s : List Int) : Nat -> Nat -> Int
  | 0, _ => -1
  | n + 1, b => if zq2 s b = true then (b : Int) else zhx s n (b + 1)

theorem zmm {s : List Int} {c : Nat} (hc : zq2 s c = true) : ∀ n b, b <= c -> c < b + n -> (∀ i, b <= i -> i < c -> zq2 s i = false) -> zhx s n b = (c : Int)
  | 0, b, h1, h2, _ => by omega
  | n + 1, b, h1, h2, h => by
    rw [zhx]
    by_cases e : b = c
    . subst e
      rw [if_pos hc]
    . have hb := h b (Nat.le_refl _) (by omega)
      rw [if_neg (by rw [hb]; decide)]
      exact zmm hc n (b + 1) (by omega) (by omega) (fun i h3 h4 => h i (by omega) h4)

theorem zlg {s : List Int} (h : ∀ i, zq2 s i = false) : ∀ n b, zhx s n b = -1
  | 0, _ => rfl
  | n + 1, b => by
    rw [zhx, if_neg (by rw [h b]; decide), zlg h n (b + 1)]

theorem zxx : ∀ x : Nat, x ≠ 0 -> ∃ t q, x = 2 ^ t * (2 * q + 1) := by
  intro x
  induction x using Nat.strongRecOn with
  | _ x ih =>
    intro h
    by_cases e : x % 2 = 1
    . exact ⟨0, x / 2, by rw [Nat.pow_zero]; omega⟩
    . obtain ⟨t, q, h1⟩ := ih (x / 2) (by omega) (by omega)
      refine ⟨t + 1, q, ?_⟩
      rw [Nat.pow_succ, Nat.mul_comm (2 ^ t) 2, Nat.mul_assoc, <- h1]
      omega

theorem zvk (t q i : Nat) : (2 ^ t * (2 * q + 1)).testBit i = if i < t then false else if i = t then true else q.testBit (i - t - 1) := by
  have e : 2 ^ t * (2 * q + 1) = 2 ^ t * (2 * q + 1) + 0 := rfl
  rw [e, Nat.testBit_two_pow_mul_add _ (Nat.two_pow_pos t)]
  split
  . exact Nat.zero_testBit i
  . rename_i h
    split
    . rename_i h2
      subst h2
      rw [Nat.sub_self, Nat.testBit_zero]
      exact decide_eq_true (by omega)
    . rename_i h2
      obtain ⟨j, hj⟩ : ∃ j, i - t = j + 1 := ⟨i - t - 1, by omega⟩
      rw [hj, Nat.testBit_succ]
      congr 1
      omega

theorem z115 {t q : Nat} (h : 2 ^ t * (2 * q + 1) < 2 ^ 64) : (2 ^ t * (2 * q + 1)) &&& (2 ^ 64 - 2 ^ t * (2 * q + 1)) = 2 ^ t := by
  have hp := Nat.two_pow_pos t
  have ht : t < 64 := by
    have : 2 ^ t * 1 <= 2 ^ t * (2 * q + 1) := Nat.mul_le_mul_left _ (by omega)
    exact (Nat.pow_lt_pow_iff_right (a := 2) (by omega)).1 (by omega)
  have e : 2 ^ t * (2 * q + 1) = (2 ^ t * (2 * q) + (2 ^ t - 1)) + 1 := by
    rw [Nat.mul_add, Nat.mul_one]; omega
  have hlt : 2 ^ t * (2 * q) + (2 ^ t - 1) < 2 ^ 64 := by omega
  apply Nat.eq_of_testBit_eq
  intro i
  have hb := zvk t q i
  rw [Nat.testBit_and, Nat.testBit_two_pow]
  have hs : (2 ^ 64 - 2 ^ t * (2 * q + 1)).testBit i = (decide (i < 64) && !(2 ^ t * (2 * q) + (2 ^ t - 1)).testBit i) := by
    rw [e, Nat.testBit_two_pow_sub_succ hlt]
  rw [hs, hb, Nat.testBit_two_pow_mul_add _ (by omega)]
  by_cases h1 : i < t
  . rw [if_pos h1, if_pos h1, Bool.false_and]
    exact (decide_eq_false (by omega)).symm
  . rw [if_neg h1, if_neg h1]
    by_cases h2 : i = t
    . subst h2
      rw [if_pos rfl, Nat.sub_self, Nat.testBit_zero, decide_eq_true ht, decide_eq_false (by omega)]
      exact (decide_eq_true rfl).symm
    . obtain ⟨j, hj⟩ : ∃ j, i - t = j + 1 := ⟨i - t - 1, by omega⟩
      have ej : i - t - 1 = j := by omega
      have eq2 : 2 * q / 2 = q := by omega
      rw [if_neg h2, hj, Nat.testBit_succ, eq2, Nat.add_sub_cancel, decide_eq_false (p := t = i) (by omega)]
      cases q.testBit j <;> cases decide (i < 64) <;> rfl

end
end Go.Proofs.YtbfmhambfonpcaaDoorPx

set_option linter.all false
set_option maxRecDepth 100000
namespace Go.Proofs.YtbfmhambfonpcaaDoorLg
noncomputable section
open Go Go.Lift Go.Proofs.YtbfmhambfonpcaaDoorPx

theorem or4 (N : Nat) (a b c d e f g h : Int) : z92 (N + 5) [a, b, c, d] [e, f, g, h] = some (orS [a, b, c, d] [e, f, g, h]) := by kernel_rfl

theorem not4 (N : Nat) (a b c d : Int) : z84 (N + 5) [a, b, c, d] = some (z16e [a, b, c, d]) := by kernel_rfl

theorem or_eq (N : Nat) {s t : List Int} (hs : SetOk s) (ht : SetOk t) : z92 (N + 5) s t = some (orS s t) := by
  obtain ⟨a, b, c, d, rfl, _⟩ := hs
  obtain ⟨e, f, g, h, rfl, _⟩ := ht
  exact or4 ..

theorem z16d (N : Nat) {s : List Int} (hs : SetOk s) : z84 (N + 5) s = some (z16e s) := by
  obtain ⟨a, b, c, d, rfl, _⟩ := hs
  exact not4 ..

theorem div64 {b : Nat} (hb : b < 256) : Go.IntKind.wrap .u8 (Int.tdiv (b : Int) (64 : Int)) = ((b / 64 : Nat) : Int) := by
  rw [Int.tdiv_eq_ediv_of_nonneg (by omega), zkq (by omega) (by omega)]
  omega

theorem mod64 (b : Nat) : Int.tmod (b : Int) (64 : Int) = ((b % 64 : Nat) : Int) := by
  rw [Int.tmod_eq_emod_of_nonneg (by omega)]
  omega

theorem zu5 (N : Nat) {s : List Int} (hs : SetOk s) {b : Nat} (hb : b < 256) : z8g N s (b : Int) = some (zss s b) := by
  have hi : b / 64 < 4 := by omega
  rw [z8g, div64 hb, mod64, Int.toNat_natCast, z4k (zbf hi), z4k (decide_eq_true (by rw [hs.length]; exact hi)), z4k (decide_eq_true (by omega)),
    z4k (zbf hi), z4k (decide_eq_true (by rw [hs.length]; exact hi))]
  rfl

def ofS : Nat -> Nat -> List Int -> List Int
  | 0, _, s => s
  | n + 1, b, s => ofS n (b + 1) (zss s b)

theorem zv6 : ∀ (n b : Nat) {s : List Int}, SetOk s -> b + n <= 256 -> SetOk (ofS n b s)
  | 0, _, _, hs, _ => hs
  | n + 1, b, _, hs, h => zv6 n (b + 1) (zio hs (by omega)) (by omega)

theorem zzk : ∀ (n b : Nat) {s : List Int}, SetOk s -> b + n <= 256 -> ∀ {c : Nat}, c < 256 -> zq2 (ofS n b s) c = (zq2 s c || decide (b <= c /\ c < b + n))
  | 0, b, s, hs, _, c, _ => by
    have : decide (b <= c /\ c < b + 0) = false := decide_eq_false (by omega)
    rw [this, Bool.or_false]; rfl
  | n + 1, b, s, hs, h, c, hc => by
    rw [ofS, zzk n (b + 1) (zio hs (by omega)) (by omega) hc, zy2 hs (by omega) hc, Bool.or_assoc]
    congr 1
    rw [<- Bool.decide_or]
    exact decide_eq_decide.2 (by omega)

theorem zxq (N : Nat) {lo hi : Nat} (hl : lo < 256) (hh : hi < 256) (hN : 257 < N) :
    z2a N (lo : Int) (hi : Int) = some (ofS (hi + 1 - lo) lo [0, 0, 0, 0]) := by
  have wl : Go.IntKind.wrap .i64 (lo : Int) = (lo : Int) := z8s (by unfold I64; omega)
  have wh : Go.IntKind.wrap .i64 (hi : Int) = (hi : Int) := z8s (by unfold I64; omega)
  rw [z2a, zgk, wl]
  let R : List Int × Int -> Option (List Int) := fun v => some (ofS (hi + 1 - v.2.toNat) v.2.toNat v.1)
  have h := zhd (step := fun (v : ((List Int) × Int)) r => za0 N (hi : Int) [(0 : Int), (0 : Int), (0 : Int), (0 : Int)] v.1 v.2 (fun s b => (r (s, b))) (fun s => some s))
    (I := fun v => SetOk v.1 /\ 0 <= v.2 /\ v.2 <= 256) (m := fun v => 256 - v.2.toNat) (R := R)
    (by
      rintro ⟨s, b⟩ r ⟨hs, h0, h1⟩ hr
      obtain ⟨b, rfl⟩ := Int.eq_ofNat_of_zero_le h0
      simp only at hs h0 h1 ⊢
      rw [za0, wh]
      by_cases hb : b <= hi
      . have wb : Go.IntKind.wrap .u8 (b : Int) = (b : Int) := zkq (by omega) (by omega)
        have wb1 : Go.IntKind.wrap .i64 ((b : Int) + 1) = ((b + 1 : Nat) : Int) := zn4 (by omega)
        rw [z4k (decide_eq_true (by omega)), wb, zu5 N hs (by omega)]
        simp only [Option.bind_some]
        rw [wb1, hr _ ⟨zio hs (by omega), by simp only; omega, by simp only; omega⟩ (by simp only [Int.toNat_natCast]; omega)]
        simp only [R, Int.toNat_natCast]
        have e : hi + 1 - b = (hi + 1 - (b + 1)) + 1 := by omega
        rw [e, ofS]
      . rw [z9r (decide_eq_false (by omega))]
        simp only [R, Int.toNat_natCast]
        have e : hi + 1 - b = 0 := by omega
        rw [e, ofS]) N ([(0 : Int), (0 : Int), (0 : Int), (0 : Int)], (lo : Int)) ⟨zao, by simp only; omega, by simp only; omega⟩ (by simp only [Int.toNat_natCast]; omega)
  rw [h]
  simp only [R, Int.toNat_natCast]

theorem zx8 (N : Nat) (l : List UInt8) (hl : l.length < 9223372036854775807) (hN : l.length < N) : z6t N l = some (z147 l [0, 0, 0, 0]) := by
  rw [z6t, zd4]
  let R : List Int × Int -> Option (List Int) := fun v => some (z147 (l.drop v.2.toNat) v.1)
  have h := zhd (step := fun (v : ((List Int) × Int)) r => z7r N l [(0 : Int), (0 : Int), (0 : Int), (0 : Int)] ((l.length : Nat) : Int) v.1 v.2 (fun set_ x7 => (r (set_, x7))) (fun set_ => some set_))
    (I := fun v => SetOk v.1 /\ 0 <= v.2 /\ v.2 <= l.length) (m := fun v => l.length - v.2.toNat) (R := R)
    (by
      rintro ⟨s, i⟩ r ⟨hs, h0, h1⟩ hr
      simp only at hs h0 h1
      obtain ⟨i, rfl⟩ := Int.eq_ofNat_of_zero_le h0
      simp only
      rw [z7r]
      by_cases hi : i < l.length
      . have wi : Go.IntKind.wrap .i64 ((i : Int) + 1) = ((i + 1 : Nat) : Int) := zn4 (by omega)
        rw [z4k (decide_eq_true (by omega)), z4k (zbf hi), Int.toNat_natCast, zu5 N hs (z10c _), wi]
        simp only [Option.bind_some]
        rw [hr _ ⟨zio hs (z10c _), by simp only; omega, by simp only; omega⟩ (by simp only [Int.toNat_natCast]; omega)]
        simp only [R, Int.toNat_natCast]
        rw [zwe l 0 i hi]
        rfl
      . rw [z9r (decide_eq_false (by omega))]
        simp only [R, Int.toNat_natCast]
        rw [zwd l (by omega)]
        rfl) N ([0, 0, 0, 0], (0 : Int)) ⟨zao, Int.le_refl _, by simp only; omega⟩ (by simp only [Int.toNat_zero]; omega)
  exact h

def zn8 (t : Nat) : Int := z139 .u64 (Go.IntKind.wrap .u64 ((285870213051353865 : Int) * ((2 ^ t : Nat) : Int))) 58

theorem zu7 : ((List.range 64).all fun t => inR (zn8 t) 64 && (Go.IntKind.wrap .i64 (List.getD glob1 (Int.toNat (zn8 t)) (0 : Int)) == (t : Int))) = true := by kernel_rfl

theorem zxa {t : Nat} (h : t < 64) : inR (zn8 t) 64 = true /\ Go.IntKind.wrap .i64 (List.getD glob1 (Int.toNat (zn8 t)) (0 : Int)) = (t : Int) := by
  have := List.all_eq_true.1 zu7 t (List.mem_range.2 h)
  rw [Bool.and_eq_true, beq_iff_eq] at this
  exact this

theorem tz_eq (N : Nat) {x : Int} (h : U64 x) {t q : Nat} (e : x.toNat = 2 ^ t * (2 * q + 1)) (ht : t < 64) : z1o N x = some (t : Int) := by
  have hp := Nat.two_pow_pos t
  have hpos : 0 < x.toNat := by
    rw [e]; exact Nat.mul_pos hp (by omega)
  have h1 := h.2
  have hz : (x == (0 : Int)) = false := by
    rw [beq_eq_false_iff_ne]; omega
  have hn : Go.IntKind.wrap .u64 ((0 : Int) - x) = ((2 ^ 64 - x.toNat : Nat) : Int) := by
    rw [zlz, show (2 : Nat) ^ 64 = 18446744073709551616 from rfl]; omega
  have hu : U64 ((2 ^ 64 - x.toNat : Nat) : Int) := by
    rw [show (2 : Nat) ^ 64 = 18446744073709551616 from rfl]; unfold U64; omega
  have ha : bitsOp .and .u64 x (Go.IntKind.wrap .u64 ((0 : Int) - x)) = ((2 ^ t : Nat) : Int) := by
    have hlt : 2 ^ t * (2 * q + 1) < 2 ^ 64 := by rw [<- e, show (2 : Nat) ^ 64 = 18446744073709551616 from rfl]; omega
    rw [hn, z131 h hu, Int.toNat_natCast, e, z115 hlt]
  obtain ⟨t1, t2⟩ := zxa ht
  rw [z1o, z9r hz, ha]
  rw [show z139 .u64 (Go.IntKind.wrap .u64 ((285870213051353865 : Int) * ((2 ^ t : Nat) : Int))) 58 = zn8 t from rfl, z4k t1, t2]

theorem z1aq (N : Nat) (a b c d : Int) (k0 : Int -> Option Int) : zd7 (N + 5) [a, b, c, d] 0 k0 =
    cond (a == 0) (cond (b == 0) (cond (c == 0) (cond (d == 0) none (k0 3)) (k0 2)) (k0 1)) (k0 0) := by kernel_rfl

theorem zim (N : Nat) {s : List Int} (hs : SetOk s) {w : Nat} (hw : w < 4) (hz : ∀ v, v < w -> s.getD v 0 = 0) (hx : s.getD w 0 ≠ 0) :
    (cond (inR (w : Int) 4)
      (cond (decide ((Int.toNat (w : Int)) < (List.length s)))
        ((z1o N (List.getD s (Int.toNat (w : Int)) (0 : Int))).bind fun y =>
          some (Go.IntKind.wrap .i64 ((Go.IntKind.wrap .i64 ((w : Int) * (64 : Int))) + y)))
        (none))
      (none)) = some (zhx s 256 0) := by
  have hu := hs.word hw
  have h0 := hu.1
  have h1 := hu.2
  obtain ⟨t, q, e⟩ := zxx (s.getD w 0).toNat (by omega)
  have ht : t < 64 := by
    have : 2 ^ t * 1 <= 2 ^ t * (2 * q + 1) := Nat.mul_le_mul_left _ (by omega)
    refine (Nat.pow_lt_pow_iff_right (a := 2) (by omega)).1 ?_
    rw [show (2 : Nat) ^ 64 = 18446744073709551616 from rfl]
    omega
  have hb (i : Nat) : bit (s.getD w 0) i = if i < t then false else if i = t then true else q.testBit (i - t - 1) := by
    unfold bit
    rw [e, zvk]
  have hc : zq2 s (64 * w + t) = true := by
    unfold zq2
    rw [show (64 * w + t) / 64 = w by omega, show (64 * w + t) % 64 = t by omega, hb, if_neg (by omega), if_pos rfl]
  have hl := zmm hc 256 0 (by omega) (by omega) (fun i _ hi => by
    unfold zq2
    by_cases hv : i / 64 < w
    . rw [hz _ hv]
      exact Nat.zero_testBit _
    . rw [show i / 64 = w by omega, hb, if_pos (by omega)])
  rw [z4k (zbf hw), Int.toNat_natCast, z4k (decide_eq_true (by rw [hs.length]; exact hw)), tz_eq N hu e ht]
  simp only [Option.bind_some]
  rw [hl, z8s (x := (w : Int) * 64) (by unfold I64; omega), z8s (by unfold I64; omega)]
  congr 1
  omega

theorem z12k (s : List Int) : eqD (T.arr 4 (T.int Go.IntKind.u64)) s s = true := (zfm _ _ _ rfl).2 rfl

theorem zy5 (N : Nat) {s : List Int} (hs : SetOk s) : z22 (N + 5) s = some (zhx s 256 0) := by
  have hs' := hs
  obtain ⟨a, b, c, d, rfl, ha, hb, hc, hd⟩ := hs'
  rw [z22]
  by_cases e : ([a, b, c, d] : List Int) = [0, 0, 0, 0]
  . rw [e, z4k (z12k _), zlg zs8]
  . have en : eqD (T.arr 4 (T.int Go.IntKind.u64)) [a, b, c, d] ([(0 : Int), (0 : Int), (0 : Int), (0 : Int)] : List Int) = false := by
      rw [<- Bool.not_eq_true]
      exact fun h => e ((zfm _ _ _ rfl).1 h)
    rw [z9r en, z1aq]
    by_cases ea : a = 0
    . rw [z4k (beq_iff_eq.2 ea)]
      by_cases eb : b = 0
      . rw [z4k (beq_iff_eq.2 eb)]
        by_cases ec : c = 0
        . rw [z4k (beq_iff_eq.2 ec)]
          by_cases ed : d = 0
          . exact absurd (by rw [ea, eb, ec, ed]) e
          . rw [z9r (beq_eq_false_iff_ne.2 ed)]
            have z : ∀ v, v < 3 -> ([a, b, c, d] : List Int).getD v 0 = 0 := by
              intro v hv
              obtain rfl | rfl | rfl : v = 0 \/ v = 1 \/ v = 2 := by omega
              . exact ea
              . exact eb
              . exact ec
            exact zim (N + 5) hs (w := 3) (by omega) z ed
        . rw [z9r (beq_eq_false_iff_ne.2 ec)]
          have z : ∀ v, v < 2 -> ([a, b, c, d] : List Int).getD v 0 = 0 := by
            intro v hv
            obtain rfl | rfl : v = 0 \/ v = 1 := by omega
            . exact ea
            . exact eb
          exact zim (N + 5) hs (w := 2) (by omega) z ec
      . rw [z9r (beq_eq_false_iff_ne.2 eb)]
        have z : ∀ v, v < 1 -> ([a, b, c, d] : List Int).getD v 0 = 0 := by
          intro v hv
          obtain rfl : v = 0 := by omega
          exact ea
        exact zim (N + 5) hs (w := 1) (by omega) z eb
    . rw [z9r (beq_eq_false_iff_ne.2 ea)]
      exact zim (N + 5) hs (w := 0) (by omega) (fun v hv => by omega) ea

end
end Go.Proofs.YtbfmhambfonpcaaDoorLg

set_option linter.all false
set_option maxRecDepth 100000
namespace Go.Proofs.YtbfmhambfonpcaaDoorLg
noncomputable section
open Go Go.Lift Go.Proofs.YtbfmhambfonpcaaDoorPx

inductive PR (α : Type) where
  | bad (e : Int) (a : Nat)
  | ok (x : α) (a : Nat)

def PR.next {α β : Type} (r : PR α) (f : α -> Nat -> PR β) : PR β := match r with
  | .bad e a => .bad e a
  | .ok x a => f x a

def gb (s : List UInt8) (i : Nat) : Nat := (s.getD i 0).toNat

def isB (s : List UInt8) (a b : Nat) : Bool := decide (a < s.length) && gb s a == b

def zjx (b : Nat) : Bool := decide (48 <= b) && decide (b <= 57)

def z83 (s : List UInt8) (a : Nat) : PR Nat := if a < s.length then .ok (gb s a) a else .bad 1 s.length

def zaq (s : List UInt8) (a b : Nat) : PR Unit := (z83 s a).next fun c a => if c = b then .ok () (a + 1) else .bad 2 a

def zpp (s : List UInt8) (fr a : Nat) : PR Nat := (z83 s a).next fun b a => if zjx b then .ok (b - 48) (a + 1) else if 97 <= b /\ b <= 102 then .ok (b - 87) (a + 1) else .bad 2 fr

def z4 : List Int := [0, 0, 0, 0]
def zdf (b : Nat) : List Int := ofS 1 b z4
def zbj : List UInt8 := [48, 49, 50, 51, 52, 53, 54, 55, 56, 57, 65, 66, 67, 68, 69, 70, 71, 72, 73, 74, 75, 76, 77, 78, 79, 80, 81, 82, 83, 84, 85, 86, 87, 88, 89, 90, 95, 97, 98, 99, 100, 101, 102, 103, 104, 105, 106, 107, 108, 109, 110, 111, 112, 113, 114, 115, 116, 117, 118, 119, 120, 121, 122]
def specials : List Nat := [92, 46, 91, 93, 40, 41, 123, 125, 124, 42, 43, 63]
def escapes : List Nat := [92, 46, 91, 93, 40, 41, 123, 125, 124, 42, 43, 63, 45, 94]

abbrev Sg := List Int × Bool × Nat

def zpq (s : List UInt8) (a : Nat) : PR Sg := (z83 s (a + 1)).next fun b a1 =>
 if b = 100 then .ok (ofS 10 48 z4, true, 0) (a + 2)
 else if b = 119 then .ok (z147 zbj z4, true, 0) (a + 2)
 else if b = 120 then (zpp s a (a + 2)).next fun h a2 => (zpp s a a2).next fun l a3 => .ok (zdf (16 * h + l), false, 16 * h + l) a3
 else if escapes.contains b then .ok (zdf b, false, b) (a + 2) else .bad 2 a

def zfg (s : List UInt8) (a : Nat) : PR Sg := (z83 s a).next fun b _ =>
 if b = 92 then zpq s a else if b = 91 \/ b = 93 \/ b = 45 \/ b = 94 then .bad 2 a else .ok (zdf b, false, b) (a + 1)

def zer (s : List UInt8) (a : Nat) : PR (List Int) := (zfg s a).next fun r a1 =>
  if r.2.1 || !(isB s a1 45) then .ok r.1 a1
  else (zfg s (a1 + 1)).next fun q a2 => if q.2.1 || decide (q.2.2 < r.2.2) then .bad 2 (a1 + 1) else .ok (ofS (q.2.2 + 1 - r.2.2) r.2.2 z4) a2

def z9f (s : List UInt8) : Nat -> Nat -> List Int -> PR (List Int)
  | 0, _, _ => .bad 0 0
  | k + 1, a, acc => if isB s a 93 then .ok acc (a + 1) else (zer s a).next fun t a1 => z9f s k a1 (orS acc t)

def zar (s : List UInt8) (a : Nat) : PR (List Int) :=
 (zer s (if isB s a 94 then a + 1 else a)).next fun t a1 => (z9f s (s.length + 1) a1 t).next fun acc a2 => .ok (if isB s a 94 then z16e acc else acc) a2

def z8y (s : List UInt8) : Nat -> Nat -> Nat -> Nat × Nat
  | 0, a, v => (v, a)
  | k + 1, a, v => if a < s.length /\ zjx (gb s a) then z8y s k (a + 1) (min (10 * v + (gb s a - 48)) 17) else (v, a)

def zp6 (s : List UInt8) (a : Nat) : PR Nat := (z83 s a).next fun b _ =>
 if zjx b then
 if b = 48 /\ a + 1 < (z8y s (s.length + 1) a 0).2 then .bad 2 a
 else if 16 < (z8y s (s.length + 1) a 0).1 then .bad 3 a
 else .ok (z8y s (s.length + 1) a 0).1 (z8y s (s.length + 1) a 0).2
 else .bad 2 a

def zs3 (s : List UInt8) (lo : Nat) (hi : Nat) (fr a : Nat) : PR (Int × Int) :=
 if hi < max lo 1 then .bad 2 fr else (zaq s a 125).next fun _ a1 => .ok ((lo : Int), (hi : Int)) a1

def z8z (s : List UInt8) (a : Nat) : PR (Int × Int) := (zp6 s a).next fun lo a1 =>
 if isB s a1 44 then
 if isB s (a1 + 1) 125 then .ok ((lo : Int), -1) (a1 + 2) else (zp6 s (a1 + 1)).next fun hi a2 => zs3 s lo hi (a1 + 1) a2
 else zs3 s lo lo a a1

def zx3 (st : List Int) : Tree := .mk 1 st [] 0 0
def zpf (t : Tree) (lo hi : Int) : Tree := .mk 4 z4 [t] lo hi

def zcn (sub : Option (Nat -> PR Tree)) (s : List UInt8) (a : Nat) : PR Tree :=
  if gb s a = 40 then (match sub with
    | none => .bad 3 a
    | some f => (f (a + 1)).next fun t a1 => (zaq s a1 41).next fun _ a2 => .ok t a2)
  else if gb s a = 46 then .ok (zx3 (ofS 256 0 z4)) (a + 1)
  else if gb s a = 91 then (zar s (a + 1)).next fun st a1 => .ok (zx3 st) a1
  else if gb s a = 92 then (zpq s a).next fun r a1 => .ok (zx3 r.1) a1
  else if specials.contains (gb s a) then .bad 2 a
  else .ok (zx3 (zdf (gb s a))) (a + 1)

def zb4 (sub : Option (Nat -> PR Tree)) (s : List UInt8) (a : Nat) : PR Tree := (zcn sub s a).next fun t a1 =>
 if a1 < s.length then
 if gb s a1 = 43 then .ok (zpf t 1 (-1)) (a1 + 1)
 else if gb s a1 = 42 then .ok (zpf t 0 (-1)) (a1 + 1)
 else if gb s a1 = 63 then .ok (zpf t 0 1) (a1 + 1)
 else if gb s a1 = 123 then (z8z s (a1 + 1)).next fun lh a2 => .ok (zpf t lh.1 lh.2) a2
 else .ok t a1
 else .ok t a1

def zbl (s : List UInt8) (a : Nat) : Bool := !(decide (a < s.length)) || (gb s a == 124 || gb s a == 41)

def zcm (sub : Option (Nat -> PR Tree)) (s : List UInt8) : Nat -> Nat -> List Tree -> PR Tree
  | 0, _, _ => .bad 0 0
  | k + 1, a, ps => if zbl s a then .ok (z57 2 ps) a else (zb4 sub s a).next fun t a1 => zcm sub s k a1 (ps ++ [t])

def zco (sub : Option (Nat -> PR Tree)) (s : List UInt8) : Nat -> Nat -> List Tree -> PR Tree
  | 0, _, _ => .bad 0 0
  | k + 1, a, ps => if isB s a 124 then (zcm sub s (s.length + 1) (a + 1) []).next fun t a1 => zco sub s k a1 (ps ++ [t]) else .ok (z57 3 ps) a

def zax (s : List UInt8) : Nat -> Nat -> PR Tree
  | 0, a => (zcm none s (s.length + 1) a []).next fun t a1 => zco none s (s.length + 1) a1 [t]
  | d + 1, a => (zcm (some (zax s d)) s (s.length + 1) a []).next fun t a1 => zco (some (zax s d)) s (s.length + 1) a1 [t]

def z3y (s : List UInt8) : PR Tree := if 256 < s.length then .bad 3 256 else (zax s 16 0).next fun t a => if a < s.length then .bad 2 a else .ok t a


def Ahead {α : Type} (s : List UInt8) (a : Nat) (r : PR α) : Prop := match r with
  | .bad _ b => b <= s.length
  | .ok _ b => a <= b /\ b <= s.length

theorem Ahead.bind {α β : Type} {s : List UInt8} {a c : Nat} {r : PR α} {f : α -> Nat -> PR β} (h : Ahead s a r) (hf : ∀ x b, r = .ok x b -> a <= b -> b <= s.length -> Ahead s c (f x b)) : Ahead s c (r.next f) := by
  cases r with
  | bad e b => exact h
  | ok x b => exact hf x b rfl h.1 h.2

theorem Ahead.le {α : Type} {s : List UInt8} {a b : Nat} {r : PR α} (h : Ahead s a r) (hab : b <= a) : Ahead s b r := by
  cases r with
  | bad e c => exact h
  | ok x c => exact ⟨Nat.le_trans hab h.1, h.2⟩

theorem zbw (s : List UInt8) (a : Nat) : Ahead s a (z83 s a) := by
  unfold z83
  split
  . exact ⟨Nat.le_refl _, by omega⟩
  . exact Nat.le_refl _

theorem z9j {s : List UInt8} {a x b : Nat} (h : z83 s a = .ok x b) : a < s.length /\ x = gb s a /\ b = a := by
  unfold z83 at h
  split at h
  . cases h; exact ⟨by assumption, rfl, rfl⟩
  . cases h

theorem zh3 (s : List UInt8) (a b : Nat) : Ahead s (a + 1) (zaq s a b) := by
  refine (zbw s a).bind fun c a1 h h1 h2 => ?_
  obtain ⟨q1, q2, rfl⟩ := z9j h
  split
  . exact ⟨Nat.le_refl _, by omega⟩
  . exact Nat.le_of_lt q1

theorem zjs {s : List UInt8} {fr : Nat} (hf : fr <= s.length) (a : Nat) : Ahead s (a + 1) (zpp s fr a) := by
  refine (zbw s a).bind fun c a1 h h1 h2 => ?_
  obtain ⟨q1, q2, rfl⟩ := z9j h
  split
  . exact ⟨Nat.le_refl _, by omega⟩
  . split
    . exact ⟨Nat.le_refl _, by omega⟩
    . exact hf

theorem zjw {s : List UInt8} {a : Nat} (ha : a <= s.length) : Ahead s (a + 2) (zpq s a) := by
  refine (zbw s (a + 1)).bind fun c a1 h h1 h2 => ?_
  obtain ⟨q1, q2, rfl⟩ := z9j h
  split
  . exact ⟨Nat.le_refl _, by omega⟩
  split
  . exact ⟨Nat.le_refl _, by omega⟩
  split
  . refine (zjs ha (a + 2)).bind fun x b _ g1 g2 => ?_
    refine (zjs ha b).bind fun y b2 _ g3 g4 => ?_
    exact ⟨by omega, g4⟩
  split
  . exact ⟨Nat.le_refl _, by omega⟩
  . exact ha

theorem zed (s : List UInt8) (a : Nat) : Ahead s (a + 1) (zfg s a) := by
  refine (zbw s a).bind fun c a1 h h1 h2 => ?_
  obtain ⟨q1, q2, rfl⟩ := z9j h
  split
  . exact (zjw (by omega)).le (by omega)
  split
  . exact Nat.le_of_lt q1
  . exact ⟨Nat.le_refl _, by omega⟩

theorem z6p (s : List UInt8) (a : Nat) : Ahead s (a + 1) (zer s a) := by
  refine (zed s a).bind fun r a1 _ h1 h2 => ?_
  split
  . exact ⟨h1, h2⟩
  . rename_i hc
    refine (zed s (a1 + 1)).bind fun q a2 _ g1 g2 => ?_
    skip
    split
    . show a1 + 1 <= s.length
      simp [isB] at hc
      omega
    . exact ⟨by omega, g2⟩

theorem zjr (s : List UInt8) : ∀ (k a : Nat) (acc : List Int), a <= s.length -> Ahead s (a + 1) (z9f s k a acc)
  | 0, a, acc, ha => Nat.zero_le _
  | k + 1, a, acc, ha => by
    unfold z9f
    split
    . rename_i h
      simp [isB] at h
      exact ⟨Nat.le_refl _, by omega⟩
    . exact (z6p s a).bind fun t a1 _ h1 h2 => (zjr s k a1 _ h2).le (by omega)

theorem zk0 {s : List UInt8} (a : Nat) : Ahead s (a + 2) (zar s a) := by
  unfold zar
  refine (z6p s _).bind fun t a1 _ h1 h2 => ?_
  refine (zjr s _ a1 _ h2).bind fun acc a2 _ g1 g2 => ?_
  refine ⟨?_, g2⟩
  split at h1 <;> omega

theorem zgw (s : List UInt8) : ∀ (k a v : Nat), a <= s.length -> a <= (z8y s k a v).2 /\ (z8y s k a v).2 <= s.length
  | 0, a, v, h => ⟨Nat.le_refl _, h⟩
  | k + 1, a, v, h => by
    unfold z8y
    split
    . rename_i hc
      have := zgw s k (a + 1) (min (10 * v + (gb s a - 48)) 17) (by omega)
      exact ⟨by omega, this.2⟩
    . exact ⟨Nat.le_refl _, h⟩

theorem zui {s : List UInt8} {k a v : Nat} (h : a < s.length) (hd : zjx (gb s a) = true) : a + 1 <= (z8y s (k + 1) a v).2 := by
  unfold z8y
  rw [if_pos ⟨h, hd⟩]
  exact (zgw s k (a + 1) _ (by omega)).1

theorem zdv (s : List UInt8) (a : Nat) : Ahead s (a + 1) (zp6 s a) := by
  refine (zbw s a).bind fun c a1 h h1 h2 => ?_
  obtain ⟨q1, rfl, rfl⟩ := z9j h
  split
  . rename_i hd
    split
    . exact Nat.le_of_lt q1
    split
    . exact Nat.le_of_lt q1
    . exact ⟨zui q1 hd, (zgw s _ _ _ (by omega)).2⟩
  . exact Nat.le_of_lt q1

theorem zof {s : List UInt8} {lo hi fr a : Nat} (hf : fr <= s.length) : Ahead s (a + 1) (zs3 s lo hi fr a) := by
  unfold zs3
  split
  . exact hf
  . exact (zh3 s a 125).bind fun _ a1 _ h1 h2 => ⟨h1, h2⟩

theorem zi5 {s : List UInt8} {a : Nat} (ha : a <= s.length) : Ahead s (a + 1) (z8z s a) := by
  refine (zdv s a).bind fun lo a1 _ h1 h2 => ?_
  split
  . rename_i hc
    simp [isB] at hc
    split
    . rename_i hc2
      simp [isB] at hc2
      exact ⟨by omega, by omega⟩
    . refine (zdv s (a1 + 1)).bind fun hi a2 _ g1 g2 => ?_
      exact (zof (by omega)).le (by omega)
  . exact (zof ha).le (by omega)

theorem zc4 {sub : Option (Nat -> PR Tree)} {s : List UInt8} {a : Nat} (hs : ∀ f, sub = some f -> ∀ b, b <= s.length -> Ahead s b (f b)) (ha : a < s.length) : Ahead s (a + 1) (zcn sub s a) := by
  unfold zcn
  split
  . cases sub with
    | none => exact Nat.le_of_lt ha
    | some f =>
      refine (hs f rfl (a + 1) (by omega)).bind fun t a1 _ h1 h2 => ?_
      exact (zh3 s a1 41).bind fun _ a2 _ g1 g2 => ⟨by omega, g2⟩
  split
  . exact ⟨Nat.le_refl _, by omega⟩
  split
  . exact (zk0 (a + 1)).bind fun st a1 _ h1 h2 => ⟨by omega, h2⟩
  split
  . exact (zjw (by omega)).bind fun st a1 _ h1 h2 => ⟨by omega, h2⟩
  split
  . exact Nat.le_of_lt ha
  . exact ⟨Nat.le_refl _, by omega⟩

theorem z8x {sub : Option (Nat -> PR Tree)} {s : List UInt8} {a : Nat} (hs : ∀ f, sub = some f -> ∀ b, b <= s.length -> Ahead s b (f b)) (ha : a < s.length) : Ahead s (a + 1) (zb4 sub s a) := by
  refine (zc4 hs ha).bind fun t a1 _ h1 h2 => ?_
  split
  . split
    . exact ⟨by omega, by omega⟩
    split
    . exact ⟨by omega, by omega⟩
    split
    . exact ⟨by omega, by omega⟩
    split
    . exact (zi5 (by omega)).bind fun lh a2 _ g1 g2 => ⟨by omega, g2⟩
    . exact ⟨h1, h2⟩
  . exact ⟨h1, h2⟩

theorem z3p {sub : Option (Nat -> PR Tree)} {s : List UInt8} (hs : ∀ f, sub = some f -> ∀ b, b <= s.length -> Ahead s b (f b)) : ∀ (k a : Nat) (ps : List Tree), a <= s.length -> Ahead s a (zcm sub s k a ps)
  | 0, a, ps, ha => Nat.zero_le _
  | k + 1, a, ps, ha => by
    unfold zcm
    split
    . exact ⟨Nat.le_refl _, ha⟩
    . rename_i hc
      have hlt : a < s.length := by
        simp [zbl] at hc
        exact hc.1
      exact (z8x hs hlt).bind fun t a1 _ h1 h2 => (z3p hs k a1 _ h2).le (by omega)

theorem zhm {sub : Option (Nat -> PR Tree)} {s : List UInt8} (hs : ∀ f, sub = some f -> ∀ b, b <= s.length -> Ahead s b (f b)) : ∀ (k a : Nat) (ps : List Tree), a <= s.length -> Ahead s a (zco sub s k a ps)
  | 0, a, ps, ha => Nat.zero_le _
  | k + 1, a, ps, ha => by
    unfold zco
    split
    . rename_i hc
      simp [isB] at hc
      exact (z3p hs _ (a + 1) [] (by omega)).bind fun t a1 _ h1 h2 => (zhm hs k a1 _ h2).le (by omega)
    . exact ⟨Nat.le_refl _, ha⟩

theorem z9i (s : List UInt8) : ∀ (d a : Nat), a <= s.length -> Ahead s a (zax s d a)
  | 0, a, ha => by
    have hs : ∀ f, (none : Option (Nat -> PR Tree)) = some f -> ∀ b, b <= s.length -> Ahead s b (f b) := fun f h => by cases h
    unfold zax
    exact (z3p hs _ a [] ha).bind fun t a1 _ h1 h2 => (zhm hs _ a1 _ h2).le h1
  | d + 1, a, ha => by
    have hs : ∀ f, some (zax s d) = some f -> ∀ b, b <= s.length -> Ahead s b (f b) := fun f h => by cases h; exact z9i s d
    unfold zax
    exact (z3p hs _ a [] ha).bind fun t a1 _ h1 h2 => (zhm hs _ a1 _ h2).le h1

end
end Go.Proofs.YtbfmhambfonpcaaDoorLg

set_option linter.all false
set_option maxRecDepth 100000
namespace Go.Lift
noncomputable section


def BSt (t : T) (w0 : World) (S0 : Hp) (ob0 : List Nat) (bf : Nat) (w : World) (x : t.den) (L : List (Nat × Array Value × Nat)) : Prop :=
 ∃ S o, WF w0 (fun k => k ∈ ob0) w /\ Sub S0 S /\ Sub S (hp w) /\ (∀ k, S k ≠ none -> S0 k ≠ none \/ k ∈ ob0 \/ w0.heap.size <= k) /\ ARel (hp w) S (fun _ => undef) (.box t x) (.pointer (some ⟨bf, 0, none⟩)) o /\ o.Nodup ∧
 (∀ k ∈ o, S k = none /\ (k ∈ ob0 \/ w0.heap.size <= k)) /\ ∀ p ∈ L, S p.1 = none /\ p.1 ∉ o /\ w0.heap.size <= p.1 /\ w.heap[p.1]? = some (.cells p.2.1 p.2.2 (0, 0))

variable {P : Program} {glob : Nat -> Option Dat} {t : T} {w0 w : World} {S0 : Hp} {ob0 : List Nat} {bf : Nat} {x : t.den} {L : List (Nat × Array Value × Nat)}

theorem BSt.lt (h : BSt t w0 S0 ob0 bf w x L) : ∀ p ∈ L, p.1 < w.heap.size := by
  obtain ⟨S, o, _, _, _, _, _, _, _, hL⟩ := h
  exact fun p hp => (Array.getElem?_eq_some_iff.1 (hL p hp).2.2.2).1

theorem BSt.drew (h : BSt t w0 S0 ob0 bf w x L) : BSt t w0 S0 ob0 bf w.drew x L := by
  obtain ⟨S, o, k1, k2⟩ := h
  exact ⟨S, o, ⟨k1.size, k1.same, k1.tape, k1.os, k1.output⟩, k2⟩

theorem BSt.plain {f : FuncId} {g : List A -> Res} (ct : Contract P glob f g) (hg : ∀ S, GlobOk glob S) (h : BSt t w0 S0 ob0 bf w x L) {args : List A} {vals : List Value}
    (hrel : ∀ S, Sub S (hp w) -> ArgsRel (hp w) S args vals (fun _ => [])) {y : (g args).X} (hy : (g args).val = some y) :
    Calls P f vals.toArray w fun e w' => ∃ v S' o', e = .returned v /\ ARel (hp w') S' (fun _ => undef) ((g args).out y).1 v o' /\ BSt t w0 S0 ob0 bf w' x L := by
  have h' := h
  obtain ⟨S, o, h1, h2, h3, h4, h5, h6, h7, hL⟩ := h'
  refine ((ct.2 w S args vals _ (hrel S h3) h3 (hg S) y hy)).mono ?_
  rintro e w' ⟨v, S', q, ob', rfl, hwf, hSS, hSw, hnew, ⟨hr, _⟩, _⟩
  refine ⟨v, S', q, rfl, hr, ?_⟩
  have hwf' : WF w (fun _ => False) w' := ⟨hwf.size, fun k hk _ => hwf.same k hk (by rintro ⟨i, hi⟩; cases hi), hwf.tape, hwf.os, hwf.output⟩
  have hlt : ∀ k ∈ o, k < w.heap.size := fun k hk => by
    obtain ⟨ob, hob⟩ := h5.obj k hk
    exact (Array.getElem?_eq_some_iff.1 hob.1).1
  have hnw : ∀ k, k < w.heap.size -> S' k ≠ none -> S k ≠ none := fun k hk hs => by
    rcases hnew k hs with h | ⟨i, hi⟩ | h
    . exact h
    . cases hi
    . omega
  refine ⟨S', o, h1.trans hwf' (fun _ h => h.elim), h2.trans hSS, hSw, fun k hk => ?_, ?_, h6, fun k hk => ⟨?_, (h7 k hk).2⟩, fun p hp => ?_⟩
  . rcases hnew k hk with h | ⟨i, hi⟩ | h
    . exact h4 k h
    . cases hi
    . exact .inr (.inr (Nat.le_trans h1.size h))
  . obtain ⟨b, cs, E, fr, bs, rfl, e1, e2, e3, e4⟩ := h5
    refine ⟨b, cs, E, fr, bs, rfl, e1, ?_, e3, e4.mono hSS _ _ _ _ (fun k hk => hwf'.same k (hlt k (by simp [hk])) (fun h => h))⟩
    have := hwf'.same b (hlt b (by simp)) (fun h => h)
    simp only [hp] at e2 ⊢
    rw [this]; exact e2
  . cases hs : S' k with
    | none => rfl
    | some q => exact absurd (h7 k hk).1 (hnw k (hlt k hk) (by rw [hs]; simp))
  . obtain ⟨p1, p2, p3, p4⟩ := hL p hp
    have hl := (Array.getElem?_eq_some_iff.1 p4).1
    refine ⟨?_, p2, p3, ?_⟩
    . cases hs : S' p.1 with
      | none => rfl
      | some q => exact absurd p1 (hnw _ hl (by rw [hs]; simp))
    . rw [hwf'.same p.1 hl (fun h => h)]; exact p4

theorem zyj {S : Hp} {v : Value} {o : List Nat} {args : List A} {vals : List Value} (h5 : ARel (hp w) S (fun _ => undef) (.box t x) v o) (h6 : o.Nodup) (h7 : ∀ k ∈ o, S k = none) (hr0 : ArgsRel (hp w) S args vals (fun _ => [])) :
    ArgsRel (hp w) S (.box t x :: args) (v :: vals) (fun i => if i = 0 then o else []) := by
  refine ⟨by simp [hr0.len], fun i q hq => ?_, fun i hi => ?_, fun i j b hi hj => ?_, fun i => ?_, fun i b hb => ?_⟩
  . cases i with
    | zero =>
      simp at hq; subst hq
      exact ⟨⟨_, rfl, by simpa using h5⟩, rfl⟩
    | succ i =>
      obtain ⟨⟨v, hv, ha⟩, hrf⟩ := hr0.rel i q (by simpa using hq)
      exact ⟨⟨v, by simpa using hv, by simpa using ha⟩, hrf⟩
  . rw [if_neg (by intro e; subst e; simp at hi)]
  . by_cases hi0 : i = 0 <;> by_cases hj0 : j = 0 <;> simp_all
  . by_cases hi0 : i = 0 <;> simp [hi0, h6]
  . by_cases hi0 : i = 0
    . rw [if_pos hi0] at hb; exact h7 b hb
    . rw [if_neg hi0] at hb; cases hb

theorem BSt.alloc (h : BSt t w0 S0 ob0 bf w x L) (cs : Array Value) (E : Nat) : BSt t w0 S0 ob0 bf (w.alloc (.cells cs E)) x ((w.heap.size, cs, E) :: L) := by
  have hlt := h.lt
  obtain ⟨S, o, h1, h2, h3, h4, h5, h6, h7, hL⟩ := h
  have hh : (w.alloc (.cells cs E)).heap = w.heap.push (.cells cs E (0, 0)) := rfl
  have hk : ∀ k, k < w.heap.size -> (w.alloc (.cells cs E)).heap[k]? = w.heap[k]? := fun k hk => by
    rw [hh, Array.getElem?_push, if_neg (by omega)]
  have hol : ∀ k ∈ o, k < w.heap.size := fun k hk => by
    obtain ⟨ob, hob⟩ := h5.obj k hk
    exact (Array.getElem?_eq_some_iff.1 hob.1).1
  refine ⟨S, o, ⟨by rw [hh, Array.size_push]; have := h1.size; omega, fun k h1' h2' => by rw [hk k (by have := h1.size; omega)]; exact h1.same k h1' h2', h1.tape, h1.os, h1.output⟩, h2, fun k q ho => ?_, h4, ?_, h6, h7, fun p hpm => ?_⟩
  . have := h3 k q ho
    simp only [hp] at this ⊢
    rw [hk k (Array.getElem?_eq_some_iff.1 this).1]
    exact this
  . obtain ⟨b, c1, E', fr, bs, rfl, e1, e2, e3, e4⟩ := h5
    refine ⟨b, c1, E', fr, bs, rfl, e1, ?_, e3, e4.mono (Sub.refl _) _ _ _ _ (fun k hkm => hk k (hol k (by simp [hkm])))⟩
    simp only [hp] at e2 ⊢
    rw [hk b (hol b (by simp))]; exact e2
  . rcases List.mem_cons.1 hpm with rfl | hpm
    . refine ⟨?_, fun hm => absurd (hol _ hm) (by simp), h1.size, ?_⟩
      . cases hs : S w.heap.size with
        | none => rfl
        | some q =>
          have := h3 _ _ hs
          simp only [hp] at this
          have := (Array.getElem?_eq_some_iff.1 this).1
          omega
      . simp only
        rw [hh, Array.getElem?_push, if_pos rfl]
    . obtain ⟨p1, p2, p3, p4⟩ := hL p hpm
      exact ⟨p1, p2, p3, by rw [hk p.1 (hlt p hpm)]; exact p4⟩

theorem BSt.put {p : Nat} {cs : Array Value} {E : Nat} (h : BSt t w0 S0 ob0 bf w x ((p, cs, E) :: L)) (hd : ∀ q ∈ L, q.1 ≠ p) {w' : World} {cs' : Array Value} (hw : w' = z1h w p (.cells cs' E (0, 0))) : BSt t w0 S0 ob0 bf w' x ((p, cs', E) :: L) := by
  obtain ⟨S, o, h1, h2, h3, h4, h5, h6, h7, hL⟩ := h
  obtain ⟨q1, q2, q3, q4⟩ := hL (p, cs, E) (List.mem_cons_self ..)
  simp only at q1 q2 q3 q4
  have hne : ∀ k, k ≠ p -> w'.heap[k]? = w.heap[k]? := fun k hk => by
    have := zo (w := w) (o := .cells cs' E (0, 0)) hk
    rw [hw]; exact this
  have hsz : w'.heap.size = w.heap.size := by rw [hw]; simp [z1h]
  refine ⟨S, o, ⟨by rw [hsz]; exact h1.size, fun k h1' h2' => by rw [hne k (by omega)]; exact h1.same k h1' h2', by rw [hw]; exact h1.tape, by rw [hw]; exact h1.os, by rw [hw]; exact h1.output⟩, h2, fun k q ho => ?_, h4, ?_, h6, h7, fun u hu => ?_⟩
  . have hk : k ≠ p := fun e => by rw [e, q1] at ho; cases ho
    have := h3 k q ho
    simp only [hp] at this ⊢
    rw [hne k hk]
    exact this
  . obtain ⟨b, c1, E', fr, bs, rfl, e1, e2, e3, e4⟩ := h5
    refine ⟨b, c1, E', fr, bs, rfl, e1, ?_, e3, e4.mono (Sub.refl _) _ _ _ _ (fun k hkm => hne k (fun e => q2 (by simp [<- e, hkm])))⟩
    simp only [hp] at e2 ⊢
    rw [hne b (fun e => q2 (by simp [<- e]))]; exact e2
  . rcases List.mem_cons.1 hu with rfl | hu
    . refine ⟨q1, q2, q3, ?_⟩
      rw [hw]
      exact z2y q4
    . obtain ⟨p1, p2, p3, p4⟩ := hL u (List.mem_cons_of_mem _ hu)
      exact ⟨p1, p2, p3, by rw [hne u.1 (hd u hu)]; exact p4⟩

theorem BSt.setCell {p : Nat} {cs : Array Value} {E : Nat} (h : BSt t w0 S0 ob0 bf w x ((p, cs, E) :: L)) (hd : ∀ q ∈ L, q.1 ≠ p) (i : Nat) (v : Value) :
    BSt t w0 S0 ob0 bf (w.setCell ⟨p, i, none⟩ v) x ((p, cs.setIfInBounds i v, E) :: L) := by
  have hb : hp w p = some (.cells cs E (0, 0)) := by
    obtain ⟨S, o, _, _, _, _, _, _, _, hL⟩ := h
    exact (hL _ (List.mem_cons_self ..)).2.2.2
  exact h.put hd (zku v hb)

end
end Go.Lift
