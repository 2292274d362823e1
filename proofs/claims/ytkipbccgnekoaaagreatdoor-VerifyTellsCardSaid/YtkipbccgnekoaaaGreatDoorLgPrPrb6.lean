import Derived.Test.YtkipbccgnekoaaaGreatDoorLgPrPrb5
import Derived.Test.YtkipbccgnekoaaaGreatDoorChecked
import Derived.KernelRfl
set_option linter.all false
namespace Go.Proofs.YtkipbccgnekoaaaGreatDoorLg
noncomputable section
open Go Go.Lift Go.Proofs.YtkipbccgnekoaaaGreatDoorPx

theorem z169 (N : Nat) {a b : List UInt8} (ha : a.length <= 9223372036854775806) (hN : a.length < N) : zbs N a b = some (a == b) := by
  simp only [zbs, zi0]
  by_cases hl : a.length = b.length
  . rw [zr (by simp [hl]), z2p (I := fun (v : Int × Int) => (∃ d : UInt8, v.1 = ((d.toNat : Nat) : Int)) /\ 0 <= v.2 /\ v.2 <= ((a.length : Nat) : Int)) (m := fun (v : Int × Int) => a.length - v.2.toNat)
      (R := fun (v : Int × Int) => some ((UInt8.ofNat v.1.toNat ||| orX (a.drop v.2.toNat) (b.drop v.2.toNat)) == 0)) ?_ N (0, 0) ⟨⟨0, rfl⟩, by omega, by dsimp only; omega⟩ (by simpa using hN)]
    . simp only [Int.toNat_zero, List.drop_zero]
      have : (UInt8.ofNat 0 ||| orX a b) = orX a b := UInt8.zero_or
      rw [this]
      congr 1
      rw [Bool.eq_iff_iff, beq_iff_eq, zy3 a b hl, beq_iff_eq]
    rintro ⟨x, v⟩ r ⟨⟨d, hd⟩, h0, h1⟩ hr
    dsimp only at *
    subst hd
    obtain ⟨i, rfl⟩ := Int.eq_ofNat_of_zero_le h0
    simp only [zcy, Int.toNat_natCast, UInt8.ofNat_toNat]
    by_cases hlt : i < a.length
    . have hib : i < b.length := by omega
      rw [zg (z17 (by omega)), zg (zz hlt), zg (zz hib), z17e, or_u8, z15 (by omega), hr _ ⟨⟨_, rfl⟩, by omega, by omega⟩ (by dsimp only; omega), z1n a 0 i hlt, z1n b 0 i hib]
      simp only [Int.toNat_natCast, UInt8.ofNat_toNat, orX, z11w]
    . have hi : i = a.length := by omega
      rw [zr (z3c (by omega)), z2z a (by omega)]
      have : orX [] (b.drop i) = 0 := by unfold orX; rfl
      rw [this, UInt8.or_zero]
      congr 1
      rw [Bool.eq_iff_iff, beq_iff_eq, beq_iff_eq, show (0 : Int) = (((0 : UInt8).toNat : Nat) : Int) from rfl, zys]
  . rw [zg (by simp; omega)]
    have : ¬ a = b := fun e => hl (by rw [e])
    simp [this]

theorem z17f (N : Nat) {a b : List UInt8} (ha : a.length <= 281474976710656) (hN : a.length < N) : zdi N a b = some (zpp a b) := by
  simp only [zdi, zm7, z1b0]
  rw [zg (z17 ⟨by omega, by omega, by omega, by omega⟩)]
  simp only [Int.toNat_natCast, List.length_replicate]
  rw [z2p (I := fun (v : List Int × Int) => v.1.length = min a.length b.length /\ 0 <= v.2 /\ v.2 <= ((min a.length b.length : Nat) : Int)) (m := fun (v : List Int × Int) => a.length - v.2.toNat)
    (R := fun (v : List Int × Int) => some (z27 (v.1.take v.2.toNat) ++ zpp (a.drop v.2.toNat) (b.drop v.2.toNat))) ?_ N (List.replicate (min a.length b.length) 0, 0) ⟨by simp, by omega, by dsimp only; omega⟩ (by simpa using hN)]
  . simp [z27]
  rintro ⟨out, v⟩ r ⟨hl, h0, h1⟩ hr
  dsimp only at *
  obtain ⟨i, rfl⟩ := Int.eq_ofNat_of_zero_le h0
  simp only [zgb, Int.toNat_natCast]
  by_cases hlt : i < min a.length b.length
  . have hia : i < a.length := by omega
    have hib : i < b.length := by omega
    have hio : i < out.length := by omega
    rw [zg (z17 (by omega)), zg (zz hia), zg (zz hib), zg (zz hio), zg (z17 hio), z17e, z15 (by omega), hr _ ⟨by simpa using hl, by omega, by omega⟩ (by dsimp only; omega), z1n a 0 i hia, z1n b 0 i hib]
    simp only [Int.toNat_natCast, zrg _ _ _ hio, z96, zqh, List.append_assoc]
    rfl
  . have hi : i = min a.length b.length := by omega
    rw [zr (z3c (by omega)), List.take_of_length_le (by omega)]
    have : zpp (a.drop i) (b.drop i) = [] := by
      apply List.length_eq_zero_iff.1
      rw [zaz, List.length_drop, List.length_drop]; omega
    rw [this, List.append_nil]

theorem zva (N : Nat) (a b out : List UInt8) (i : Int) (k0 : Int -> Option (List UInt8)) (hN : 9 < N) (x y : UInt8) :
    z8a N a b out i ((x.toNat : Nat) : Int) ((y.toNat : Nat) : Int) 0 1 0 k0 = k0 (((x ^^^ y).toNat : Nat) : Int) := by
  unfold z8a
  rw [z2p (I := fun (v : Int × Int × Int × Int × Int) => ∃ (p q n k : Nat), v = ((p : Int), (q : Int), (n : Int), ((2 ^ k : Nat) : Int), (k : Int)) /\ k <= 8 /\ p < 2 ^ (8 - k) /\ q < 2 ^ (8 - k) /\ n < 2 ^ k) (m := fun (v : Int × Int × Int × Int × Int) => 8 - v.2.2.2.2.toNat)
    (R := fun (v : Int × Int × Int × Int × Int) => k0 (((v.2.2.1.toNat + v.2.2.2.1.toNat * (v.1.toNat ^^^ v.2.1.toNat) : Nat)) : Int)) ?_ N (((x.toNat : Nat) : Int), ((y.toNat : Nat) : Int), 0, 1, 0) ⟨x.toNat, y.toNat, 0, 0, rfl, by omega, z10s x, z10s y, by omega⟩ (by dsimp only; omega)]
  . simp only [Int.toNat_natCast, UInt8.toNat_xor]
    congr 2; simp
  rintro v r ⟨p, q, n, k, rfl, hk, hp, hq, hn⟩ hr
  dsimp only at *
  simp only [z86, z89, z88, Int.toNat_natCast]
  by_cases hlt : k < 8
  . have hpk : 2 ^ (8 - k) = 2 * 2 ^ (8 - (k + 1)) := by
      rw [show 8 - k = (8 - (k + 1)) + 1 by omega, Nat.pow_succ, Nat.mul_comm]
    have h2k : 2 ^ (k + 1) = 2 * 2 ^ k := by rw [Nat.pow_succ, Nat.mul_comm]
    have hle : 2 ^ k <= 256 := by
      have : 2 ^ k <= 2 ^ 8 := Nat.pow_le_pow_right (by omega) (by omega)
      simpa using this
    have hle2 : 2 ^ (8 - (k + 1)) <= 256 := by
      have : 2 ^ (8 - (k + 1)) <= 2 ^ 8 := Nat.pow_le_pow_right (by omega) (by omega)
      simpa using this
    have hx := z14b p q
    have hpd : (p : Int).tdiv 2 = ((p / 2 : Nat) : Int) := by rw [Int.tdiv_eq_ediv_of_nonneg (by omega)]; omega
    have hqd : (q : Int).tdiv 2 = ((q / 2 : Nat) : Int) := by rw [Int.tdiv_eq_ediv_of_nonneg (by omega)]; omega
    have hpm : (p : Int).tmod 2 = ((p % 2 : Nat) : Int) := by rw [Int.tmod_eq_emod_of_nonneg (by omega)]; omega
    have hqm : (q : Int).tmod 2 = ((q % 2 : Nat) : Int) := by rw [Int.tmod_eq_emod_of_nonneg (by omega)]; omega
    rw [zg (z17 (by omega)), hpd, hqd, hpm, hqm, z1e (x := ((p / 2 : Nat) : Int)) (by unfold I64; omega), z1e (x := ((q / 2 : Nat) : Int)) (by unfold I64; omega), z1e (x := ((2 ^ k : Nat) : Int) * 2) (by unfold I64; omega), z15 (by omega)]
    have hbit : ((2 ^ k : Nat) : Int) * 2 = ((2 ^ (k + 1) : Nat) : Int) := by rw [h2k]; omega
    rw [hbit]
    by_cases he : p % 2 = q % 2
    . rw [zr (by simp [he]), hr _ ⟨p / 2, q / 2, n, k + 1, rfl, by omega, by omega, by omega, by omega⟩ (by dsimp only; omega)]
      dsimp only
      rw [if_pos he] at hx
      simp only [Int.toNat_natCast]
      rw [hx, h2k]
      congr 2
      rw [Nat.zero_add, Nat.mul_assoc, Nat.mul_left_comm]
    . rw [zg (by simp only [bne_iff_ne, ne_eq]; omega), z1e (x := (n : Int) + ((2 ^ k : Nat) : Int)) (by unfold I64; omega), hr _ ⟨p / 2, q / 2, n + 2 ^ k, k + 1, by simp, by omega, by omega, by omega, by omega⟩ (by dsimp only; omega)]
      dsimp only
      rw [if_neg he] at hx
      have e : ((n : Int) + ((2 ^ k : Nat) : Int)).toNat = n + 2 ^ k := by omega
      simp only [Int.toNat_natCast, e]
      rw [hx, h2k, Nat.mul_add, Nat.mul_one, Nat.mul_assoc, Nat.mul_left_comm, Nat.add_assoc]
  . have : k = 8 := by omega
    subst this
    have hp0 : p = 0 := by simp at hp; exact hp
    have hq0 : q = 0 := by simp at hq; exact hq
    subst hp0; subst hq0
    rw [zr (z3c (by omega))]
    simp

theorem ztl (N : Nat) {a b : List UInt8} (ha : a.length <= 281474976710656) (hN : a.length + 9 < N) : z41 N a b = some (zpp a b) := by
  simp only [z41, zce]
  rw [z2p (I := fun (v : List UInt8 × Int) => v.1.length = v.2.toNat /\ 0 <= v.2 /\ v.2 <= ((min a.length b.length : Nat) : Int)) (m := fun (v : List UInt8 × Int) => a.length - v.2.toNat)
    (R := fun (v : List UInt8 × Int) => some (v.1 ++ zpp (a.drop v.2.toNat) (b.drop v.2.toNat))) ?_ N ([], 0) ⟨by simp, by omega, by dsimp only; omega⟩ (by simp; omega)]
  . simp
  rintro ⟨out, v⟩ r ⟨hl, h0, h1⟩ hr
  dsimp only at *
  obtain ⟨i, rfl⟩ := Int.eq_ofNat_of_zero_le h0
  simp only [z87, z8b, Int.toNat_natCast] at *
  by_cases hlt : i < min a.length b.length
  . have hia : i < a.length := by omega
    have hib : i < b.length := by omega
    rw [zg (z17 (by omega)), zg (z17 (by omega)), zg (zz hia), zg (zz hib), znc, znc, zva _ _ _ _ _ _ (by omega), znb, zqh, zg (z17 (by simp; omega)), z15 (by omega), hr _ ⟨by simp; omega, by omega, by omega⟩ (by dsimp only; omega), z1n a 0 i hia, z1n b 0 i hib]
    simp only [Int.toNat_natCast, List.append_assoc]
    rfl
  . have hi : i = min a.length b.length := by omega
    have e1 : ∀ (X Y : Option (List UInt8)), cond (decide ((i : Int) < ((a.length : Nat) : Int))) (cond (decide ((i : Int) < ((b.length : Nat) : Int))) X Y) Y = Y := by
      intro X Y
      by_cases h1 : i < a.length
      . rw [zg (z17 (by omega)), zr (z3c (by omega))]
      . rw [zr (z3c (by omega))]
    rw [e1]
    have : zpp (a.drop i) (b.drop i) = [] := by
      apply List.length_eq_zero_iff.1
      rw [zaz, List.length_drop, List.length_drop]; omega
    rw [this, List.append_nil]

def padL (s : List UInt8) (n : Int) : List UInt8 := s ++ List.replicate ((min n 65536).toNat - s.length) 0

theorem zz6 (N : Nat) {s : List UInt8} (hs : s.length <= 9223372036854000000) {n : Int} (hn : I64 n) : z59 N s n = some (padL s n) := by
  have key : ∀ m : Int, min n 65536 = m -> ∀ k0 : Int -> Option (List UInt8), z52 N s n k0 = k0 m := by
    intro m hm k0
    unfold z52
    by_cases h : 65536 < n
    . rw [zg (z17 h)]; congr 1; omega
    . rw [zr (z3c h)]; congr 1; omega
  simp only [z59, padL]
  generalize hm : min n 65536 = m
  rw [key m hm]
  have hm2 : m <= 65536 := by omega
  have hm3 : -9223372036854775808 <= m := by unfold I64 at hn; omega
  by_cases h : m <= s.length
  . rw [zg (z17 h), show m.toNat - s.length = 0 by omega]; simp
  . have hw : IntKind.wrap .i64 (m - ((s.length : Nat) : Int)) = m - ((s.length : Nat) : Int) := z1e (by unfold I64; omega)
    rw [zr (z3c h), hw, zg (z17 ⟨by omega, by omega, by omega, by omega⟩), zg (z17 (by rw [z7w, List.length_replicate]; omega)), z7w]
    congr 3; omega

end
end Go.Proofs.YtkipbccgnekoaaaGreatDoorLg

set_option linter.all false
set_option maxRecDepth 100000
namespace Go.Proofs.YtkipbccgnekoaaaGreatDoorLg
noncomputable section
open Go Go.Lift Go.Proofs.YtkipbccgnekoaaaGreatDoorPx

theorem z14y (k : Nat) {h : List Int} (hh : h.length = 8) : (z10v (k + 100) h).length = 32 := by
  unfold z10v
  rw [zus h 0 hh, z1hs]
  simp only [Option.getD_some, List.length_append, List.length_nil]
  rfl

theorem zb1 (k : Nat) {s : List UInt8} (hk : 600 <= k) (hl : s.length <= 30000) : (z10w (k + 100) s).length = 32 := by
  obtain ⟨_, h⟩ := zw9 k (all := s) (j := 0) hk (by omega) hl
  exact z14y k h

def z144 (N : Nat) (key : List UInt8) : List UInt8 := if 64 < key.length then z10w N key else key
def zvt (N : Nat) (key : List UInt8) : List UInt8 := z144 N key ++ List.replicate (64 - (z144 N key).length) 0
def zvn (N : Nat) (key : List UInt8) (b : UInt8) : List UInt8 := zpp (zvt N key) (List.replicate 64 b)
def zme (N : Nat) (key text : List UInt8) : List UInt8 := zvn N key 54 ++ text
def zoc (N : Nat) (key text : List UInt8) : List UInt8 := zvn N key 92 ++ z10w N (zme N key text)
def zyt (N : Nat) (key text : List UInt8) : List UInt8 := z10w N (zoc N key text)

theorem zvu (k : Nat) {key : List UInt8} (hk : 600 <= k) (hl : key.length <= 30000) : (z144 (k + 100) key).length <= 64 := by
  unfold z144
  by_cases h : 64 < key.length
  . rw [if_pos h, zb1 k hk hl]; omega
  . rw [if_neg h]; omega

theorem zgf (k : Nat) {key : List UInt8} (hk : 600 <= k) (hl : key.length <= 30000) : (zvt (k + 100) key).length = 64 := by
  have := zvu k hk hl
  unfold zvt; rw [List.length_append, List.length_replicate]; omega

theorem zch (k : Nat) {key : List UInt8} (b : UInt8) (hk : 600 <= k) (hl : key.length <= 30000) : (zvn (k + 100) key b).length = 64 := by
  unfold zvn; rw [zaz, zgf k hk hl, List.length_replicate]; rfl

theorem zeo (k : Nat) {key text : List UInt8} (hk : 600 <= k) (hl : key.length <= 30000) : (zme (k + 100) key text).length = 64 + text.length := by
  unfold zme; rw [List.length_append, zch k 54 hk hl]

theorem zk5 (k : Nat) {key text : List UInt8} (hk : 600 <= k) (hl : key.length <= 30000) (ht : text.length <= 29900) : (zoc (k + 100) key text).length = 96 := by
  unfold zoc; rw [List.length_append, zch k 92 hk hl, zb1 k hk (by rw [zeo k hk hl]; omega)]

theorem z38 (k : Nat) {key text : List UInt8} (hk : 600 <= k) (hl : key.length <= 30000) (ht : text.length <= 29900) : (zyt (k + 100) key text).length = 32 :=
  zb1 k hk (by rw [zk5 k hk hl ht]; omega)

theorem z1is (b : UInt8) : zn3 ([b], ((64 : Int), ())) = some (List.replicate 64 b) := by kernel_rfl

theorem zya (k : Nat) {key text : List UInt8} (b : UInt8) (hk : 600 <= k) (hl : key.length = 64) (ht : text.length <= 29900) :
    zav (k + 100) key [b] text = some (z10w (k + 100) (zpp key (List.replicate 64 b) ++ text)) := by
  have hx : (zpp key (List.replicate 64 b)).length = 64 := by rw [zaz, hl, List.length_replicate]; rfl
  unfold zav
  rw [z1is, Option.bind_some, z17f _ (by omega) (by omega), Option.bind_some]
  obtain ⟨h1, e1, m1⟩ := z13s k (s := zpp key (List.replicate 64 b)) hk (zy7 _) (by rw [hx]; simp)
  rw [List.nil_append] at m1
  rw [e1, Option.bind_some]
  dsimp only
  obtain ⟨h2, e2, m2⟩ := z13s k (s := text) hk m1 (by rw [hx]; omega)
  rw [e2, Option.bind_some]
  dsimp only
  rw [z19y k hk m2 (by rw [List.length_append, hx]; omega), Option.bind_some]

theorem z17g (k : Nat) {key text : List UInt8} (hk : 600 <= k) (hl : key.length <= 30000) (ht : text.length <= 29900) :
    zhc (k + 100) key text = some (zyt (k + 100) key text) := by
  have h1 : ∀ k0 : List UInt8 -> Option (List UInt8), zeu (k + 100) key text k0 = k0 (z144 (k + 100) key) := by
    intro k0
    unfold zeu z144
    by_cases h : 64 < key.length
    . rw [zg (z17 (by omega)), z1in k hk hl, Option.bind_some, if_pos h]
    . rw [zr (z3c (by omega)), if_neg h]
  unfold zhc
  rw [h1, show (64 : Int) = ((64 : Nat) : Int) from rfl, z11s _ (by omega) (zvu k hk hl), Option.bind_some]
  have h64 := zgf k hk hl
  unfold zvt at h64
  rw [zya k 54 hk h64 ht, Option.bind_some, zya k 92 hk h64 (by
    have := zeo k (text := text) hk hl
    unfold zme zvn zvt at this
    rw [zb1 k hk (by rw [this]; omega)]; omega), Option.bind_some]
  rfl

theorem z11l (k : Nat) {key : List UInt8} (hk : 600 <= k) (hl : key.length <= 30000) : z3z (k + 100) key = some (zvt (k + 100) key) := by
  have h1 : ∀ k0 : List UInt8 -> Option (List UInt8), z4z (k + 100) key k0 = k0 (z144 (k + 100) key) := by
    intro k0
    unfold z4z z144
    by_cases h : 64 < key.length
    . rw [zg (z17 (by omega)), znw k hk hl, Option.bind_some, if_pos h]
    . rw [zr (z3c (by omega)), if_neg h]
  unfold z3z
  have := zvu k hk hl
  rw [h1, zz6 _ (by omega) (by unfold I64; omega), Option.bind_some]
  unfold padL zvt
  rw [show (min (64 : Int) 65536).toNat = 64 from rfl]

theorem z14d (k : Nat) (key : List UInt8) (n : Int) (k0 : List UInt8 -> Option (List UInt8)) : zbi (k + 100) key n [] k0 = k0 (List.replicate 64 (UInt8.ofNat (IntKind.wrap .u8 n).toNat)) := by kernel_rfl

theorem z10o (k : Nat) {key : List UInt8} (n : Int) (hl : key.length = 64) : z3f (k + 100) key n = some (zpp key (List.replicate 64 (UInt8.ofNat (IntKind.wrap .u8 n).toNat))) := by
  unfold z3f
  rw [z14d, ztl _ (by omega) (by omega), Option.bind_some]

theorem w54 : UInt8.ofNat (IntKind.wrap .u8 54).toNat = 54 := by kernel_rfl
theorem w92 : UInt8.ofNat (IntKind.wrap .u8 92).toNat = 92 := by kernel_rfl

theorem ze1 (k : Nat) {key text : List UInt8} (hk : 600 <= k) (hl : key.length <= 30000) (ht : text.length <= 29900) :
    z19 (k + 100) key text = some [zme (k + 100) key text, zoc (k + 100) key text] := by
  have h64 := zgf k hk hl
  have e1 := zeo k (text := text) hk hl
  unfold z19
  rw [z11l k hk hl, Option.bind_some, z10o k 54 h64, w54, Option.bind_some]
  have hm := zch k 54 hk hl
  have hm2 := zch k 92 hk hl
  unfold zme zvn at e1
  unfold zvn at hm hm2
  rw [zg (z17 (by omega)), Option.bind_some, z10o k 92 h64, w92, Option.bind_some, znw k hk (by omega), Option.bind_some]
  rw [zg (z17 (by rw [hm2, zb1 k hk (by omega)]; omega))]
  rfl

theorem ztm (k : Nat) {key text : List UInt8} (hk : 600 <= k) (hl : key.length <= 30000) (ht : text.length <= 29900) :
    z3b (k + 100) key text = some (zyt (k + 100) key text) := by
  unfold z3b
  rw [ze1 k hk hl ht, Option.bind_some, zg (by rfl)]
  show ((z2o (k + 100) (zoc (k + 100) key text)).bind fun y1 => some y1) = _
  rw [znw k hk (by rw [zk5 k hk hl ht]; omega)]; rfl

end
end Go.Proofs.YtkipbccgnekoaaaGreatDoorLg

set_option linter.all false
set_option maxRecDepth 100000
namespace Go.Proofs.YtkipbccgnekoaaaGreatDoorLg
noncomputable section
open Go Go.Lift Go.Proofs.YtkipbccgnekoaaaGreatDoorPx

theorem zrc (n : Nat) : (be8 n).length = 8 := rfl

end
end Go.Proofs.YtkipbccgnekoaaaGreatDoorLg

set_option linter.all false
set_option maxRecDepth 100000
namespace Go.Proofs.YtkipbccgnekoaaaGreatDoorLg
noncomputable section
open Go Go.Lift Go.Proofs.YtkipbccgnekoaaaGreatDoorPx

theorem z15k (N : Nat) {a b : List (List UInt8)} (ha : a.length <= 9223372036854775806) (hN : a.length < N) : z2y N a b = some (a == b) := by
  simp only [z2y, z8c]
  by_cases hl : a.length = b.length
  . rw [zr (by simp [hl]), z2p (I := fun v => 0 <= v /\ v <= ((a.length : Nat) : Int)) (m := fun v => a.length - v.toNat)
      (R := fun v => some (a.drop v.toNat == b.drop v.toNat)) ?_ N 0 ⟨by omega, by omega⟩ (by simpa using hN)]
    . simp
    intro v r ⟨h0, h1⟩ hr
    obtain ⟨i, rfl⟩ := Int.eq_ofNat_of_zero_le h0
    simp only [z4i, Int.toNat_natCast]
    by_cases hlt : i < a.length
    . have hib : i < b.length := by omega
      rw [zg (z17 (by omega)), zg (zz hlt), zg (zz hib), z1n a [] i hlt, z1n b [] i hib]
      by_cases he : a.getD i [] = b.getD i []
      . rw [zr (by rw [he]; simp), z15 (by omega), hr _ ⟨by omega, by omega⟩ (by omega), he]
        simp only [Int.toNat_natCast, List.cons_beq_cons, beq_self_eq_true, Bool.true_and]
      . rw [zg (by rw [Bool.not_eq_true', beq_eq_false_iff_ne]; exact he)]
        simp only [List.cons_beq_cons]
        rw [beq_eq_false_iff_ne.2 he]; rfl
    . rw [zr (z3c (by omega)), z2z a (by omega), z2z b (by omega)]; rfl
  . rw [zg (by simp; omega)]
    have : ¬ a = b := fun e => hl (by rw [e])
    rw [beq_eq_false_iff_ne.2 this]

theorem zv7 (N : Nat) {a b : List UInt8} (ha : a.length <= 100000) (hN : a.length < N) : zbx N a b = some (decide (a.length = 32) && (a == b)) := by
  unfold zbx
  by_cases h1 : a.length = 32
  . rw [zg (by simp [h1])]
    by_cases h2 : b.length = 32
    . rw [zg (by simp [h2]), z169 _ (by omega) hN, Option.bind_some, decide_eq_true h1, Bool.true_and]
    . have hne : (a == b) = false := by
        rw [beq_eq_false_iff_ne]; intro e; subst e; exact h2 h1
      rw [zr (by rw [beq_eq_false_iff_ne]; omega), hne, Bool.and_false]
  . rw [zr (by rw [beq_eq_false_iff_ne]; omega), decide_eq_false h1, Bool.false_and]

theorem z1p3 (k : Nat) {l : List (List UInt8)} (hl : l.length <= 50) (hb : (z1k l).length <= 70368744177664) : zaw (k + 100) l = some (z1k l) :=
  z168 (k + 91) l (by omega) (by omega) hb
theorem zdb (k : Nat) {l : List (List UInt8)} (hl : l.length <= 50) (hb : (z1k l).length <= 70368744177664) : z1d (k + 100) l = some (z1k l) :=
  zvb (k + 91) l (by omega) (by omega) hb

theorem z31 : ∀ l : List (List UInt8), (z1k l).length = 8 * l.length + l.flatten.length
  | [] => rfl
  | p :: l => by
    rw [zp1, List.length_append, List.length_append, zrc, z31 l, List.flatten_cons, List.length_append, List.length_cons]; omega

theorem zec (k : Nat) {key : List UInt8} {l : List (List UInt8)} (hk : 600 <= k) (hl : key.length <= 30000) (h1 : l.length <= 50) (h2 : (z1k l).length <= 29900) :
    z2c (k + 100) key l = some (zyt (k + 100) key (z1k l)) := by
  unfold z2c
  rw [z1p3 k h1 (by omega), Option.bind_some, z17g k hk hl h2]; rfl
theorem z4f (k : Nat) {key : List UInt8} {l : List (List UInt8)} (hk : 600 <= k) (hl : key.length <= 30000) (h1 : l.length <= 50) (h2 : (z1k l).length <= 29900) :
    zy (k + 100) key l = some (zyt (k + 100) key (z1k l)) := by
  unfold zy
  rw [zdb k h1 (by omega), Option.bind_some, ztm k hk hl h2]; rfl


end
end Go.Proofs.YtkipbccgnekoaaaGreatDoorLg

set_option linter.all false
set_option maxRecDepth 100000
namespace Go.Proofs.YtkipbccgnekoaaaGreatDoorLg
noncomputable section
open Go Go.Lift Go.Proofs.YtkipbccgnekoaaaGreatDoorPx

theorem zzg (k : Nat) (n : Int) : z5h (k + 9) n = some (z27 (([56, 48, 40, 32, 24, 16, 8, 0] : List Int).map fun j => IntKind.wrap .u8 (z39 .i64 n j))) := by kernel_rfl

theorem z124 (k : Nat) {n : Nat} (hn : n < 9223372036854775808) : z5h (k + 9) (n : Int) = some (be8 n) := by
  rw [zzg]
  have h1 : IntKind.wrap .u64 ((n : Nat) : Int) = (n : Int) := by
    simp [IntKind.wrap, IntKind.signed, IntKind.bits]; omega
  have h2 : ∀ j, z39 .i64 (n : Int) j = z39 .u64 (n : Int) j := fun j => rfl
  unfold be8
  simp only [h1, h2]

theorem zto (k : Nat) {n : Nat} (hn : n < 9223372036854775808) : z2s (k + 9) (n : Int) = some (be8 n) := by
  have h : z2s (k + 9) (n : Int) = z3g (k + 9) (n : Int) := by kernel_rfl
  rw [h, z12h k n hn]

def z1a5 (nonce : List UInt8) (i : Nat) : List (List UInt8) := [[115, 116, 114, 101, 97, 109], nonce, be8 i]
def zku (N : Nat) (key nonce : List UInt8) (i : Nat) : List UInt8 := zyt N key (z1k (z1a5 nonce i))

theorem zio (nonce : List UInt8) (i : Nat) : (z1k (z1a5 nonce i)).length = 38 + nonce.length := by
  rw [z31]
  simp [z1a5, zrc]; omega

theorem zkt (k : Nat) {key nonce : List UInt8} (i : Nat) (hk : 600 <= k) (hl : key.length <= 30000) (hn : nonce.length <= 1000) : (zku (k + 100) key nonce i).length = 32 :=
  z38 k hk hl (by rw [zio]; omega)

theorem z16p (k : Nat) {key nonce : List UInt8} {i : Nat} (hk : 600 <= k) (hl : key.length <= 30000) (hn : nonce.length <= 1000) (hi : i < 9223372036854775808) : z9a (k + 100) key nonce (i : Int) = some (zku (k + 100) key nonce i) := by
  unfold z9a
  rw [zr (z3c (by omega)), show z5h (k + 100) (i : Int) = some (be8 i) from z124 (k + 91) hi, Option.bind_some]
  rw [show z2c (k + 100) key ([([(115 : UInt8), (116 : UInt8), (114 : UInt8), (101 : UInt8), (97 : UInt8), (109 : UInt8)] : List UInt8), nonce, be8 i] : List (List UInt8)) = _ from zec k (l := z1a5 nonce i) hk hl (by simp [z1a5]) (by rw [zio]; omega)]
  rfl
theorem zvd (k : Nat) {key nonce : List UInt8} {i : Nat} (hk : 600 <= k) (hl : key.length <= 30000) (hn : nonce.length <= 1000) (hi : i < 9223372036854775808) : z3y (k + 100) key nonce (i : Int) = some (zku (k + 100) key nonce i) := by
  unfold z3y
  rw [zr (z3c (by omega)), show z2s (k + 100) (i : Int) = some (be8 i) from zto (k + 91) hi, Option.bind_some]
  rw [show zy (k + 100) key ([([(115 : UInt8), (116 : UInt8), (114 : UInt8), (101 : UInt8), (97 : UInt8), (109 : UInt8)] : List UInt8), nonce, be8 i] : List (List UInt8)) = _ from z4f k (l := z1a5 nonce i) hk hl (by simp [z1a5]) (by rw [zio]; omega)]
  rfl

def zp3 (N : Nat) (key nonce : List UInt8) (m : Nat) : List UInt8 := ((List.range m).map (zku N key nonce)).flatten
def zrh (N : Nat) (key nonce : List UInt8) (n : Nat) : List UInt8 := (zp3 N key nonce ((n + 31) / 32)).take n

theorem zp2 (N : Nat) (key nonce : List UInt8) (m : Nat) : zp3 N key nonce (m + 1) = zp3 N key nonce m ++ zku N key nonce m := by
  unfold zp3
  rw [List.range_succ, List.map_append, List.flatten_append]; simp

theorem zar (k : Nat) {key nonce : List UInt8} (hk : 600 <= k) (hl : key.length <= 30000) (hn : nonce.length <= 1000) : ∀ m, (zp3 (k + 100) key nonce m).length = 32 * m
  | 0 => rfl
  | m + 1 => by rw [zp2, List.length_append, zar k hk hl hn m, zkt k m hk hl hn]; omega

theorem zly (k : Nat) {key nonce : List UInt8} (n : Nat) (hk : 600 <= k) (hl : key.length <= 30000) (hn : nonce.length <= 1000) : (zrh (k + 100) key nonce n).length = n := by
  unfold zrh; rw [List.length_take, zar k hk hl hn]; omega

theorem z13o (k : Nat) {key nonce : List UInt8} {n : Nat} (hk : 600 <= k) (hl : key.length <= 30000) (hn : nonce.length <= 1000) (h : n <= 4096) : z6m (k + 100) (n : Int) key nonce = some ((List.range ((n + 31) / 32)).map fun i => (zku (k + 100) key nonce i, ())) := by
  have hq : IntKind.wrap .i64 (Int.tdiv (IntKind.wrap .i64 ((IntKind.wrap .i64 ((n : Int) + 32)) - 1)) 32) = (((n + 31) / 32 : Nat) : Int) := by
    rw [z1e (x := (n : Int) + 32) (by unfold I64; omega), z1e (x := (n : Int) + 32 - 1) (by unfold I64; omega), show (n : Int) + 32 - 1 = ((n + 31 : Nat) : Int) by omega]
    rw [show Int.tdiv ((n + 31 : Nat) : Int) 32 = (((n + 31) / 32 : Nat) : Int) from rfl, z1e (by unfold I64; omega)]
  unfold z6m zd5
  rw [hq]
  generalize hm : (n + 31) / 32 = m
  have hm2 : m <= 200 := by omega
  have main := z2p (step := fun (v : Int) r => z5i (k + 100) key nonce (m : Int) v (fun x10 => r x10) (some []) (some [])) (I := fun v => ∃ i : Nat, i <= m /\ v = (i : Int)) (m := fun v => m - v.toNat) (R := fun v => some ((List.range' v.toNat (m - v.toNat)).map fun i => (zku (k + 100) key nonce i, ()))) ?_ (k + 100) 0 ⟨0, by omega, rfl⟩ (by first | omega | (dsimp only; omega))
  . refine main.trans ?_
    try dsimp only
    rw [show (0 : Int).toNat = 0 from rfl, Nat.sub_zero, List.range_eq_range']
  rintro v r ⟨i, hi, rfl⟩ hr
  try dsimp only
  rw [Int.toNat_natCast] at hr ⊢
  unfold z5i
  by_cases hlt : i < m
  . rw [zg (z17 (by omega)), z16p k hk hl hn (by omega), Option.bind_some, z15 (by omega)]
    have h2 := hr ((i + 1 : Nat) : Int) ⟨i + 1, by omega, rfl⟩ (by first | omega | (dsimp only; omega))
    try dsimp only
    rw [h2, zgq, Int.toNat_natCast, show m - i = (m - (i + 1)) + 1 by omega, List.range'_succ]
    rfl
  . rw [zr (z3c (by omega)), show m - i = 0 by omega]; rfl

theorem foldB {N : Nat} (ys : List (List UInt8 × Unit)) (k0 : Unit × (List Int × Unit) -> Option (List UInt8)) (h : ((ys.map (·.1)).flatten).length <= 70368744177664) :
    zkb (fun (y : (List UInt8 × Unit)) (v : (Unit × ((List Int) × Unit))) r => (z1f N v y.1).bind fun y1 => r y1.2.1) k0 ys ((), ([], ())) = k0 ((), (z4q (ys.map (·.1)).flatten, ())) := by
  rw [zn7 (fun (v : Unit × (List Int × Unit)) (ys : List (List UInt8 × Unit)) => v.2.1.length + ((ys.map (·.1)).flatten).length <= 70368744177664) (fun v y => ((), (v.2.1 ++ z4q y.1, ()))) (by
    rintro y ys ⟨u, xs, u'⟩ r hI
    cases u; cases u'
    simp only [List.map_cons, List.flatten_cons, List.length_append] at hI
    refine ⟨?_, by simp only [List.length_append, Go.Proofs.YtkipbccgnekoaaaGreatDoorPx.ofStr_length]; omega⟩
    unfold z1f
    rw [zg (decide_eq_true (by rw [Go.Proofs.YtkipbccgnekoaaaGreatDoorPx.ofStr_length]; dsimp only; omega)), Option.bind_some]) _ _ (by simpa using h)]
  have hf := zyg ys []
  have h0 : z4q ([] : List UInt8) = [] := rfl
  rw [h0] at hf
  rw [hf]; rfl

theorem z1io (s : List UInt8) (h : s.length <= 70368744177664) : zv3 (((), (z4q s, ())), ()) = some (s, (((), ((), ())), ())) := by
  unfold zv3
  dsimp only
  rw [zg (by
    rw [Bool.and_eq_true]
    refine ⟨ztt _, decide_eq_true ?_⟩
    rw [Go.Proofs.YtkipbccgnekoaaaGreatDoorPx.ofStr_length]
    exact Nat.le_trans h (by decide))]
  rw [Go.Proofs.YtkipbccgnekoaaaGreatDoorPx.toStr_ofStr]

theorem z19u (k : Nat) {key nonce : List UInt8} {n : Nat} (hk : 600 <= k) (hl : key.length <= 30000) (hn : nonce.length <= 1000) (h : n <= 4096) : zb2 (k + 100) key nonce (n : Int) = some (zrh (k + 100) key nonce n) := by
  unfold zb2
  by_cases h0 : n < 1
  . rw [zg (z17 (by omega)), show n = 0 by omega]; rfl
  rw [zr (z3c (by omega)), if_neg (by omega)]
  unfold zhv z6t zct
  rw [z13o k hk hl hn h, Option.bind_some]
  have hfl := zar k (key := key) (nonce := nonce) hk hl hn ((n + 31) / 32)
  have hmap : ((List.range ((n + 31) / 32)).map fun i => (zku (k + 100) key nonce i, ())).map (·.1) = (List.range ((n + 31) / 32)).map (zku (k + 100) key nonce) := by
    rw [List.map_map]; rfl
  unfold zp3 at hfl
  rw [foldB (N := k + 100) _ _ (by rw [hmap, hfl]; omega), hmap]
  dsimp only
  rw [z1io _ (by rw [hfl]; omega), Option.bind_some]
  rw [zg (z17 (by rw [hfl]; omega)), Int.toNat_natCast, zez]
  rfl

theorem z1kv (k : Nat) {key nonce text : List UInt8} (hk : 600 <= k) (hl : key.length <= 30000) (hn : nonce.length <= 1000) (h : text.length <= 4096) (hkt : text.length < k) : zd6 (k + 100) key nonce text = some (zpp text (zrh (k + 100) key nonce text.length)) := by
  unfold zd6
  rw [zr (z3c (by omega)), z19u k hk hl hn h, Option.bind_some, z17f _ (by omega) (by omega)]; rfl

theorem zz4 (k : Nat) {key nonce : List UInt8} {n : Nat} (hk : 600 <= k) (hl : key.length <= 30000) (hn : nonce.length <= 1000) (h : n <= 4096) : z4o (k + 100) key nonce (n : Int) = some (zrh (k + 100) key nonce n) := by
  unfold z4o z7a
  rw [zr (z3c (by omega))]
  dsimp only
  unfold zbg
  have hfl := zar k (key := key) (nonce := nonce) hk hl hn
  rw [z2p (I := fun (v : List UInt8 × Int) => ∃ i : Nat, i <= (n + 31) / 32 /\ v = (zp3 (k + 100) key nonce i, (i : Int))) (m := fun v => 200 - v.2.toNat) (R := fun _ => some (zrh (k + 100) key nonce n)) ?_ (k + 100) ([], 0) ⟨0, by omega, rfl⟩ (by dsimp only; omega)]
  rintro v r ⟨i, hi, rfl⟩ hr
  dsimp only at hr ⊢
  unfold z79
  by_cases hlt : 32 * i < n
  . rw [zg (z17 (by rw [hfl]; omega)), zvd k hk hl hn (by omega), Option.bind_some, zg (z17 (by rw [hfl, zkt k i hk hl hn]; omega)), z15 (by omega), <- zp2]
    exact hr _ ⟨i + 1, by omega, rfl⟩ (by dsimp only; omega)
  . rw [zr (z3c (by rw [hfl]; omega))]
    have : i = (n + 31) / 32 := by omega
    dsimp only
    by_cases h0 : n < 1
    . rw [zg (z17 (by omega)), show n = 0 by omega]; rfl
    . rw [zr (z3c (by omega)), zg (z17 (by rw [hfl]; omega)), Int.toNat_natCast, zez, this]; rfl

theorem ztp (k : Nat) {key nonce text : List UInt8} (hk : 600 <= k) (hl : key.length <= 30000) (hn : nonce.length <= 1000) (h : text.length <= 4096) (hkt : text.length < k) : z2l (k + 100) key nonce text = some (zpp text (zrh (k + 100) key nonce text.length)) := by
  unfold z2l
  rw [zr (z3c (by omega)), zz4 k hk hl hn h, Option.bind_some, ztl _ (by omega) (by omega)]; rfl


end
end Go.Proofs.YtkipbccgnekoaaaGreatDoorLg

set_option linter.all false
set_option maxRecDepth 100000
namespace Go.Proofs.YtkipbccgnekoaaaGreatDoorLg
noncomputable section
open Go Go.Lift Go.Proofs.YtkipbccgnekoaaaGreatDoorPx

def z4y (N : Nat) (key s : List UInt8) : List (List UInt8) := [zme N key s, zoc N key s]
def zw1 (N : Nat) (key : List UInt8) : List UInt8 := zyt N key (z1k [[104, 105, 100, 101]])
def z19x (N : Nat) (key : List UInt8) : List UInt8 := zyt N key (z1k [[116, 97, 103]])
def zpa (N : Nat) (key body : List UInt8) : List UInt8 := zyt N (z19x N key) body
def zi7 (N : Nat) (key nonce text : List UInt8) : List UInt8 := zpp text (zrh N (zw1 N key) nonce text.length)
def zmy (N : Nat) (key nonce text : List UInt8) : List UInt8 := nonce ++ zi7 N key nonce text
def z119 (N : Nat) (key nonce text : List UInt8) : List UInt8 := zmy N key nonce text ++ zpa N key (zmy N key nonce text)

theorem zkh : (z1k [[104, 105, 100, 101]]).length = 12 := by rw [z31]; rfl
theorem zh3 : (z1k [[116, 97, 103]]).length = 11 := by rw [z31]; rfl

theorem z9r (k : Nat) {key : List UInt8} (hk : 600 <= k) (hl : key.length <= 30000) : (zw1 (k + 100) key).length = 32 := z38 k hk hl (by rw [zkh]; omega)
theorem ze2 (k : Nat) {key : List UInt8} (hk : 600 <= k) (hl : key.length <= 30000) : (z19x (k + 100) key).length = 32 := z38 k hk hl (by rw [zh3]; omega)
theorem zsm (k : Nat) {key body : List UInt8} (hk : 600 <= k) (hl : key.length <= 30000) (hb : body.length <= 29900) : (zpa (k + 100) key body).length = 32 := z38 k hk (by rw [ze2 k hk hl]; omega) hb
theorem zaq (k : Nat) {key nonce text : List UInt8} (hk : 600 <= k) (hl : key.length <= 30000) (hn : nonce.length <= 1000) : (zi7 (k + 100) key nonce text).length = text.length := by
  unfold zi7; rw [zaz, zly k _ hk (by rw [z9r k hk hl]; omega) hn, Nat.min_self]
theorem zw2 (k : Nat) {key nonce text : List UInt8} (hk : 600 <= k) (hl : key.length <= 30000) (hn : nonce.length <= 1000) : zi7 (k + 100) key nonce (zi7 (k + 100) key nonce text) = text := by
  have h := zaq k (text := text) hk hl hn
  have ht := zly k (key := zw1 (k + 100) key) (nonce := nonce) text.length hk (by rw [z9r k hk hl]; omega) hn
  show zpp (zi7 (k + 100) key nonce text) (zrh (k + 100) (zw1 (k + 100) key) nonce (zi7 (k + 100) key nonce text).length) = text
  rw [h]
  unfold zi7
  rw [zsy, ht, Nat.min_self, List.take_length]
theorem zuo (k : Nat) {key nonce text : List UInt8} (hk : 600 <= k) (hl : key.length <= 30000) (hn : nonce.length = 16) : (zmy (k + 100) key nonce text).length = 16 + text.length := by
  unfold zmy; rw [List.length_append, zaq k hk hl (by omega), hn]
theorem zzw (k : Nat) {key : List UInt8} (hk : 600 <= k) (hl : key.length <= 30000) : zc2 (k + 100) key = some (zw1 (k + 100) key) := by
  unfold zc2
  rw [zec k hk hl (by simp) (by rw [zkh]; omega)]; rfl
theorem z13j (k : Nat) {key body : List UInt8} (hk : 600 <= k) (hl : key.length <= 30000) (hb : body.length <= 29900) : zp9 (k + 100) key body = some (zpa (k + 100) key body) := by
  unfold zp9
  rw [zec k hk hl (by simp) (by rw [zh3]; omega), Option.bind_some, z17g k hk (by have := ze2 k hk hl; unfold z19x at this; rw [this]; omega) hb]; rfl

theorem zz5 (k : Nat) {key nonce text : List UInt8} (hk : 4400 <= k) (hl : key.length <= 30000) (hn : nonce.length = 16) (ht : text.length <= 4096) : z3e (k + 100) key nonce text = some (z119 (k + 100) key nonce text, 0, ()) := by
  have h1 := zaq k (key := key) (nonce := nonce) (text := text) (by omega) hl (by omega)
  have h2 := zuo k (key := key) (nonce := nonce) (text := text) (by omega) hl hn
  have h3 := zsm k (key := key) (body := zmy (k + 100) key nonce text) (by omega) hl (by omega)
  have h4 := ze2 k (key := key) (by omega) hl
  unfold z3e
  rw [zr (by simp [hn]), zr (z3c (by omega)), z4f k (by omega) hl (by simp) (by rw [zkh]; omega), Option.bind_some]
  show ((z2l (k + 100) (zw1 (k + 100) key) nonce text).bind _) = _
  rw [ztp k (by omega) (by rw [z9r k (by omega) hl]; omega) (by omega) ht (by omega), Option.bind_some, z4f k (by omega) hl (by simp) (by rw [zh3]; omega), Option.bind_some]
  show cond (decide (nonce.length + (zi7 (k + 100) key nonce text).length <= 9223372036854775807)) ((z3b (k + 100) (z19x (k + 100) key) (zmy (k + 100) key nonce text)).bind fun y2 => cond (decide ((zmy (k + 100) key nonce text).length + y2.length <= 9223372036854775807)) (some ((zmy (k + 100) key nonce text) ++ y2, ((0 : Int), ()))) none) none = _
  rw [zg (z17 (by omega)), ztm k (by omega) (by omega) (by omega), Option.bind_some]
  show cond (decide ((zmy (k + 100) key nonce text).length + (zpa (k + 100) key (zmy (k + 100) key nonce text)).length <= 9223372036854775807)) _ _ = _
  rw [zg (z17 (by omega))]
  rfl

def z10k (N : Nat) (key s : List UInt8) : Bool := s.drop (s.length - 32) == zpa N key (s.take (s.length - 32))
def zmv (N : Nat) (key s : List UInt8) : List UInt8 := zi7 N key (s.take 16) ((s.take (s.length - 32)).drop 16)

theorem wlen {s : List UInt8} (h : 48 <= s.length) (h2 : s.length <= 5000) : IntKind.wrap .i64 ((s.length : Int) - 32) = ((s.length - 32 : Nat) : Int) := by
  rw [z1e (by unfold I64; omega)]; omega

theorem z16d (k : Nat) {key s : List UInt8} (hk : 4400 <= k) (hl : key.length <= 30000) (h1 : 48 <= s.length) (h2 : s.length <= 4144) : z6s (k + 100) key s = some (cond (z10k (k + 100) key s) 0 8) := by
  have hd : (s.drop (s.length - 32)).length = 32 := by rw [List.length_drop]; omega
  unfold z6s
  rw [zr (z3c (by omega)), zr (z3c (by omega)), wlen h1 (by omega), zg (z17 (by omega)), zg (z17 (by omega)), Int.toNat_natCast, zez, z13j k (by omega) hl (by rw [List.length_take]; omega), Option.bind_some, z137, zv7 _ (by omega) (by omega), Option.bind_some, hd]
  show cond (!(decide ((32 : Nat) = 32) && z10k (k + 100) key s)) (some 8) (some 0) = _
  cases z10k (k + 100) key s <;> rfl

theorem z120 (k : Nat) {key s : List UInt8} (hk : 4400 <= k) (hl : key.length <= 30000) (h1 : 48 <= s.length) (h2 : s.length <= 4144) : z8k (k + 100) key s = some (cond (z10k (k + 100) key s) (zmv (k + 100) key s, 0, ()) ([], 8, ())) := by
  unfold z8k
  rw [z16d k hk hl h1 (by omega), Option.bind_some]
  cases hf : z10k (k + 100) key s with
  | false => rfl
  | true =>
    have hm : (cut s 16 (s.length - 32)).length <= 4096 := by unfold cut; rw [List.length_drop, List.length_take]; omega
    unfold zdw
    rw [show cond true (0 : Int) 8 = 0 from rfl, zg (by rfl), zzw k (by omega) hl, Option.bind_some]
    have hn : zgu (k + 100) s = some (s.take 16) := by
      unfold zgu
      rw [zr (z3c (by omega)), zg (z17 (by omega)), zez]
    rw [hn, Option.bind_some, wlen h1 (by omega), zg (z17 (by omega)), zg (z17 (by omega)), Int.toNat_natCast, z1kv k (by omega) (by rw [z9r k (by omega) hl]; omega) (by rw [List.length_take]; omega) hm (by omega), Option.bind_some, Option.bind_some]
    rfl

theorem zzf (N : Nat) {key s : List UInt8} (h1 : s.length < 48) : z8k N key s = some ([], 1, ()) /\ z1p N key s = some ([], 1, ()) := by
  have e : decide ((((List.length s) : Nat) : Int) < (48 : Int)) = true := z17 (by omega)
  unfold z8k z6s z1p
  simp only [e, cond_true]
  exact ⟨rfl, trivial⟩
theorem z11z (N : Nat) {key s : List UInt8} (h1 : 4144 < s.length) : z8k N key s = some ([], 3, ()) /\ z1p N key s = some ([], 3, ()) := by
  have e : decide ((((List.length s) : Nat) : Int) < (48 : Int)) = false := z3c (by omega)
  have e2 : decide ((4144 : Int) < (((List.length s) : Nat) : Int)) = true := z17 (by omega)
  unfold z8k z6s z1p
  simp only [e, e2, cond_true, cond_false]
  exact ⟨rfl, trivial⟩

theorem z1iu {s : List UInt8} (h : 48 <= s.length) : s.take 16 ++ (s.take (s.length - 32)).drop 16 = s.take (s.length - 32) := by
  have : s.take 16 = (s.take (s.length - 32)).take 16 := by rw [List.take_take, Nat.min_eq_left (by omega)]
  rw [this, List.take_append_drop]

theorem z1pi (k : Nat) {key s : List UInt8} (hk : 4400 <= k) (hl : key.length <= 30000) (h1 : 48 <= s.length) (h2 : s.length <= 4144) : z119 (k + 100) key (s.take 16) (zmv (k + 100) key s) = s.take (s.length - 32) ++ zpa (k + 100) key (s.take (s.length - 32)) := by
  have hb : zmy (k + 100) key (s.take 16) (zmv (k + 100) key s) = s.take (s.length - 32) := by
    unfold zmy zmv
    rw [zw2 k (by omega) hl (by rw [List.length_take]; omega), z1iu h1]
  unfold z119
  rw [hb]

theorem z10e (k : Nat) {key s : List UInt8} (hk : 4400 <= k) (hl : key.length <= 30000) (h1 : 48 <= s.length) (h2 : s.length <= 4144) : (z119 (k + 100) key (s.take 16) (zmv (k + 100) key s) == s) = z10k (k + 100) key s := by
  rw [z1pi k hk hl h1 h2, Bool.eq_iff_iff, beq_iff_eq]
  unfold z10k
  rw [beq_iff_eq]
  constructor
  . intro h
    have h3 : s.take (s.length - 32) ++ zpa (k + 100) key (s.take (s.length - 32)) = s.take (s.length - 32) ++ s.drop (s.length - 32) := by rw [h, List.take_append_drop]
    exact (List.append_cancel_left h3).symm
  . intro h; rw [<- h, List.take_append_drop]

theorem zm6 (k : Nat) {key s : List UInt8} (hk : 600 <= k) (hl : key.length <= 30000) (h1 : 48 <= s.length) : (zmv (k + 100) key s).length = s.length - 48 := by
  unfold zmv
  rw [zaq k hk hl (by rw [List.length_take]; omega), List.length_drop, List.length_take]; omega

theorem zqq (k : Nat) {key s : List UInt8} (hk : 4400 <= k) (hl : key.length <= 30000) (h1 : 48 <= s.length) (h2 : s.length <= 4144) : z1p (k + 100) key s = some (cond (z10k (k + 100) key s) (zmv (k + 100) key s, 0, ()) ([], 8, ())) := by
  have hm : (cut s 16 (s.length - 32)).length <= 4096 := by unfold cut; rw [List.length_drop, List.length_take]; omega
  have ho := zm6 k (key := key) (s := s) (by omega) hl h1
  have h16 : (s.take 16).length = 16 := by rw [List.length_take]; omega
  unfold z1p
  rw [zr (z3c (by omega)), zr (z3c (by omega)), z4f k (by omega) hl (by simp) (by rw [zkh]; omega), Option.bind_some, wlen h1 (by omega), zg (z17 (by omega)), zg (z17 (by omega)), zg (z17 (by omega)), Int.toNat_natCast, zez s 16]
  show ((z2l (k + 100) (zw1 (k + 100) key) (s.take 16) (cut s 16 (s.length - 32))).bind _) = _
  rw [ztp k (by omega) (by rw [z9r k (by omega) hl]; omega) (by omega) hm (by omega), Option.bind_some, zg (z17 (by omega))]
  show ((z3e (k + 100) key (s.take 16) (zmv (k + 100) key s)).bind fun y2 => cond (!(y2.1 == s)) (some (([] : List UInt8), ((8 : Int), ()))) (some (zmv (k + 100) key s, ((0 : Int), ())))) = _
  rw [zz5 k hk hl h16 (by omega), Option.bind_some]
  show cond (!(z119 (k + 100) key (s.take 16) (zmv (k + 100) key s) == s)) _ _ = _
  rw [z10e k hk hl h1 h2]
  cases z10k (k + 100) key s <;> rfl


end
end Go.Proofs.YtkipbccgnekoaaaGreatDoorLg

set_option linter.all false
set_option maxRecDepth 100000
namespace Go.Proofs.YtkipbccgnekoaaaGreatDoorLg
noncomputable section
open Go Go.Lift Go.Proofs.YtkipbccgnekoaaaGreatDoorPx

abbrev Lk : Type := List UInt8 × List UInt8 × Unit
abbrev Tk : Type := List UInt8 × List Lk × List UInt8 × Unit

def za0 (l : Lk) : List (List UInt8) := cond (l.2.1 == ([] : List UInt8)) [[102, 105, 114, 115, 116], l.1] [[116, 104, 105, 114, 100], l.2.1, l.1]
def z2f (id : List UInt8) : List (List UInt8) := [[114, 111, 111, 116], id]
def zk9 (N : Nat) (t : List UInt8) (l : Lk) : List UInt8 := zyt N t (z1k (za0 l))
def z5l (N : Nat) (key id : List UInt8) : List UInt8 := zyt N key (z1k (z2f id))
def z8d (N : Nat) (t : List UInt8) (ls : List Lk) : List UInt8 := ls.foldl (zk9 N) t
def zal (N : Nat) : List UInt8 -> List Lk -> List (List UInt8)
  | t, [] => [t]
  | t, l :: ls => t :: zal N (zk9 N t l) ls

def zhh (l : Lk) : Prop := l.1.length <= 4200 /\ l.2.1.length <= 4200

theorem z9p {l : Lk} (h : zhh l) : (z1k (za0 l)).length <= 8500 /\ (za0 l).length <= 3 := by
  unfold zhh at h
  unfold za0
  cases l.2.1 == ([] : List UInt8) with
  | true => rw [cond_true, z31]; simp; omega
  | false => rw [cond_false, z31]; simp; omega

theorem z57 {id : List UInt8} : (z1k (z2f id)).length = 20 + id.length := by
  rw [z31]; simp [z2f]; omega

theorem z3j (N : Nat) : ∀ (ls : List Lk) (t : List UInt8), (zal N t ls).length = ls.length + 1
  | [], t => rfl
  | l :: ls, t => by rw [zal, List.length_cons, z3j N ls, List.length_cons]

theorem zl3 (N : Nat) : ∀ (ls : List Lk) (t : List UInt8), (zal N t ls).getD ls.length [] = z8d N t ls
  | [], t => rfl
  | l :: ls, t => by
    show (zal N (zk9 N t l) ls).getD ls.length [] = _
    rw [zl3 N ls]; rfl

theorem zcg (k : Nat) {t : List UInt8} {l : Lk} (hk : 600 <= k) (ht : t.length <= 30000) (hl : zhh l) : (zk9 (k + 100) t l).length = 32 := by
  have := z9p hl
  exact z38 k hk ht (by omega)

theorem z9q (k : Nat) (hk : 600 <= k) : ∀ (ls : List Lk) {t : List UInt8}, t.length = 32 -> (∀ l ∈ ls, zhh l) -> (z8d (k + 100) t ls).length = 32
  | [], t, ht, _ => ht
  | l :: ls, t, ht, h => z9q k hk ls (zcg k hk (by omega) (h l (by simp))) (fun x hx => h x (by simp [hx]))

theorem z12o (N : Nat) (t : List UInt8) : z8d N t [] = t := rfl
theorem zzn (N : Nat) (t : List UInt8) (l : Lk) (ls : List Lk) : z8d N t (l :: ls) = z8d N (zk9 N t l) ls := rfl
theorem zzm (N : Nat) (t : List UInt8) (ls : List Lk) (l : Lk) : z8d N t (ls ++ [l]) = zk9 N (z8d N t ls) l := by
  unfold z8d; rw [List.foldl_append]; rfl

theorem z1a8 (k : Nat) {key id : List UInt8} (hk : 600 <= k) (hl : key.length <= 30000) (hi : id.length <= 8000) : zay (k + 100) key id = some (z5l (k + 100) key id) := by
  unfold zay
  rw [show z2c (k + 100) key [[114, 111, 111, 116], id] = some (z5l (k + 100) key id) from zec k (l := z2f id) hk hl (by simp [z2f]) (by rw [z57]; omega)]
  rfl

theorem z1aw (k : Nat) {t : List UInt8} {l : Lk} (hk : 600 <= k) (ht : t.length <= 30000) (hl : zhh l) : z4v (k + 100) t l = some (zk9 (k + 100) t l) := by
  have hp := z9p hl
  unfold z4v
  have h := zec k (key := t) (l := za0 l) hk ht (by omega) (by omega)
  unfold zk9
  unfold za0 at h ⊢
  cases hc : l.2.1 == ([] : List UInt8) with
  | true => rw [hc, cond_true] at h; rw [cond_true, cond_true, h]; rfl
  | false => rw [hc, cond_false] at h; rw [cond_false, cond_false, h]; rfl

theorem z16u (k : Nat) {t : List UInt8} {ls : List Lk} (hk : 600 <= k) (ht : t.length = 32) (hn : ls.length <= 500) (hl : ∀ l ∈ ls, zhh l) : z9u (k + 100) t ls () = some ((zal (k + 100) t ls).map fun x => (x, ())) := by
  have key : ∀ (d i : Nat) (u : List UInt8), i + d = ls.length -> u.length = 32 -> ∀ n, d < n →
      iter (fun (v : List UInt8 × Int) r => z5d (k + 100) () ls ((ls.length : Nat) : Int) v.1 v.2 (fun t x15 => r (t, x15)) (some []) (some [])) n (u, (i : Int)) = some ((zal (k + 100) u (ls.drop i)).tail.map fun x => (x, ())) := by
    intro d
    induction d with
    | zero =>
      intro i u hi hu n hn
      obtain ⟨n, rfl⟩ : ∃ m, n = m + 1 := ⟨n - 1, by omega⟩
      simp only [iter]
      unfold z5d
      rw [zr (z3c (by omega)), z2z ls (by omega)]; rfl
    | succ d ih =>
      intro i u hi hu n hn
      obtain ⟨n, rfl⟩ : ∃ m, n = m + 1 := ⟨n - 1, by omega⟩
      have hlt : i < ls.length := by omega
      have hs := hl _ (zs6 ls ([], [], ()) i hlt)
      have h2 := ih (i + 1) (zk9 (k + 100) u (ls.getD i ([], [], ()))) (by omega) (zcg k hk (by omega) hs) n (by omega)
      simp only [iter]
      unfold z5d at h2 ⊢
      rw [zg (z17 (by omega)), zg (zz hlt), Int.toNat_natCast, z1aw k hk (by omega) hs, Option.bind_some, z15 (by omega)]
      dsimp only
      rw [h2, zgq, z1n ls ([], [], ()) i hlt]
      cases hd : ls.drop (i + 1) <;> rfl
  unfold z9u zgs
  rw [show (0 : Int) = ((0 : Nat) : Int) from rfl, key ls.length 0 t (by omega) ht (k + 100) (by omega), zgq, List.drop_zero]
  cases ls <;> rfl

theorem z19w (k : Nat) {key : List UInt8} {t : Tk} (hk : 600 <= k) (hl : key.length <= 30000) (hi : t.1.length <= 8000) (hn : t.2.1.length <= 100) (hs : ∀ l ∈ t.2.1, zhh l) : zdt (k + 100) key t = some (zal (k + 100) (z5l (k + 100) key t.1) t.2.1) := by
  have hr : (z5l (k + 100) key t.1).length = 32 := z38 k (key := key) (text := z1k (z2f t.1)) hk hl (by rw [z57]; omega)
  have hw : IntKind.wrap .i64 ((1 : Int) + ((t.2.1.length : Nat) : Int)) = ((1 + t.2.1.length : Nat) : Int) := by rw [z1e (by unfold I64; omega)]; omega
  unfold zdt
  rw [hw, zg (z17 ⟨by omega, by omega, by omega, by omega⟩), z1a8 k hk hl hi, Option.bind_some]
  unfold zkm z8j
  dsimp only
  rw [z16u k hk hr (by omega) hs, Option.bind_some]
  rw [zn7 (fun (v : List (List UInt8)) (ys : List (List UInt8 × Unit)) => v.length + ys.length <= 1000) (fun v y => v ++ [y.1]) (by
    intro y ys v r hI
    rw [List.length_cons] at hI
    refine ⟨?_, by rw [List.length_append, List.length_singleton]; omega⟩
    unfold zf0
    rw [zg (z17 (by omega))]) _ _ (by rw [List.length_map, z3j, List.length_nil]; omega)]
  have : ∀ (ys : List (List UInt8)) (a : List (List UInt8)), (ys.map fun x => (x, ())).foldl (fun v (y : List UInt8 × Unit) => v ++ [y.1]) a = a ++ ys := by
    intro ys
    induction ys with
    | nil => intro a; simp
    | cons y ys ih => intro a; rw [List.map_cons, List.foldl_cons, ih]; simp
  rw [this]; rfl

theorem zxz (N : Nat) (l : Lk) : z24 N l = some (za0 l) := by
  unfold z24 za0
  cases l.2.1 == ([] : List UInt8) <;> rfl

theorem zz8 (k : Nat) {t : List UInt8} {l : Lk} (hk : 600 <= k) (ht : t.length <= 30000) (hl : zhh l) : zy (k + 100) t (za0 l) = some (zk9 (k + 100) t l) := by
  have hp := z9p hl
  unfold zk9
  exact z4f k hk ht (by omega) (by omega)

theorem zl8 (k : Nat) {key : List UInt8} {t : Tk} (hk : 600 <= k) (hl : key.length <= 30000) (hi : t.1.length <= 8000) (hn : t.2.1.length <= 100) (hs : ∀ l ∈ t.2.1, zhh l) : z2u (k + 100) key t = some (zal (k + 100) (z5l (k + 100) key t.1) t.2.1) := by
  have hr : (z5l (k + 100) key t.1).length = 32 := z38 k (key := key) (text := z1k (z2f t.1)) hk hl (by rw [z57]; omega)
  unfold z2u
  rw [show zy (k + 100) key [[114, 111, 111, 116], t.1] = some (z5l (k + 100) key t.1) from z4f k (l := z2f t.1) hk hl (by simp [z2f]) (by rw [z57]; omega), Option.bind_some]
  unfold zbe
  generalize z5l (k + 100) key t.1 = root at hr ⊢
  rw [z2p (I := fun (v : List UInt8 × List (List UInt8) × Int) => ∃ i : Nat, i <= t.2.1.length /\ v.2.2 = (i : Int) /\ v.1.length = 32 /\ v.2.1.length <= 200 + i) (m := fun v => t.2.1.length - v.2.2.toNat) (R := fun v => some (v.2.1 ++ (zal (k + 100) v.1 (t.2.1.drop v.2.2.toNat)).tail)) ?_ (k + 100) (root, [root], 0) ⟨0, by omega, rfl, hr, by dsimp only; rw [List.length_singleton]; omega⟩ (by dsimp only; omega)]
  . dsimp only
    rw [show (0 : Int).toNat = 0 from rfl, List.drop_zero]
    cases t.2.1 <;> rfl
  rintro ⟨u, out, z⟩ r ⟨i, hi2, e, hu, ho⟩ hr2
  dsimp only at e hu ho hr2 ⊢
  subst e
  rw [Int.toNat_natCast] at hr2 ⊢
  unfold z78
  by_cases hlt : i < t.2.1.length
  . have hsm := hs _ (zs6 t.2.1 ([], [], ()) i hlt)
    have hp := z9p hsm
    have hnx := zcg k (t := u) hk (by omega) hsm
    rw [zg (z17 (by omega)), zg (zz hlt), Int.toNat_natCast, zxz, Option.bind_some, zz8 k hk (by omega) hsm, Option.bind_some, zg (z17 (by omega)), z15 (by omega)]
    generalize hge : zk9 (k + 100) u (t.2.1.getD i ([], [], ())) = nx at hnx ⊢
    refine (hr2 (nx, out ++ [nx], ((i + 1 : Nat) : Int)) ⟨i + 1, by omega, rfl, hnx, by simp; omega⟩ (by dsimp only; omega)).trans ?_
    dsimp only
    rw [Int.toNat_natCast, z1n t.2.1 ([], [], ()) i hlt, List.append_assoc, zal, hge]
    cases t.2.1.drop (i + 1) <;> rfl
  . rw [zr (z3c (by omega)), z2z t.2.1 (by omega)]; simp [zal]

def zbu (N : Nat) : List UInt8 -> List Lk -> List (List UInt8)
  | _, [] => []
  | t, l :: ls => z4y N t (z1k (za0 l)) ++ zbu N (zk9 N t l) ls
def zht (N : Nat) (key id : List UInt8) (ls : List Lk) : List (List UInt8) := z4y N key (z1k (z2f id)) ++ zbu N (z5l N key id) ls

theorem z6u (N : Nat) : ∀ (ls : List Lk) (t : List UInt8), (zbu N t ls).length = 2 * ls.length
  | [], t => rfl
  | l :: ls, t => by rw [zbu, List.length_append, z6u N ls, List.length_cons]; simp [z4y]; omega

theorem zm4 (k : Nat) {key : List UInt8} {t : Tk} (hk : 600 <= k) (hl : key.length <= 30000) (hi : t.1.length <= 8000) (hn : t.2.1.length <= 100) (hs : ∀ l ∈ t.2.1, zhh l) : z34 (k + 100) key t = some (zht (k + 100) key t.1 t.2.1) := by
  have hr : (z5l (k + 100) key t.1).length = 32 := z38 k (key := key) (text := z1k (z2f t.1)) hk hl (by rw [z57]; omega)
  unfold z34
  rw [zl8 k hk hl hi hn hs, Option.bind_some, show z1d (k + 100) [[114, 111, 111, 116], t.1] = some (z1k (z2f t.1)) from zdb k (l := z2f t.1) (by simp [z2f]) (by rw [z57]; omega), Option.bind_some, ze1 k hk hl (by rw [z57]; omega), Option.bind_some]
  unfold zaa
  have htl := z3j (k + 100) t.2.1 (z5l (k + 100) key t.1)
  have hT0 : (z4y (k + 100) key (z1k (z2f t.1))).length = 2 := by unfold z4y; rfl
  unfold zht
  change (iter _ _ (z4y (k + 100) key (z1k (z2f t.1)), (0 : Int))) = _
  generalize z4y (k + 100) key (z1k (z2f t.1)) = T0 at hT0 ⊢
  generalize z5l (k + 100) key t.1 = root at hr htl ⊢
  have hget : ∀ (ls : List Lk) (u : List UInt8) (i : Nat), i <= ls.length -> (zal (k + 100) u ls).getD i [] = z8d (k + 100) u (ls.take i) := by
    intro ls
    induction ls with
    | nil => intro u i hi; have : i = 0 := by simpa using hi
             subst this; rfl
    | cons l ls ih =>
      intro u i hi
      cases i with
      | zero => rw [zal, List.getD_cons_zero, List.take_zero, z12o]
      | succ i => rw [zal, List.getD_cons_succ, List.take_succ_cons, zzn]; exact ih (zk9 (k + 100) u l) i (by simpa using hi)
  rw [z2p (I := fun (v : List (List UInt8) × Int) => ∃ i : Nat, i <= t.2.1.length /\ v.2 = (i : Int) /\ v.1.length <= 300 + 2 * i) (m := fun v => t.2.1.length - v.2.toNat) (R := fun v => some (v.1 ++ zbu (k + 100) (z8d (k + 100) (root) (t.2.1.take v.2.toNat)) (t.2.1.drop v.2.toNat))) ?_ (k + 100) (T0, 0) ⟨0, by omega, rfl, by dsimp only; omega⟩ (by dsimp only; omega)]
  . dsimp only
    rw [show (0 : Int).toNat = 0 from rfl, List.drop_zero]; rfl
  rintro ⟨out, z⟩ r ⟨i, hi2, e, ho⟩ hr2
  dsimp only at e ho hr2 ⊢
  subst e
  rw [Int.toNat_natCast] at hr2 ⊢
  unfold z65
  by_cases hlt : i < t.2.1.length
  . have hsm := hs _ (zs6 t.2.1 ([], [], ()) i hlt)
    have hp := z9p hsm
    have hll := z9q k hk (t.2.1.take i) (t := root) hr (fun l hl' => hs l (List.mem_of_mem_take hl'))
    rw [zg (z17 (by omega)), zg (zz (by omega)), zg (zz hlt), Int.toNat_natCast, zxz, Option.bind_some, zdb k (by omega) (by omega), Option.bind_some, hget _ _ _ (by omega), ze1 k hk (by omega) (by omega), Option.bind_some, zg (z17 (by simp; omega)), z15 (by omega)]
    refine (hr2 (out ++ [zme (k + 100) (z8d (k + 100) (root) (t.2.1.take i)) (z1k (za0 (t.2.1.getD i ([], [], ())))), zoc (k + 100) (z8d (k + 100) (root) (t.2.1.take i)) (z1k (za0 (t.2.1.getD i ([], [], ()))))], ((i + 1 : Nat) : Int)) ⟨i + 1, by omega, rfl, by simp; omega⟩ (by dsimp only; omega)).trans ?_
    dsimp only
    rw [Int.toNat_natCast, z1n t.2.1 ([], [], ()) i hlt, zt1 t.2.1 ([], [], ()) i hlt, zzm, zbu, List.append_assoc]
    rfl
  . rw [zr (z3c (by omega)), z2z t.2.1 (by omega)]; simp [zbu]

def Clashes (N : Nat) (A B : List (List UInt8)) : Prop := ∃ p ∈ A, ∃ q ∈ B, p ≠ q /\ z10w N p = z10w N q

theorem Clashes.mono {N : Nat} {A B A' B' : List (List UInt8)} (hA : ∀ p ∈ A, p ∈ A') (hB : ∀ p ∈ B, p ∈ B') : Clashes N A B -> Clashes N A' B'
  | ⟨p, hp, q, hq, h⟩ => ⟨p, hA p hp, q, hB q hq, h⟩

end
end Go.Proofs.YtkipbccgnekoaaaGreatDoorLg

set_option linter.all false
set_option maxRecDepth 100000
namespace Go.Proofs.YtkipbccgnekoaaaGreatDoorLg
noncomputable section
open Go Go.Lift Go.Proofs.YtkipbccgnekoaaaGreatDoorPx

theorem zw4 (k : Nat) {t : Tk} (hk : 600 <= k) : ∃ b, z1t (k + 100) t = some b /\ (b = false -> t.1.length <= 4200 /\ t.2.2.1.length <= 100 /\ t.2.1.length <= 70 /\ ∀ l ∈ t.2.1, zhh l) := by
  unfold z1t z6c z6b
  by_cases h1 : 4200 < t.1.length
  . rw [zg (z17 (by omega))]; exact ⟨true, rfl, fun h => by cases h⟩
  rw [zr (z3c (by omega))]
  by_cases h2 : 100 < t.2.2.1.length
  . rw [zg (z17 (by omega))]; exact ⟨true, rfl, fun h => by cases h⟩
  rw [zr (z3c (by omega))]
  by_cases h3 : 70 < t.2.1.length
  . rw [show decide ((70 : Int) < ((t.2.1.length : Nat) : Int)) = true from z17 (by omega)]; exact ⟨true, rfl, fun h => by cases h⟩
  rw [show decide ((70 : Int) < ((t.2.1.length : Nat) : Int)) = false from z3c (by omega)]
  dsimp only
  rw [cond_false]
  unfold zab
  refine zoo (I := fun (v : Int × Int) => ∃ i a : Nat, i <= t.2.1.length /\ v = ((a : Int), (i : Int)) /\ a <= 8400 * i /\ ∀ j, j < i -> zhh (t.2.1.getD j ([], [], ()))) (m := fun v => t.2.1.length - v.2.toNat) (p := fun o => ∃ b, o = some b /\ (b = false -> t.1.length <= 4200 /\ t.2.2.1.length <= 100 /\ t.2.1.length <= 70 /\ ∀ l ∈ t.2.1, zhh l)) ?_ (k + 100) (0, 0) ⟨0, 0, by omega, rfl, by omega, fun j h => by omega⟩ (by dsimp only; omega)
  rintro v r ⟨i, a, hi, rfl, ha, hs⟩ hr
  dsimp only at hr ⊢
  unfold z67 z6a z69 z68
  by_cases hlt : i < t.2.1.length
  . have hin : inR (i : Int) t.2.1.length = true := zz hlt
    rw [zg (z17 (by omega))]
    simp only [hin, cond_true, Int.toNat_natCast]
    by_cases g1 : 4200 < (t.2.1.getD i ([], [], ())).1.length
    . rw [zg (z17 (by omega))]; exact ⟨true, rfl, fun h => by cases h⟩
    rw [zr (z3c (by omega))]
    by_cases g2 : 4200 < (t.2.1.getD i ([], [], ())).2.1.length
    . rw [show decide ((4200 : Int) < (((t.2.1.getD i ([], [], ())).2.1.length : Nat) : Int)) = true from z17 (by omega)]; exact ⟨true, rfl, fun h => by cases h⟩
    rw [show decide ((4200 : Int) < (((t.2.1.getD i ([], [], ())).2.1.length : Nat) : Int)) = false from z3c (by omega)]
    try dsimp only
    have hw : IntKind.wrap .i64 (IntKind.wrap .i64 ((a : Int) + (((t.2.1.getD i ([], [], ())).1.length : Nat) : Int)) + (((t.2.1.getD i ([], [], ())).2.1.length : Nat) : Int)) = ((a + (t.2.1.getD i ([], [], ())).1.length + (t.2.1.getD i ([], [], ())).2.1.length : Nat) : Int) := by
      rw [z1e (x := (a : Int) + _) (by unfold I64; omega), z1e (by unfold I64; omega)]; omega
    rw [cond_false, hw, z15 (by omega)]
    refine hr _ ⟨i + 1, a + (t.2.1.getD i ([], [], ())).1.length + (t.2.1.getD i ([], [], ())).2.1.length, by omega, rfl, by omega, fun j hj => ?_⟩ (by dsimp only; omega)
    by_cases e : j = i
    . subst e; exact ⟨by omega, by omega⟩
    . exact hs j (by omega)
  . rw [zr (z3c (by omega))]
    refine ⟨_, rfl, fun _ => ⟨by omega, by omega, by omega, fun l hl => ?_⟩⟩
    obtain ⟨j, hj, rfl⟩ := List.mem_iff_getElem.1 hl
    have := hs j (by omega)
    rw [show t.2.1.getD j ([], [], ()) = t.2.1[j] by simp [List.getD, hj]] at this
    exact this

end
end Go.Proofs.YtkipbccgnekoaaaGreatDoorLg

set_option linter.all false
set_option maxRecDepth 100000
namespace Go.Proofs.YtkipbccgnekoaaaGreatDoorLg
noncomputable section
open Go Go.Lift Go.Proofs.YtkipbccgnekoaaaGreatDoorPx

def z10 : Tk := ([], [], [], ())
def z64 (N : Nat) (t : List UInt8) : List UInt8 := zyt N t (z1k [[115, 101, 97, 108]])
def zuq (N : Nat) (t d : List UInt8) : List UInt8 := zyt N t (z1k [[98, 105, 110, 100], d])

theorem zg1 : (z1k [[115, 101, 97, 108]]).length = 12 := by rw [z31]; rfl
theorem zgx (d : List UInt8) : (z1k [[98, 105, 110, 100], d]).length = 20 + d.length := by
  rw [z31]; simp; omega

theorem zcw (k : Nat) {t : List UInt8} (hk : 600 <= k) (ht : t.length <= 30000) : (z64 (k + 100) t).length = 32 := z38 k hk ht (by rw [zg1]; omega)
theorem zup (k : Nat) {t d : List UInt8} (hk : 600 <= k) (ht : t.length <= 30000) (hd : d.length <= 8000) : (zuq (k + 100) t d).length = 32 := z38 k hk ht (by rw [zgx]; omega)

theorem zui (k : Nat) {t : List UInt8} (hk : 600 <= k) (ht : t.length <= 30000) : zdu (k + 100) t = some (z64 (k + 100) t) := by
  rw [zdu, show z2c (k + 100) t [[115, 101, 97, 108]] = some (z64 (k + 100) t) from zec k (l := [[115, 101, 97, 108]]) hk ht (by simp) (by rw [zg1]; omega)]
  rfl
theorem zrs (k : Nat) {t : List UInt8} (hk : 600 <= k) (ht : t.length <= 30000) : zy (k + 100) t [[115, 101, 97, 108]] = some (z64 (k + 100) t) :=
  z4f k (l := [[115, 101, 97, 108]]) hk ht (by simp) (by rw [zg1]; omega)
theorem zuj (k : Nat) {t d : List UInt8} (hk : 600 <= k) (ht : t.length <= 30000) (hd : d.length <= 8000) : zdv (k + 100) t d = some (zuq (k + 100) t d) := by
  rw [zdv, show z2c (k + 100) t [[98, 105, 110, 100], d] = some (zuq (k + 100) t d) from zec k (l := [[98, 105, 110, 100], d]) hk ht (by simp) (by rw [zgx]; omega)]
  rfl
theorem zve (k : Nat) {t d : List UInt8} (hk : 600 <= k) (ht : t.length <= 30000) (hd : d.length <= 8000) : zy (k + 100) t [[98, 105, 110, 100], d] = some (zuq (k + 100) t d) :=
  z4f k (l := [[98, 105, 110, 100], d]) hk ht (by simp) (by rw [zgx]; omega)

end
end Go.Proofs.YtkipbccgnekoaaaGreatDoorLg

set_option linter.all false
set_option maxRecDepth 100000
namespace Go.Proofs.YtkipbccgnekoaaaGreatDoorLg
noncomputable section
open Go Go.Lift Go.Proofs.YtkipbccgnekoaaaGreatDoorPx

abbrev zau : Type := Tk × List Tk × Unit
abbrev ItD : Type := Tk × List (List UInt8)

structure SV where
  used : List Bool
  items : List ItD
  texts : List (List UInt8)
  work : Nat
  summed : List (List UInt8)

theorem z3i {σ β γ : Type} {step : σ -> (σ -> Option β) -> Option β} (I : γ -> σ -> Prop) (m : σ -> Nat) (R : γ -> Option β)
    (h : ∀ g v r, I g v -> (∀ g' v', I g' v' -> m v' < m v -> r v' = R g') -> step v r = R g) : ∀ (n : Nat) (g : γ) (v : σ), I g v -> m v < n -> iter step n v = R g
  | 0, g, v, _, hm => by omega
  | n + 1, g, v, hv, hm => h g v (iter step n) hv fun g' v' hv' hlt => z3i I m R h n g' v' hv' (by omega)

def zpw (N : Nat) (key s : List UInt8) : Option (List UInt8) := if 48 <= s.length /\ s.length <= 4144 /\ z10k N key s = true then some (zmv N key s) else none

def z16h (N : Nat) (key s : List UInt8) : List (List UInt8) := if 48 <= s.length /\ s.length <= 4144 then z4y N key (z1k [[116, 97, 103]]) ++ z4y N (z19x N key) (s.take (s.length - 32)) else []

def zc5 (id : List UInt8) : List Tk -> List Bool -> Nat -> Option Nat
  | t :: ts, u :: us, i => if t.1 = id /\ u = false then some i else zc5 id ts us (i + 1)
  | _, _, _ => none

def za5 (N : Nat) (b : zau) (st : SV) (before : List UInt8) (l : Lk) : SV × Bool :=
  let s1 : SV := { st with work := st.work + 1, summed := st.summed ++ (z4y N before (z1k [[115, 101, 97, 108]]) ++ z16h N (z64 N before) l.2.1) }
  match zpw N (z64 N before) l.2.1 with
  | none => (s1, false)
  | some c => match zc5 l.1 b.2.1 st.used 0 with
    | none => (s1, false)
    | some a =>
      let d := b.2.1.getD a z10
      let tg := zal N (z5l N c d.1) d.2.1
      let last := z8d N (z5l N c d.1) d.2.1
      let s2 : SV := { s1 with used := st.used.set a true, work := st.work + d.2.1.length + 3, summed := s1.summed ++ (zht N c d.1 d.2.1 ++ z4y N b.1.2.2.1 (z1k [[98, 105, 110, 100], last])) }
      if zuq N b.1.2.2.1 last = d.2.2.1 then ({ s2 with items := st.items ++ [(d, tg)] }, true) else (s2, false)

def z3p (N : Nat) (b : zau) : List Lk -> List (List UInt8) -> SV -> SV × Bool
  | [], _, st => (st, true)
  | _ :: _, [], st => (st, false)
  | l :: ls, g :: gs, st => if l.2.1 = [] then z3p N b ls gs { st with texts := st.texts ++ [l.1] } else
    match za5 N b st g l with
    | (s, true) => z3p N b ls gs s
    | (s, false) => (s, false)

def z5a (N : Nat) (b : zau) : Nat -> Nat -> SV -> SV × Bool
  | 0, _, st => (st, false)
  | f + 1, i, st => if i < st.items.length then
      match z3p N b (st.items.getD i (z10, [])).1.2.1 (st.items.getD i (z10, [])).2 st with
      | (s, true) => z5a N b f (i + 1) s
      | (s, false) => (s, false)
    else (st, true)

def z8n (ls : List Lk) : Nat := (ls.filter fun l => !(l.2.1 == [])).length
def zci (its : List ItD) : Nat := (its.map fun x => z8n x.1.2.1).sum
def z16a (t : Tk) : Nat := t.2.1.length + 2 + z8n t.2.1
def z15d : List Tk -> List Bool -> Nat
  | t :: ts, u :: us => (if u then 0 else z16a t) + z15d ts us
  | _, _ => 0
def zsz (us : List Bool) : Nat := (us.filter id).length

theorem zjh (ls : List Lk) : z8n ls <= ls.length := List.length_filter_le ..
theorem zdz (l : Lk) (ls : List Lk) : z8n (l :: ls) = (if l.2.1 = [] then 0 else 1) + z8n ls := by
  unfold z8n
  by_cases h : l.2.1 = []
  . simp [h]
  . simp [h]; omega

theorem zgh (a b : List ItD) : zci (a ++ b) = zci a + zci b := by simp [zci]
theorem zgg (a : ItD) : zci [a] = z8n a.1.2.1 := by simp [zci]

theorem zhd (id : List UInt8) : ∀ (ts : List Tk) (us : List Bool) (i a : Nat), zc5 id ts us i = some a -> i <= a /\ a - i < ts.length /\ a - i < us.length /\ (ts.getD (a - i) z10).1 = id /\ us.getD (a - i) true = false ∧
    z15d ts us = z15d ts (us.set (a - i) true) + z16a (ts.getD (a - i) z10) /\ zsz (us.set (a - i) true) = zsz us + 1
  | [], us, i, a, h => by simp [zc5] at h
  | t :: ts, [], i, a, h => by simp [zc5] at h
  | t :: ts, u :: us, i, a, h => by
    unfold zc5 at h
    split at h
    . rename_i hc
      cases h
      obtain ⟨h1, h2⟩ := hc
      subst h2
      rw [Nat.sub_self]
      refine ⟨Nat.le_refl _, by simp, by simp, h1, rfl, ?_, ?_⟩
      . simp [z15d]; omega
      . simp [zsz]
    . obtain ⟨g1, g2, g3, g4, g5, g6, g7⟩ := zhd id ts us (i + 1) a h
      have e : a - i = (a - (i + 1)) + 1 := by omega
      rw [e]
      refine ⟨by omega, by simp; omega, by simp; omega, by simpa using g4, by simpa using g5, ?_, ?_⟩
      . simp only [List.set_cons_succ, z15d, List.getD_cons_succ]; omega
      . simp only [List.set_cons_succ, zsz, List.filter_cons] at g7 ⊢
        cases u <;> simp at g7 ⊢ <;> omega

theorem zh1 (us : List Bool) : zsz us <= us.length := List.length_filter_le ..

structure GoodT (t : Tk) : Prop where
  id : t.1.length <= 4200
  tag : t.2.2.1.length <= 100
  len : t.2.1.length <= 64
  links : ∀ l ∈ t.2.1, zhh l

structure GoodB (b : zau) : Prop where
  one : GoodT b.1
  more : ∀ t ∈ b.2.1, GoodT t
  len : b.2.1.length <= 8

def z179 (x : ItD) : Prop := GoodT x.1 /\ x.2.length = x.1.2.1.length + 1 /\ ∀ g ∈ x.2, g.length = 32

structure Inv (b : zau) (C i : Nat) (ls : List Lk) (st : SV) : Prop where
  used : st.used.length = b.2.1.length
  items : ∀ x ∈ st.items, z179 x
  len : st.items.length <= zsz st.used + 1
  texts : st.texts.length + ls.length <= 64 * (i + 1)
  summed : st.summed.length <= 200 * st.work + 200
  work : st.work + z15d b.2.1 st.used + z8n ls + zci (st.items.drop (i + 1)) <= C

theorem z43 {α : Type} (l : List α) (d : α) (i : Nat) (h : i < l.length) : l.getD i d ∈ l := by
  rw [List.getD_eq_getElem?_getD, List.getElem?_eq_getElem h]; simp

theorem zri (k : Nat) (hk : 600 <= k) : ∀ (ls : List Lk) {t : List UInt8}, t.length = 32 -> (∀ l ∈ ls, zhh l) -> ∀ g ∈ zal (k + 100) t ls, g.length = 32
  | [], t, ht, _, g, hg => by simp [zal] at hg; rw [hg]; exact ht
  | l :: ls, t, ht, hs, g, hg => by
    rw [zal] at hg
    rcases List.mem_cons.1 hg with rfl | hg
    . exact ht
    . exact zri k hk ls (zcg k hk (by omega) (hs l List.mem_cons_self)) (fun x hx => hs x (List.mem_cons_of_mem _ hx)) g hg

theorem zga (k : Nat) {key s c : List UInt8} (hk : 600 <= k) (hl : key.length <= 30000) (h : zpw (k + 100) key s = some c) : c.length <= 4096 := by
  unfold zpw at h
  split at h
  . rename_i hc
    cases h
    rw [zm6 k hk hl hc.1]; omega
  . cases h

theorem ztg (k : Nat) {c id : List UInt8} (hk : 600 <= k) (hc : c.length <= 30000) (hi : id.length <= 8000) : (z5l (k + 100) c id).length = 32 :=
  z38 k (key := c) (text := z1k (z2f id)) hk hc (by rw [z57]; omega)

theorem zji (k : Nat) (hk : 600 <= k) {b : zau} {C i : Nat} {l : Lk} {ls : List Lk} {st : SV} {before : List UInt8} (hb : GoodB b) (h : Inv b C i (l :: ls) st) (hi : i < st.items.length) (hl : l.2.1 ≠ []) (hbf : before.length = 32) :
    Inv b C i ls (za5 (k + 100) b st before l).1 := by
  have hw := h.work
  have htx := h.texts
  have hsm := h.summed
  rw [zdz, if_neg hl] at hw
  simp only [List.length_cons] at htx
  have hsl : (z64 (k + 100) before).length = 32 := zcw k hk (by omega)
  have hS1 : (z4y (k + 100) before (z1k [[115, 101, 97, 108]]) ++ z16h (k + 100) (z64 (k + 100) before) l.2.1).length <= 6 := by
    unfold z16h
    split <;> simp [z4y]
  have base : Inv b C i ls { st with work := st.work + 1, summed := st.summed ++ (z4y (k + 100) before (z1k [[115, 101, 97, 108]]) ++ z16h (k + 100) (z64 (k + 100) before) l.2.1) } :=
    ⟨h.used, h.items, h.len, by simp only; omega, by simp only; rw [List.length_append]; omega, by simp only; omega⟩
  unfold za5
  simp only
  cases ho : zpw (k + 100) (z64 (k + 100) before) l.2.1 with
  | none => exact base
  | some c =>
    simp only
    have hc := zga k hk (by omega) ho
    cases hf : zc5 l.1 b.2.1 st.used 0 with
    | none => exact base
    | some a =>
      simp only
      obtain ⟨_, g2, g3, g4, g5, g6, g7⟩ := zhd _ _ _ _ _ hf
      rw [Nat.sub_zero] at g2 g3 g4 g5 g6 g7
      have hd := hb.more _ (z43 b.2.1 z10 a g2)
      generalize b.2.1.getD a z10 = d at *
      have hr := ztg k (c := c) (id := d.1) hk (by omega) (by have := hd.id; omega)
      have hdl := hd.len
      have hS2 : (zht (k + 100) c d.1 d.2.1 ++ z4y (k + 100) b.1.2.2.1 (z1k [[98, 105, 110, 100], z8d (k + 100) (z5l (k + 100) c d.1) d.2.1])).length = 2 * d.2.1.length + 4 := by
        unfold zht
        rw [List.length_append, List.length_append, z6u]
        simp [z4y]; omega
      have hcost : z16a d = d.2.1.length + 2 + z8n d.2.1 := rfl
      split
      . refine ⟨by simpa using h.used, ?_, ?_, by simp only; omega, ?_, ?_⟩
        . intro x hx
          rcases List.mem_append.1 hx with hx | hx
          . exact h.items x hx
          . rw [List.mem_singleton] at hx
            subst hx
            exact ⟨hd, z3j _ _ _, zri k hk _ hr hd.links⟩
        . simp only [List.length_append, List.length_cons, List.length_nil]
          have := h.len; omega
        . simp only [List.length_append] at hS1 hS2 ⊢; omega
        . simp only
          rw [List.drop_append_of_le_length (by omega), zgh, zgg]
          simp only
          omega
      . refine ⟨by simpa using h.used, h.items, ?_, by simp only; omega, ?_, ?_⟩
        . simp only; rw [g7]; have := h.len; omega
        . simp only [List.length_append] at hS1 hS2 ⊢; omega
        . simp only
          omega

end
end Go.Proofs.YtkipbccgnekoaaaGreatDoorLg

set_option linter.all false
set_option maxRecDepth 100000
namespace Go.Proofs.YtkipbccgnekoaaaGreatDoorLg
noncomputable section
open Go Go.Lift Go.Proofs.YtkipbccgnekoaaaGreatDoorPx

abbrev VerD : Type := List Lk × (List (List UInt8) × Unit)
abbrev z147 : Type := zau × (List Bool × (List VerD × (List (List UInt8) × (Int × Unit))))

def zps (x : ItD) : VerD := (x.1.2.1, (x.2, ()))
def zcx (b : zau) (st : SV) : z147 := (b, (st.used, (st.items.map zps, (st.texts, (((st.work : Nat) : Int), ())))))

def unI : Option Nat -> Int
  | some a => ((a : Nat) : Int)
  | none => -1

theorem zmm (k : Nat) {key s c : List UInt8} (hk : 4400 <= k) (hl : key.length <= 30000) (h : zpw (k + 100) key s = some c) : z8k (k + 100) key s = some (c, 0, ()) /\ z1p (k + 100) key s = some (c, 0, ()) := by
  unfold zpw at h
  split at h
  . rename_i hc
    cases h
    rw [z120 k hk hl hc.1 hc.2.1, zqq k hk hl hc.1 hc.2.1, hc.2.2]
    exact ⟨rfl, rfl⟩
  . cases h

theorem zmn (k : Nat) {key s : List UInt8} (hk : 4400 <= k) (hl : key.length <= 30000) (h : zpw (k + 100) key s = none) : ∃ e : Int, e ≠ 0 /\ z8k (k + 100) key s = some ([], e, ()) /\ z1p (k + 100) key s = some ([], e, ()) := by
  unfold zpw at h
  split at h
  . cases h
  . rename_i hc
    by_cases h1 : 48 <= s.length
    . by_cases h2 : s.length <= 4144
      . have hf : z10k (k + 100) key s = false := by
          cases hf : z10k (k + 100) key s with
          | false => rfl
          | true => exact absurd ⟨h1, h2, hf⟩ hc
        refine ⟨8, by decide, ?_, ?_⟩
        . rw [z120 k hk hl h1 h2, hf]; rfl
        . rw [zqq k hk hl h1 h2, hf]; rfl
      . obtain ⟨a, b⟩ := z11z (k + 100) (key := key) (s := s) (by omega)
        exact ⟨3, by decide, a, b⟩
    . obtain ⟨a, b⟩ := zzf (k + 100) (key := key) (s := s) (by omega)
      exact ⟨1, by decide, a, b⟩

theorem z10r (N : Nat) {r : z147} {id : List UInt8} (hu : r.2.1.length = r.1.2.1.length) (hl : r.1.2.1.length <= 100) (hN : 200 < N) :
    z3w N r id = some (unI (zc5 id r.1.2.1 r.2.1 0), (r, ())) := by
  rw [z3w, za3]
  refine (z2p (fun v => ∃ i : Nat, v = (i : Int) /\ i <= r.1.2.1.length) (fun v => r.1.2.1.length - v.toNat) (fun v => some (unI (zc5 id (r.1.2.1.drop v.toNat) (r.2.1.drop v.toNat) v.toNat), (r, ()))) ?_ N 0 ⟨0, rfl, by omega⟩ (by omega)).trans (by rfl)
  rintro v r' ⟨i, rfl, hi⟩ hr
  simp only [Int.toNat_natCast]
  rw [z61]
  by_cases hlt : i < r.1.2.1.length
  . have hlt2 : i < r.2.1.length := by omega
    rw [zg (decide_eq_true (by omega)), zg (zz hlt), z62, Int.toNat_natCast, z1n r.1.2.1 z10 i hlt, z1n r.2.1 false i hlt2, zc5]
    rw [show (([] : List UInt8), (([] : List ((List UInt8) × ((List UInt8) × Unit))), (([] : List UInt8), ()))) = z10 from rfl, z15 (by omega), hr _ ⟨i + 1, rfl, by omega⟩ (by omega), Int.toNat_natCast]
    by_cases h1 : (r.1.2.1.getD i z10).1 = id
    . rw [zg (beq_iff_eq.2 h1), zg (zz hlt2), zg (decide_eq_true hlt2)]
      cases hb : r.2.1.getD i false with
      | true => rw [if_neg (by simp)]; rfl
      | false => rw [if_pos ⟨h1, rfl⟩]; rfl
    . rw [zr (beq_eq_false_iff_ne.2 h1), if_neg (fun h => h1 h.1)]; rfl
  . rw [zr (decide_eq_false (by omega)), z2z _ (by omega), zc5]
    . rfl
    . simp

theorem zxt (k : Nat) (hk : 600 <= k) {r : z147} {key : List UInt8} {t : Tk} {w : Nat} (hw : r.2.2.2.2.1 = ((w : Nat) : Int)) (hw2 : w <= 1000000) (hl : key.length <= 30000) (ht : GoodT t) :
    z3x (k + 100) r key t = some ((zal (k + 100) (z5l (k + 100) key t.1) t.2.1, (z8d (k + 100) (z5l (k + 100) key t.1) t.2.1, ())), ((r.1, (r.2.1, (r.2.2.1, (r.2.2.2.1, (((w + (t.2.1.length + 1) : Nat) : Int), r.2.2.2.2.2))))), ())) := by
  have h1 := ht.id
  have h2 := ht.len
  rw [z3x, z19w k hk hl (by omega) (by omega) ht.links, Option.bind_some, z3j, z1e (x := (((t.2.1.length + 1 : Nat) : Nat) : Int) - 1) (by unfold I64; omega), show (((t.2.1.length + 1 : Nat) : Nat) : Int) - 1 = ((t.2.1.length : Nat) : Int) by omega, zg (zz (by omega)), Int.toNat_natCast, zl3, hw, z1e (by unfold I64; omega)]
  congr 1

theorem zyo {tag bt : List UInt8} (h : bt.length = 32) : (decide (tag.length = 32) && (tag == bt)) = decide (bt = tag) := by
  by_cases e : bt = tag
  . subst e; simp [h]
  . rw [decide_eq_false e, beq_eq_false_iff_ne.2 (Ne.symm e), Bool.and_false]

theorem z14w (k : Nat) (hk : 4400 <= k) {b : zau} {C i : Nat} {l : Lk} {ls : List Lk} {st : SV} {before : List UInt8} (hb : GoodB b) (h : Inv b C i (l :: ls) st) (hC : C <= 100000) (hbf : before.length = 32) :
    z4l (k + 100) (zcx b st) before l = some ((za5 (k + 100) b st before l).2, (zcx b (za5 (k + 100) b st before l).1, ())) := by
  have hwk := h.work
  have hsl : (z64 (k + 100) before).length = 32 := zcw k (by omega) (by omega)
  obtain ⟨used, items, texts, work, summed⟩ := st
  have hu : used.length = b.2.1.length := h.used
  have hb8 := hb.len
  simp only at hwk
  have hw1 : IntKind.wrap .i64 (((work : Nat) : Int) + 1) = ((work + 1 : Nat) : Int) := by rw [z1e (by unfold I64; omega)]; omega
  rw [z4l, zui k (by omega) (by omega), Option.bind_some]
  unfold za5 zcx
  simp only
  rw [hw1]
  cases ho : zpw (k + 100) (z64 (k + 100) before) l.2.1 with
  | none =>
    obtain ⟨e, he, hbx, _⟩ := zmn k hk (by omega) ho
    rw [hbx, Option.bind_some, zg (bne_iff_ne.2 he)]
  | some c =>
    have hc := zga k (by omega) (by omega) ho
    rw [(zmm k hk (by omega) ho).1, Option.bind_some, zr (by rfl)]
    simp only
    rw [z10r (k + 100) (r := (b, (used, (items.map zps, (texts, (((work + 1 : Nat) : Int), ())))))) hu (by simp only; omega) (by omega), Option.bind_some]
    simp only
    cases hf : zc5 l.1 b.2.1 used 0 with
    | none =>
      rw [zg (by rfl)]
    | some a =>
      obtain ⟨_, g2, g3, g4, g5, g6, g7⟩ := zhd _ _ _ _ _ hf
      rw [Nat.sub_zero] at g2 g3
      have hd := hb.more _ (z43 b.2.1 z10 a g2)
      have hd1 := hd.tag
      have hd2 := hd.len
      have hd3 := hd.id
      have hbt := hb.one.tag
      have hr := ztg k (c := c) (id := (b.2.1.getD a z10).1) (by omega) (by omega) (by omega)
      have hlast : (z8d (k + 100) (z5l (k + 100) c (b.2.1.getD a z10).1) (b.2.1.getD a z10).2.1).length = 32 := z9q k (by omega) _ hr hd.links
      have hbn : (zuq (k + 100) b.1.2.2.1 (z8d (k + 100) (z5l (k + 100) c (b.2.1.getD a z10).1) (b.2.1.getD a z10).2.1)).length = 32 := zup k (by omega) (by omega) (by omega)
      rw [show unI (some a) = ((a : Nat) : Int) from rfl, zr (decide_eq_false (by omega)), zg (zz g2), zg (zz g3), Int.toNat_natCast, zg (decide_eq_true g3)]
      rw [show (([] : List UInt8), (([] : List ((List UInt8) × ((List UInt8) × Unit))), (([] : List UInt8), ()))) = z10 from rfl]
      rw [zxt k (by omega) (w := work + 1) rfl (by omega) (by omega) hd, Option.bind_some]
      simp only
      rw [zuj k (by omega) (by omega) (by omega), Option.bind_some, zv7 (k + 100) (by omega) (by omega), Option.bind_some, zyo hbn]
      have hw2 : IntKind.wrap .i64 (((work + 1 + ((b.2.1.getD a z10).2.1.length + 1) : Nat) : Int) + 1) = ((work + (b.2.1.getD a z10).2.1.length + 3 : Nat) : Int) := by rw [z1e (by unfold I64; omega)]; omega
      rw [hw2]
      have hil : items.length <= 9 := by
        have h1 : items.length <= zsz used + 1 := h.len
        have h2 := zh1 used
        omega
      by_cases he : zuq (k + 100) b.1.2.2.1 (z8d (k + 100) (z5l (k + 100) c (b.2.1.getD a z10).1) (b.2.1.getD a z10).2.1) = (b.2.1.getD a z10).2.2.1
      . rw [decide_eq_true he, Bool.not_true, cond_false, zg (decide_eq_true (by rw [List.length_map]; omega)), if_pos he, List.map_append]
        rfl
      . rw [decide_eq_false he, Bool.not_false, cond_true, if_neg he]

end
end Go.Proofs.YtkipbccgnekoaaaGreatDoorLg

set_option linter.all false
set_option maxRecDepth 100000
namespace Go.Proofs.YtkipbccgnekoaaaGreatDoorLg
noncomputable section
open Go Go.Lift Go.Proofs.YtkipbccgnekoaaaGreatDoorPx

theorem ze0 (N : Nat) (b : zau) (st : SV) (before : List UInt8) (l : Lk) : st.items.length <= (za5 N b st before l).1.items.length := by
  unfold za5
  simp only
  split
  . exact Nat.le_refl _
  . split
    . exact Nat.le_refl _
    . split
      . simp
      . exact Nat.le_refl _

theorem zru {b : zau} {C i : Nat} {l : Lk} {ls : List Lk} {st : SV} (h : Inv b C i (l :: ls) st) (hl : l.2.1 = []) : Inv b C i ls { st with texts := st.texts ++ [l.1] } := by
  have h1 := h.texts
  have h2 := h.work
  rw [zdz, if_pos hl] at h2
  refine ⟨h.used, h.items, h.len, ?_, h.summed, by simp only; omega⟩
  simp only [List.length_append, List.length_cons, List.length_nil] at h1 ⊢
  omega

theorem zdm (k : Nat) (hk : 600 <= k) {b : zau} {C i : Nat} (hb : GoodB b) : ∀ (ls : List Lk) (gs : List (List UInt8)) (st : SV), Inv b C i ls st -> i < st.items.length -> (∀ g ∈ gs, g.length = 32) →
    (z3p (k + 100) b ls gs st).1.work <= C /\ (z3p (k + 100) b ls gs st).1.used.length = b.2.1.length /\ (z3p (k + 100) b ls gs st).1.summed.length <= 200 * C + 200 /\ ((z3p (k + 100) b ls gs st).2 = true -> Inv b C i [] (z3p (k + 100) b ls gs st).1 /\ i < (z3p (k + 100) b ls gs st).1.items.length)
  | [], gs, st, h, hi, _ => by
    unfold z3p
    have hw := h.work
    have hs := h.summed
    exact ⟨by simp only; omega, h.used, by simp only; omega, fun _ => ⟨h, hi⟩⟩
  | l :: ls, [], st, h, hi, _ => by
    unfold z3p
    have hw := h.work
    have hs := h.summed
    exact ⟨by simp only; omega, h.used, by simp only; omega, fun e => by cases e⟩
  | l :: ls, g :: gs, st, h, hi, hg => by
    unfold z3p
    by_cases hl : l.2.1 = []
    . rw [if_pos hl]
      exact zdm k hk hb ls gs _ (zru h hl) hi (fun x hx => hg x (List.mem_cons_of_mem _ hx))
    . rw [if_neg hl]
      have h1 := zji k hk hb h hi hl (hg g List.mem_cons_self)
      have h2 := ze0 (k + 100) b st g l
      have hw := h1.work
      have hs := h1.summed
      generalize za5 (k + 100) b st g l = T at *
      obtain ⟨s, ok⟩ := T
      cases ok with
      | true => exact zdm k hk hb ls gs s h1 (Nat.lt_of_lt_of_le hi h2) (fun x hx => hg x (List.mem_cons_of_mem _ hx))
      | false =>
        simp only at hw hs ⊢
        exact ⟨by omega, h1.used, by omega, fun e => by cases e⟩

structure OInv (b : zau) (C i : Nat) (st : SV) : Prop where
  used : st.used.length = b.2.1.length
  items : ∀ x ∈ st.items, z179 x
  len : st.items.length <= zsz st.used + 1
  texts : st.texts.length <= 64 * i
  summed : st.summed.length <= 200 * st.work + 200
  work : st.work + z15d b.2.1 st.used + zci (st.items.drop i) <= C

theorem OInv.enter {b : zau} {C i : Nat} {st : SV} (h : OInv b C i st) (hi : i < st.items.length) : Inv b C i (st.items.getD i (z10, [])).1.2.1 st := by
  have hx := h.items _ (z43 st.items (z10, []) i hi)
  have hw := h.work
  have ht := h.texts
  have hl := hx.1.len
  rw [z1n st.items (z10, []) i hi, show ((st.items.getD i (z10, [])) :: st.items.drop (i + 1)) = [st.items.getD i (z10, [])] ++ st.items.drop (i + 1) from rfl, zgh, zgg] at hw
  exact ⟨h.used, h.items, h.len, by omega, h.summed, by omega⟩

theorem Inv.leave {b : zau} {C i : Nat} {st : SV} (h : Inv b C i [] st) : OInv b C (i + 1) st := by
  have hw := h.work
  have ht := h.texts
  exact ⟨h.used, h.items, h.len, by simpa using ht, h.summed, by simp only [z8n, List.filter_nil, List.length_nil] at hw; omega⟩

theorem zk4 (k : Nat) (hk : 600 <= k) {b : zau} {C : Nat} (hb : GoodB b) : ∀ (f i : Nat) (st : SV), OInv b C i st →
    (z5a (k + 100) b f i st).1.work <= C /\ (z5a (k + 100) b f i st).1.used.length = b.2.1.length /\ (z5a (k + 100) b f i st).1.summed.length <= 200 * C + 200
  | 0, i, st, h => by
    have hw := h.work
    have hs := h.summed
    exact ⟨by simp only [z5a]; omega, h.used, by simp only [z5a]; omega⟩
  | f + 1, i, st, h => by
    unfold z5a
    split
    . rename_i hi
      have hx := h.items _ (z43 st.items (z10, []) i hi)
      have hf := zdm k hk hb _ (st.items.getD i (z10, [])).2 st (h.enter hi) hi hx.2.2
      generalize z3p (k + 100) b (st.items.getD i (z10, [])).1.2.1 (st.items.getD i (z10, [])).2 st = T at *
      obtain ⟨s, ok⟩ := T
      cases ok with
      | true => exact zk4 k hk hb f (i + 1) s (hf.2.2.2 rfl).1.leave
      | false => exact ⟨hf.1, hf.2.1, hf.2.2.1⟩
    . have hw := h.work
      have hs := h.summed
      exact ⟨by simp only; omega, h.used, by simp only; omega⟩

theorem z11t (l : Lk) : eqD (T.pair T.str (T.pair T.str T.unit)) l (l.1, (([] : List UInt8), ())) = decide (l.2.1 = []) := by
  obtain ⟨a, c, u⟩ := l
  cases u
  rw [Bool.eq_iff_iff, decide_eq_true_eq, zsa _ _ _ rfl]
  simp

theorem z165 (k : Nat) (hk : 4400 <= k) {b : zau} {C i : Nat} (hb : GoodB b) (hC : C <= 100000) (hi9 : i <= 20) {complete : Bool} {i0 : Int} {x : ItD} (hx : z179 x) {st0 : SV} (h0 : Inv b C i x.1.2.1 st0) (hi0 : i < st0.items.length)
    (k0 : z147 -> Bool -> Option (Int × (z147 × Unit))) (k1 : z147 -> Option (Int × (z147 × Unit))) :
    z3s (k + 100) (zcx b st0) complete i0 (zps x) (zps x).1 (((zps x).1.length : Nat) : Int) 0 k0 k1 = match z3p (k + 100) b x.1.2.1 x.2 st0 with | (s, true) => k1 (zcx b s) | (s, false) => k0 (zcx b s) false := by
  have hxl := hx.1.len
  have hxt := hx.2.1
  have hxl' := hx.1.links
  show z3s (k + 100) (zcx b st0) complete i0 (zps x) x.1.2.1 ((x.1.2.1.length : Nat) : Int) 0 k0 k1 = _
  rw [z3s]
  refine (z3i (γ := List Lk × List (List UInt8) × SV) (fun g v => ∃ j : Nat, v = (zcx b g.2.2, (j : Int)) /\ j <= x.1.2.1.length /\ g.1 = x.1.2.1.drop j /\ g.2.1 = x.2.drop j /\ Inv b C i g.1 g.2.2 /\ i < g.2.2.items.length)
    (fun v => x.1.2.1.length - v.2.toNat) (fun g => match z3p (k + 100) b g.1 g.2.1 g.2.2 with | (s, true) => k1 (zcx b s) | (s, false) => k0 (zcx b s) false) ?_ (k + 100) (x.1.2.1, x.2, st0) (zcx b st0, 0) ⟨0, rfl, by omega, rfl, rfl, h0, hi0⟩ (by simp only; omega))
  rintro ⟨ls, gs, st⟩ v r ⟨j, rfl, hj, e1, e2, hinv, hi⟩ hr
  simp only at e1 e2 hinv hi
  subst e1 e2
  simp only [Int.toNat_natCast]
  rw [z5w]
  by_cases hlt : j < x.1.2.1.length
  . have hlt2 : j < x.2.length := by omega
    have hg32 := hx.2.2 _ (z43 x.2 [] j hlt2)
    have hlk := hxl' _ (z43 x.1.2.1 ([], [], ()) j hlt)
    rw [z1n x.1.2.1 ([], [], ()) j hlt] at hinv ⊢
    rw [z1n x.2 [] j hlt2, z3p]
    rw [zg (decide_eq_true (by omega)), zg (zz hlt), Int.toNat_natCast, z11t, z15 (by omega)]
    by_cases hl : (x.1.2.1.getD j ([], [], ())).2.1 = []
    . have htx := hinv.texts
      simp only [List.length_cons] at htx
      rw [decide_eq_true hl, cond_true, zg (decide_eq_true (by show (st.texts.length + 1) * 16 <= _; omega)), if_pos hl]
      exact hr (x.1.2.1.drop (j + 1), x.2.drop (j + 1), _) _ ⟨j + 1, rfl, by omega, rfl, rfl, zru hinv hl, hi⟩ (by simp only; omega)
    . rw [decide_eq_false hl, cond_false, show (zps x).2.1 = x.2 from rfl, zg (zz hlt2), z14w k hk hb hinv hC hg32, Option.bind_some, if_neg hl]
      have h1 := zji k (by omega) hb hinv hi hl hg32
      have h2 := ze0 (k + 100) b st (x.2.getD j []) (x.1.2.1.getD j ([], [], ()))
      generalize za5 (k + 100) b st (x.2.getD j []) (x.1.2.1.getD j ([], [], ())) = T at *
      obtain ⟨s, ok⟩ := T
      cases ok with
      | true =>
        rw [Bool.not_true, cond_false]
        exact hr (x.1.2.1.drop (j + 1), x.2.drop (j + 1), s) _ ⟨j + 1, rfl, by omega, rfl, rfl, h1, Nat.lt_of_lt_of_le hi h2⟩ (by simp only; omega)
      | false => rfl
  . rw [zr (decide_eq_false (by omega)), z2z _ (by omega), z3p]

theorem z15h (k : Nat) (hk : 4400 <= k) {b : zau} {C : Nat} (hb : GoodB b) (hC : C <= 100000) {complete : Bool} {st0 : SV} (h0 : OInv b C 0 st0) (hc : complete = true)
    (k0 : z147 -> Bool -> Option (Int × (z147 × Unit))) :
    z5z (k + 100) (zcx b st0) complete 0 k0 = k0 (zcx b (z5a (k + 100) b 20 0 st0).1) (z5a (k + 100) b 20 0 st0).2 := by
  subst hc
  rw [z5z]
  refine (z3i (γ := Nat × SV) (fun g v => v = (zcx b g.2, ((g.1 : Nat) : Int)) /\ g.1 <= 9 /\ OInv b C g.1 g.2) (fun v => 10 - v.2.toNat) (fun g => k0 (zcx b (z5a (k + 100) b (20 - g.1) g.1 g.2).1) (z5a (k + 100) b (20 - g.1) g.1 g.2).2) ?_ (k + 100) (0, st0) (zcx b st0, 0) ⟨rfl, by omega, h0⟩ (by simp only; omega))
  rintro ⟨i, st⟩ v r ⟨rfl, hi9, hinv⟩ hr
  simp only at hi9 hinv
  simp only
  rw [z5x]
  have hb8 := hb.len
  have hln := hinv.len
  have hun := zh1 st.used
  have hul := hinv.used
  have hlm : (zcx b st).2.2.1.length = st.items.length := by show (st.items.map zps).length = _; rw [List.length_map]
  obtain ⟨f, hf⟩ : ∃ f, 20 - i = f + 1 := ⟨19 - i, by omega⟩
  rw [hf, z5a, hlm]
  by_cases hlt : i < st.items.length
  . have hgd : (zcx b st).2.2.1.getD i (([] : List ((List UInt8) × ((List UInt8) × Unit))), (([] : List (List UInt8)), ())) = zps (st.items.getD i (z10, [])) := by
      show (st.items.map zps).getD i _ = _
      simp only [List.getD_eq_getElem?_getD, List.getElem?_map, List.getElem?_eq_getElem hlt]
      rfl
    have hx := hinv.items _ (z43 st.items (z10, []) i hlt)
    rw [zg (decide_eq_true (by omega)), zg (zz hlt), Int.toNat_natCast, zg (decide_eq_true hlt), hgd, if_pos hlt]
    rw [z165 k hk hb hC (by omega) hx (hinv.enter hlt) hlt]
    have hfin := zdm k (by omega) hb _ (st.items.getD i (z10, [])).2 st (hinv.enter hlt) hlt hx.2.2
    generalize z3p (k + 100) b (st.items.getD i (z10, [])).1.2.1 (st.items.getD i (z10, [])).2 st = T at *
    obtain ⟨s, ok⟩ := T
    cases ok with
    | true =>
      simp only
      obtain ⟨h1, h2⟩ := hfin.2.2.2 rfl
      simp only at h1 h2
      have hl1 := h1.len
      have hl2 := zh1 s.used
      have hl3 := h1.used
      rw [z15 (by omega), hr (i + 1, s) _ ⟨rfl, by simp only; omega, h1.leave⟩ (by simp only; omega)]
      simp only
      rw [show 20 - (i + 1) = f by omega]
    | false => rfl
  . rw [zr (decide_eq_false (by omega)), if_neg hlt]

def z1dj (v : Bool) : List Bool -> Nat -> Int
  | [], _ => -1
  | x :: l, i => if v = x then (i : Int) else z1dj v l (i + 1)

theorem zyf (v : Bool) : ∀ (l : List Bool) (i : Nat), decide (0 <= z1dj v l i) = l.contains v
  | [], i => rfl
  | x :: l, i => by
    unfold z1dj
    rw [List.contains_cons]
    by_cases h : v = x
    . rw [if_pos h, h, beq_self_eq_true, Bool.true_or, decide_eq_true (by omega)]
    . rw [if_neg h, zyf v l (i + 1), beq_eq_false_iff_ne.2 h, Bool.false_or]

theorem zwb (N : Nat) {s : List Bool} {v : Bool} (hs : s.length <= 1000) (hN : 1000 < N) : z1x N s v = some (s.contains v) := by
  have hi : z2e N s v = some (z1dj v s 0) := by
    rw [z2e, z6n]
    refine (z2p (fun w => ∃ i : Nat, w = (i : Int) /\ i <= s.length) (fun w => s.length - w.toNat) (fun w => some (z1dj v (s.drop w.toNat) w.toNat)) ?_ N 0 ⟨0, rfl, by omega⟩ (by omega)).trans (by rfl)
    rintro w r ⟨i, rfl, hi⟩ hr
    simp only [Int.toNat_natCast]
    rw [z3l]
    by_cases hlt : i < s.length
    . rw [zg (decide_eq_true (by omega)), zg (zz hlt), Int.toNat_natCast, z1n s false i hlt, z1dj, z15 (by omega), hr _ ⟨i + 1, rfl, by omega⟩ (by omega), Int.toNat_natCast]
      by_cases h : v = s.getD i false
      . rw [zg (beq_iff_eq.2 h), if_pos h]
      . rw [zr (beq_eq_false_iff_ne.2 h), if_neg h]
    . rw [zr (decide_eq_false (by omega)), z2z _ (by omega), z1dj]
  rw [z1x, hi, Option.bind_some, zyf]

def stA (N : Nat) (key : List UInt8) (b : zau) : SV := { used := List.replicate b.2.1.length false, items := [], texts := [], work := b.1.2.1.length + 1, summed := zht N key b.1.1 b.1.2.1 }
def stB (N : Nat) (key : List UInt8) (b : zau) : SV := { stA N key b with items := [(b.1, zal N (z5l N key b.1.1) b.1.2.1)] }

def za7 (N : Nat) (key : List UInt8) (b : zau) : SV × Int :=
 if z8d N (z5l N key b.1.1) b.1.2.1 = b.1.2.2.1 then
 ((z5a N b 20 0 (stB N key b)).1, if (z5a N b 20 0 (stB N key b)).2 = true /\ (z5a N b 20 0 (stB N key b)).1.used.contains false = false then 0 else 11)
 else (stA N key b, 8)

def zpy (b : zau) : Nat := (b.1.2.1.length + 1) + z8n b.1.2.1 + (b.2.1.map z16a).sum

theorem zy1 : ∀ ts : List Tk, z15d ts (List.replicate ts.length false) = (ts.map z16a).sum
  | [] => rfl
  | t :: ts => by
    rw [List.length_cons, List.replicate_succ, z15d, zy1 ts]
    simp

theorem zrl (k : Nat) (hk : 600 <= k) {key : List UInt8} {b : zau} (hb : GoodB b) (hl : key.length <= 30000) : OInv b (zpy b) 0 (stB (k + 100) key b) := by
  have hr := ztg k (c := key) (id := b.1.1) hk hl (by have := hb.one.id; omega)
  refine ⟨by simp [stB, stA], ?_, by simp [stB, stA], by simp [stB, stA], ?_, ?_⟩
  . intro x hx
    simp only [stB, List.mem_singleton] at hx
    subst hx
    exact ⟨hb.one, z3j _ _ _, zri k hk _ hr hb.one.links⟩
  . simp only [stB, stA, zht]
    rw [List.length_append, z6u]
    simp [z4y]; omega
  . simp only [stB, stA, List.drop_zero]
    rw [zy1, zgg]
    unfold zpy
    simp only
    omega

theorem zyl : ∀ ts : List Tk, (∀ t ∈ ts, GoodT t) -> (ts.map z16a).sum <= 130 * ts.length
  | [], _ => by simp
  | t :: ts, h => by
    have h1 := zyl ts fun x hx => h x (List.mem_cons_of_mem _ hx)
    have h2 := (h t List.mem_cons_self).len
    have h3 := zjh t.2.1
    simp only [List.map_cons, List.sum_cons, List.length_cons]
    unfold z16a at *
    omega

theorem zy6 {b : zau} (hb : GoodB b) : zpy b <= 2000 := by
  have h1 := zyl b.2.1 hb.more
  have h2 := hb.len
  have h3 := hb.one.len
  have h4 := zjh b.1.2.1
  unfold zpy
  omega

theorem zuz (k : Nat) (hk : 4400 <= k) {key : List UInt8} {b : zau} (hb : GoodB b) (hl : key.length <= 30000) :
    (z4c (k + 100) b).bind (fun y1 => z33 (k + 100) y1 key) = some ((za7 (k + 100) key b).2, (zcx b (za7 (k + 100) key b).1, ())) := by
  have hb8 := hb.len
  have hb1 := hb.one.tag
  have hln := hb.one.len
  have hid := hb.one.id
  have hr := ztg k (c := key) (id := b.1.1) (by omega) hl (by omega)
  have hlast : (z8d (k + 100) (z5l (k + 100) key b.1.1) b.1.2.1).length = 32 := z9q k (by omega) _ hr hb.one.links
  have hO := zrl k (by omega) hb hl
  have hM := zy6 hb
  rw [z4c, zg (decide_eq_true ⟨by omega, by omega, by omega, by omega⟩), Option.bind_some, Int.toNat_natCast]
  rw [z33, zxt k (by omega) (r := (b, ((List.replicate b.2.1.length false), (([] : List VerD), (([] : List (List UInt8)), ((0 : Int), ())))))) (w := 0) rfl (by omega) hl hb.one, Option.bind_some]
  simp only
  rw [zv7 (k + 100) (by omega) (by omega), Option.bind_some, zyo hlast]
  unfold za7
  by_cases he : z8d (k + 100) (z5l (k + 100) key b.1.1) b.1.2.1 = b.1.2.2.1
  . rw [decide_eq_true he, Bool.not_true, cond_false, if_pos he]
    have e : ((b, (List.replicate b.2.1.length false, ([((b.1.2.1, (zal (k + 100) (z5l (k + 100) key b.1.1) b.1.2.1, ())) : VerD)], (([] : List (List UInt8)), (((b.1.2.1.length + 1 : Nat) : Int), ()))))) : z147) = zcx b (stB (k + 100) key b) := rfl
    rw [Nat.zero_add, e]
    rw [z60, z15h k hk hb (by omega) hO rfl]
    have hfin := zk4 k (by omega) hb 20 0 _ hO
    generalize z5a (k + 100) b 20 0 (stB (k + 100) key b) = T at *
    obtain ⟨s, ok⟩ := T
    simp only at hfin ⊢
    rw [z5y]
    cases ok with
    | false =>
      rw [Bool.not_false, cond_true, cond_true, if_neg (by simp)]
    | true =>
      rw [Bool.not_true, cond_false, show (zcx b s).2.1 = s.used from rfl, zwb (k + 100) (by omega) (by omega), Option.bind_some]
      cases hcn : s.used.contains false with
      | true => rw [if_neg (by simp)]; rfl
      | false => rw [if_pos ⟨rfl, rfl⟩]; rfl
  . rw [decide_eq_false he, Bool.not_false, cond_true, if_neg he, Nat.zero_add]
    rfl

end
end Go.Proofs.YtkipbccgnekoaaaGreatDoorLg

set_option linter.all false
set_option maxRecDepth 100000
namespace Go.Proofs.YtkipbccgnekoaaaGreatDoorLg
noncomputable section
open Go Go.Lift Go.Proofs.YtkipbccgnekoaaaGreatDoorPx

def zmw (t : Tk) : Bool := decide (64 < t.2.1.length)

def z1di : List Tk -> Nat -> Int
  | [], _ => -1
  | x :: l, i => if zmw x then (i : Int) else z1di l (i + 1)

theorem zye : ∀ (l : List Tk) (i : Nat), decide (0 <= z1di l i) = l.any zmw
  | [], i => rfl
  | x :: l, i => by
    unfold z1di
    rw [List.any_cons]
    cases h : zmw x with
    | true => rw [if_pos rfl, Bool.true_or, decide_eq_true (by omega)]
    | false => rw [if_neg (by simp), zye l (i + 1), Bool.false_or]

theorem zq9 (N : Nat) {s : List Tk} (hs : s.length <= 1000) (hN : 1000 < N) : zc1 N s = some (s.any zmw) := by
  have hi : zkc N s = some (z1di s 0) := by
    rw [zkc, zop]
    refine (z2p (fun w => ∃ i : Nat, w = (i : Int) /\ i <= s.length) (fun w => s.length - w.toNat) (fun w => some (z1di (s.drop w.toNat) w.toNat)) ?_ N 0 ⟨0, rfl, by omega⟩ (by omega)).trans (by rfl)
    rintro w r ⟨i, rfl, hi⟩ hr
    simp only [Int.toNat_natCast]
    rw [zj9]
    by_cases hlt : i < s.length
    . rw [zg (decide_eq_true (by omega)), zg (zz hlt), Int.toNat_natCast, z1n s z10 i hlt, z1di, z15 (by omega), hr _ ⟨i + 1, rfl, by omega⟩ (by omega), Int.toNat_natCast]
      rw [show (([] : List UInt8), (([] : List ((List UInt8) × ((List UInt8) × Unit))), (([] : List UInt8), ()))) = z10 from rfl, zmw]
      by_cases h : 64 < (s.getD i z10).2.1.length
      . rw [zg (decide_eq_true (by omega)), decide_eq_true h, if_pos rfl]
      . rw [zr (decide_eq_false (by omega)), decide_eq_false h, if_neg (by simp)]
    . rw [zr (decide_eq_false (by omega)), z2z _ (by omega), z1di]
  rw [zc1, hi, Option.bind_some, zye]

def zb0 (b : zau) : Bool := decide (b.2.1.length <= 8) && !((b.1 :: b.2.1).any zmw)

theorem zt0 (N : Nat) {b : zau} (hb : b.2.1.length <= 1000) : z5g N b = some (b.1 :: b.2.1) := by
  rw [z5g, zg (decide_eq_true (by omega))]; rfl

theorem znd (N : Nat) (hN : 1000 < N) (b : zau) : z5f N b = some (zb0 b) := by
  rw [z5f, zb0]
  by_cases h : b.2.1.length <= 8
  . rw [zr (decide_eq_false (by omega)), zt0 N (by omega), Option.bind_some, zq9 N (by simp only [List.length_cons]; omega) hN, Option.bind_some, decide_eq_true h, Bool.true_and]
  . rw [zg (decide_eq_true (by omega)), decide_eq_false h, Bool.false_and]

structure FairT (t : Tk) : Prop where
  id : t.1.length <= 4200
  tag : t.2.2.1.length <= 100
  len : t.2.1.length <= 70
  links : ∀ l ∈ t.2.1, zhh l

structure FairB (b : zau) : Prop where
  one : FairT b.1
  more : ∀ t ∈ b.2.1, FairT t
  len : b.2.1.length <= 10

theorem z1dl {b : zau} (h : FairB b) (hw : zb0 b = true) : GoodB b := by
  unfold zb0 at hw
  rw [Bool.and_eq_true, decide_eq_true_eq, Bool.not_eq_true', List.any_eq_false] at hw
  have hl : ∀ t ∈ b.1 :: b.2.1, t.2.1.length <= 64 := by
    intro t ht
    have := hw.2 t ht
    unfold zmw at this
    simp at this
    exact this
  exact ⟨⟨h.one.id, h.one.tag, hl _ List.mem_cons_self, h.one.links⟩, fun t ht => ⟨(h.more t ht).id, (h.more t ht).tag, hl t (List.mem_cons_of_mem _ ht), (h.more t ht).links⟩, hw.1⟩

theorem zzl (k : Nat) (hk : 1000 <= k) (b : zau) : ∃ g, z42 (k + 100) b = some g /\ (g = false -> FairB b) := by
  have one : ∀ t : Tk, ∃ g, z1t (k + 100) t = some g /\ (g = false -> FairT t) := by
    intro t
    obtain ⟨g, h1, h2⟩ := zw4 k (t := t) (by omega)
    exact ⟨g, h1, fun e => ⟨(h2 e).1, (h2 e).2.1, (h2 e).2.2.1, (h2 e).2.2.2⟩⟩
  rw [z42, z6i, z6h]
  by_cases h10 : 10 < b.2.1.length
  . rw [zg (decide_eq_true (by omega))]
    exact ⟨true, rfl, fun e => by cases e⟩
  rw [zr (decide_eq_false (by omega))]
  obtain ⟨g0, e0, f0⟩ := one b.1
  have rest : ∃ g, z6g (k + 100) b (0 : Int) (fun x21 => some x21) (some false) = some g /\ (g = false -> ∀ t ∈ b.2.1, FairT t) := by
    rw [z6g]
    refine zoo (fun v => ∃ i : Nat, v = (i : Int) /\ i <= b.2.1.length /\ ∀ j, j < i -> FairT (b.2.1.getD j z10)) (fun v => b.2.1.length - v.toNat) (fun o => ∃ g, o = some g /\ (g = false -> ∀ t ∈ b.2.1, FairT t)) ?_ (k + 100) 0 ⟨0, rfl, by omega, fun j hj => by omega⟩ (by omega)
    rintro v r ⟨i, rfl, hi, hall⟩ hr
    rw [z6d]
    by_cases hlt : i < b.2.1.length
    . obtain ⟨g1, e1, f1⟩ := one (b.2.1.getD i z10)
      rw [zg (decide_eq_true (by omega)), z6f, z6e]
      simp only [zz hlt, cond_true, Int.toNat_natCast]
      rw [show (([] : List UInt8), (([] : List ((List UInt8) × ((List UInt8) × Unit))), (([] : List UInt8), ()))) = z10 from rfl, e1, z15 (by omega)]
      simp only [Option.bind_some]
      have hnext : g1 = false -> ∃ g, r (((i + 1 : Nat) : Int)) = some g /\ (g = false -> ∀ t ∈ b.2.1, FairT t) := by
        intro e
        refine hr _ ⟨i + 1, rfl, by omega, fun j hj => ?_⟩ (by simp only [Int.toNat_natCast]; omega)
        rcases Nat.lt_or_ge j i with h | h
        . exact hall j h
        . rw [show j = i by omega]; exact f1 e
      cases decide ((10 : Int) < (((List.length (b.2.1.getD i z10).2.1) : Nat) : Int)) <;> cases decide (((((List.length (b.2.1.getD i z10).2.1) : Nat) : Int)) < (64 : Int)) <;> cases g1 <;>
        first
        | exact ⟨true, rfl, fun e => by cases e⟩
        | exact hnext rfl
    . rw [zr (decide_eq_false (by omega))]
      refine ⟨false, rfl, fun _ t ht => ?_⟩
      obtain ⟨j, hj, e⟩ := List.mem_iff_getElem.1 ht
      have := hall j (by omega)
      rw [List.getD_eq_getElem?_getD, List.getElem?_eq_getElem hj, Option.getD_some, e] at this
      exact this
  obtain ⟨g2, e2, f2⟩ := rest
  rw [e0, e2]
  simp only [Option.bind_some]
  cases decide ((10 : Int) < (((List.length b.1.2.1) : Nat) : Int)) <;> cases decide (((((List.length b.1.2.1) : Nat) : Int)) < (64 : Int)) <;> cases g0 <;>
    first
    | exact ⟨true, rfl, fun e => by cases e⟩
    | exact ⟨g2, rfl, fun e => ⟨f0 rfl, f2 e, by omega⟩⟩

def z140 (t : Tk) : Nat := t.2.1.length + 1 + z8n t.2.1

theorem z1az (N : Nat) {x12 : List Tk} {x13 x14 : Int} {ls : List Lk} {m : Nat} (hm : m <= 100000) (hl : ls.length <= 100) (hN : 200 < N) (k0 : Int -> Option Int) :
    zcr N ((m : Nat) : Int) x12 x13 x14 ls ((ls.length : Nat) : Int) 0 k0 = k0 ((m + z8n ls : Nat) : Int) := by
  rw [zcr]
  refine (z3i (γ := Nat × Nat) (fun g v => v = (((g.1 : Nat) : Int), ((g.2 : Nat) : Int)) /\ g.2 <= ls.length /\ g.1 <= 100000 + g.2) (fun v => ls.length - v.2.toNat) (fun g => k0 ((g.1 + z8n (ls.drop g.2) : Nat) : Int)) ?_ N (m, 0) (((m : Nat) : Int), 0) ⟨rfl, by omega, by simp only; omega⟩ (by simp only; omega)).trans (by rfl)
  rintro ⟨c, j⟩ v r ⟨rfl, hj, hc⟩ hr
  simp only at hj hc
  simp only
  rw [zcp]
  by_cases hlt : j < ls.length
  . rw [zg (decide_eq_true (by omega)), zg (zz hlt), Int.toNat_natCast, z11t, z1n ls ([], [], ()) j hlt, zdz]
    by_cases h : (ls.getD j ([], [], ())).2.1 = []
    . rw [decide_eq_true h, Bool.not_true, cond_false, if_pos h, z15 (by omega)]
      refine (hr (c, j + 1) _ ⟨rfl, by simp only; omega, by simp only; omega⟩ (by simp only; omega)).trans ?_
      simp only [Nat.zero_add]
    . rw [decide_eq_false h, Bool.not_false, cond_true, if_neg h, z15 (by omega), z15 (by omega)]
      refine (hr (c + 1, j + 1) _ ⟨rfl, by simp only; omega, by simp only; omega⟩ (by simp only; omega)).trans ?_
      simp only [Nat.add_assoc]
  . rw [zr (decide_eq_false (by omega)), z2z _ (by omega)]
    rfl

theorem z15l (N : Nat) {all : List Tk} {m : Nat} (hm : m <= 1000) (ha : all.length <= 20) (hl : ∀ t ∈ all, t.2.1.length <= 100) (hN : 200 < N) (k0 : Int -> Option Int) :
    zcs N ((m : Nat) : Int) all ((all.length : Nat) : Int) 0 k0 = k0 ((m + (all.map z140).sum : Nat) : Int) := by
  rw [zcs]
  refine (z3i (γ := Nat × Nat) (fun g v => v = (((g.1 : Nat) : Int), ((g.2 : Nat) : Int)) /\ g.2 <= all.length /\ g.1 <= 1000 + 201 * g.2) (fun v => all.length - v.2.toNat) (fun g => k0 ((g.1 + ((all.drop g.2).map z140).sum : Nat) : Int)) ?_ N (m, 0) (((m : Nat) : Int), 0) ⟨rfl, by omega, by simp only; omega⟩ (by simp only; omega)).trans (by rfl)
  rintro ⟨c, j⟩ v r ⟨rfl, hj, hc⟩ hr
  simp only at hj hc
  simp only
  rw [zcq]
  by_cases hlt : j < all.length
  . have h1 := hl _ (z43 all z10 j hlt)
    have h2 := zjh (all.getD j z10).2.1
    rw [zg (decide_eq_true (by omega)), zg (zz hlt), Int.toNat_natCast, show (([] : List UInt8), (([] : List ((List UInt8) × ((List UInt8) × Unit))), (([] : List UInt8), ()))) = z10 from rfl]
    rw [z1e (x := (((all.getD j z10).2.1.length : Nat) : Int) + 1) (by unfold I64; omega), z1e (x := ((c : Nat) : Int) + ((((all.getD j z10).2.1.length : Nat) : Int) + 1)) (by unfold I64; omega)]
    rw [show ((c : Nat) : Int) + ((((all.getD j z10).2.1.length : Nat) : Int) + 1) = ((c + ((all.getD j z10).2.1.length + 1) : Nat) : Int) by omega, z1az N (by omega) h1 hN, z15 (by omega), z1n all z10 j hlt]
    refine (hr (c + ((all.getD j z10).2.1.length + 1) + z8n (all.getD j z10).2.1, j + 1) _ ⟨rfl, by simp only; omega, by simp only; omega⟩ (by simp only; omega)).trans ?_
    simp only [List.map_cons, List.sum_cons]
    congr 2
    unfold z140
    omega
  . rw [zr (decide_eq_false (by omega)), z2z _ (by omega)]
    rfl

theorem zrx : ∀ ts : List Tk, (ts.map z16a).sum = (ts.map z140).sum + ts.length
  | [] => rfl
  | t :: ts => by
    rw [List.map_cons, List.sum_cons, zrx ts, List.map_cons, List.sum_cons, List.length_cons]
    unfold z16a z140
    omega

theorem z12c (N : Nat) (hN : 200 < N) {b : zau} (hb : FairB b) : z6y N b = some ((zpy b : Nat) : Int) := by
  have h10 := hb.len
  have hl : ∀ t ∈ b.1 :: b.2.1, t.2.1.length <= 100 := by
    intro t ht
    rcases List.mem_cons.1 ht with rfl | ht
    . have := hb.one.len; omega
    . have := (hb.more t ht).len; omega
  rw [z6y, zt0 N (by omega), Option.bind_some, z15l N (by omega) (by simp only [List.length_cons]; omega) hl hN]
  congr 2
  rw [List.map_cons, List.sum_cons]
  unfold zpy
  rw [zrx]
  unfold z140
  omega

theorem z157 (N : Nat) {all : List Tk} {i m : Nat} (hm : m <= 100000) (hi : i < all.length) (hl : (all.getD i z10).2.1.length <= 100) (hN : 200 < N) (k0 : Int -> Option Int) :
    z74 N ((m : Nat) : Int) all (i : Int) 0 k0 = k0 ((m + z8n (all.getD i z10).2.1 : Nat) : Int) := by
  rw [z74]
  refine (z3i (γ := Nat × Nat) (fun g v => v = (((g.1 : Nat) : Int), ((g.2 : Nat) : Int)) /\ g.2 <= (all.getD i z10).2.1.length /\ g.1 <= 100000 + g.2) (fun v => (all.getD i z10).2.1.length - v.2.toNat) (fun g => k0 ((g.1 + z8n ((all.getD i z10).2.1.drop g.2) : Nat) : Int)) ?_ N (m, 0) (((m : Nat) : Int), 0) ⟨rfl, by omega, by simp only; omega⟩ (by simp only; omega)).trans (by rfl)
  rintro ⟨c, j⟩ v r ⟨rfl, hj, hc⟩ hr
  simp only at hj hc
  simp only
  rw [z6z, zg (zz hi), Int.toNat_natCast, zg (decide_eq_true hi), show (([] : List UInt8), (([] : List ((List UInt8) × ((List UInt8) × Unit))), (([] : List UInt8), ()))) = z10 from rfl]
  by_cases hlt : j < (all.getD i z10).2.1.length
  . rw [zg (decide_eq_true (by omega)), z73, zg (zz hi), Int.toNat_natCast, zg (decide_eq_true hi), show (([] : List UInt8), (([] : List ((List UInt8) × ((List UInt8) × Unit))), (([] : List UInt8), ()))) = z10 from rfl, zg (zz hlt), Int.toNat_natCast, z1n (all.getD i z10).2.1 ([], [], ()) j hlt, zdz]
    by_cases h : ((all.getD i z10).2.1.getD j ([], [], ())).2.1 = []
    . rw [beq_iff_eq.2 h, Bool.not_true, cond_false, if_pos h, z15 (by omega)]
      refine (hr (c, j + 1) _ ⟨rfl, by simp only; omega, by simp only; omega⟩ (by simp only; omega)).trans ?_
      simp only [Nat.zero_add]
    . rw [beq_eq_false_iff_ne.2 h, Bool.not_false, cond_true, if_neg h, z15 (by omega), z15 (by omega)]
      refine (hr (c + 1, j + 1) _ ⟨rfl, by simp only; omega, by simp only; omega⟩ (by simp only; omega)).trans ?_
      simp only [Nat.add_assoc]
  . rw [zr (decide_eq_false (by omega)), z2z _ (by omega)]
    rfl

theorem z11c (N : Nat) {all : List Tk} {m : Nat} (hm : m <= 1000) (ha : all.length <= 20) (hl : ∀ t ∈ all, t.2.1.length <= 100) (hN : 200 < N) (k0 : Int -> Option Int) :
    z77 N ((m : Nat) : Int) all 0 k0 = k0 ((m + (all.map z140).sum : Nat) : Int) := by
  rw [z77]
  refine (z3i (γ := Nat × Nat) (fun g v => v = (((g.1 : Nat) : Int), ((g.2 : Nat) : Int)) /\ g.2 <= all.length /\ g.1 <= 1000 + 201 * g.2) (fun v => all.length - v.2.toNat) (fun g => k0 ((g.1 + ((all.drop g.2).map z140).sum : Nat) : Int)) ?_ N (m, 0) (((m : Nat) : Int), 0) ⟨rfl, by omega, by simp only; omega⟩ (by simp only; omega)).trans (by rfl)
  rintro ⟨c, j⟩ v r ⟨rfl, hj, hc⟩ hr
  simp only at hj hc
  simp only
  rw [z71]
  by_cases hlt : j < all.length
  . have h1 := hl _ (z43 all z10 j hlt)
    have h2 := zjh (all.getD j z10).2.1
    rw [zg (decide_eq_true (by omega)), zg (zz hlt), Int.toNat_natCast, zg (decide_eq_true hlt), show (([] : List UInt8), (([] : List ((List UInt8) × ((List UInt8) × Unit))), (([] : List UInt8), ()))) = z10 from rfl]
    rw [z15 (by omega), z1e (x := ((c + 1 : Nat) : Int) + (((all.getD j z10).2.1.length : Nat) : Int)) (by unfold I64; omega)]
    rw [show ((c + 1 : Nat) : Int) + (((all.getD j z10).2.1.length : Nat) : Int) = ((c + ((all.getD j z10).2.1.length + 1) : Nat) : Int) by omega, z157 N (by omega) hlt h1 hN, z15 (by omega), z1n all z10 j hlt]
    refine (hr (c + ((all.getD j z10).2.1.length + 1) + z8n (all.getD j z10).2.1, j + 1) _ ⟨rfl, by simp only; omega, by simp only; omega⟩ (by simp only; omega)).trans ?_
    simp only [List.map_cons, List.sum_cons]
    congr 2
    unfold z140
    omega
  . rw [zr (decide_eq_false (by omega)), z2z _ (by omega)]
    rfl

theorem zxw (N : Nat) (hN : 200 < N) {b : zau} (hb : FairB b) : z4n N b = some ((zpy b : Nat) : Int) := by
  have h10 := hb.len
  have hl : ∀ t ∈ [b.1] ++ b.2.1, t.2.1.length <= 100 := by
    intro t ht
    rcases List.mem_cons.1 ht with rfl | ht
    . have := hb.one.len; omega
    . have := (hb.more t ht).len; omega
  rw [z4n, zg (decide_eq_true (by omega)), z11c N (by omega) (by simp only [List.length_append, List.length_cons, List.length_nil]; omega) hl hN]
  congr 2
  rw [List.singleton_append, List.map_cons, List.sum_cons]
  unfold zpy
  rw [zrx]
  unfold z140
  omega

theorem zzc (k : Nat) (hk : 600 <= k) {key : List UInt8} {b : zau} (hb : GoodB b) (hl : key.length <= 30000) : (za7 (k + 100) key b).1.work <= zpy b := by
  unfold za7
  split
  . exact (zk4 k hk hb 20 0 _ (zrl k hk hb hl)).1
  . unfold stA zpy
    simp only
    omega

theorem z10q (N : Nat) (hN : 1000 < N) {key : List UInt8} {b : zau} (h : zb0 b = false) : z30 N key b = some ([], 3, ()) /\ z4d N key b = some 0 := by
  rw [z30, z4d, znd N hN, h]
  exact ⟨rfl, rfl⟩

theorem zyr (k : Nat) (hk : 4400 <= k) {key : List UInt8} {b : zau} (hb : GoodB b) (hl : key.length <= 30000) (h : zb0 b = true) :
    z30 (k + 100) key b = some (if (za7 (k + 100) key b).2 = 0 then (za7 (k + 100) key b).1.texts else [], (za7 (k + 100) key b).2, ()) /\ z4d (k + 100) key b = some (((za7 (k + 100) key b).1.work : Nat) : Int) := by
  have hv := zuz k hk hb hl
  rw [z30, z4d, znd _ (by omega), h, Option.bind_some, Option.bind_some, Bool.not_true, cond_false, cond_false]
  cases hr : z4c (k + 100) b with
  | none => rw [hr] at hv; cases hv
  | some r =>
    rw [hr, Option.bind_some] at hv
    rw [Option.bind_some, Option.bind_some, hv, Option.bind_some, Option.bind_some]
    refine ⟨?_, rfl⟩
    by_cases h0 : (za7 (k + 100) key b).2 = 0
    . rw [zr (by rw [h0]; rfl), if_pos h0, h0]; rfl
    . rw [zg (bne_iff_ne.2 h0), if_neg h0]

end
end Go.Proofs.YtkipbccgnekoaaaGreatDoorLg

set_option linter.all false
set_option maxRecDepth 100000
namespace Go.Proofs.YtkipbccgnekoaaaGreatDoorLg
noncomputable section
open Go Go.Lift

abbrev z1g : Type := ((List Bool) × ((List (List UInt8)) × (Int × (Int × ((List (List UInt8)) × Unit)))))

abbrev z6k : T := (.pair (.pair .str (.pair (.sl (.pair .str (.pair .str .unit))) (.pair .str .unit))) (.pair (.sl (.pair .str (.pair (.sl (.pair .str (.pair .str .unit))) (.pair .str .unit)))) .unit))

abbrev z6j : T := (.pair (.sl .bool) (.pair (.sl .str) (.pair (.int .i64) (.pair (.int .i64) (.pair (.sl .str) .unit)))))

abbrev z4u : Type := ((List UInt8) × ((List ((List UInt8) × ((List UInt8) × Unit))) × ((List UInt8) × Unit)))

abbrev z9v : T := (.pair (.own .bool) (.pair (.own .str) (.pair (.int .i64) (.pair (.int .i64) (.pair (.own .str) .unit)))))

abbrev zjd : T := (.pair .str (.pair (.sl (.pair .str (.pair .str .unit))) (.pair .str .unit)))

abbrev zre : Type := ((List UInt8) × ((List UInt8) × Unit))

def z2a : Code := (Tryz.f9.body).getD .skip

def zuw : List (List Nat × List Nat) := [([0], [3, 4, 0]), ([0, 1], [3, 5, 4, 0]), ([0, 0, 1, 1], [6, 3, 5, 4, 0]), ([0, 1, 0, 1, 1], [6, 3, 5, 4, 0]), ([0, 0, 0, 0, 1, 0, 1, 1], [23, 5, 3, 6, 4, 0]), ([1, 0, 0, 0, 1, 0, 1, 1], [5, 3, 6, 4, 0]), ([1, 1, 0, 0, 0, 1, 0, 1, 1], [3, 5, 4, 0]), ([0, 0, 0, 1, 0, 0, 1, 0, 1, 1], [3, 6, 5, 4, 0]), ([0, 1, 0, 0, 1, 0, 0, 1, 0, 1, 1], [38, 5, 6, 3, 4, 0]), ([1, 1, 0, 0, 1, 0, 0, 1, 0, 1, 1], [6, 3, 5, 4, 0]), ([0, 1, 1, 0, 0, 1, 0, 0, 1, 0, 1, 1], [6, 3, 5, 4, 0]), ([0, 1, 0, 0, 1, 0, 1, 1], [6, 3, 5, 4, 0]), ([1, 1, 0, 0, 1, 0, 1, 1], [6, 3, 5, 4, 0]), ([1, 0, 1, 1], [3, 5, 4, 0]), ([0, 0, 1, 1, 1], [50, 5, 4, 0, 3]), ([1, 0, 1, 1, 1], [5, 4, 0, 3]), ([0, 1, 0, 1, 1, 1], [5, 4, 0, 3]), ([0, 0, 1, 1, 1, 1], [54, 5, 4, 0, 3]), ([1, 0, 1, 1, 1, 1], [0, 3, 5, 4]), ([0, 0, 1, 0, 1, 1, 1, 1], [4]), ([1, 0, 1, 0, 1, 1, 1, 1], [4]), ([0, 1, 1, 1, 1, 1], [3, 7, 5, 0, 4]), ([0, 1, 1, 1, 1, 1, 1], [7, 5, 0, 3, 4, 8]), ([0, 1, 1, 1, 1, 1, 1, 1], [0, 3, 5, 7, 4, 8]), ([0, 1, 1, 1, 1, 1, 1, 1, 1], [7, 3, 5, 4, 8]), ([0, 0, 1, 1, 1, 1, 1, 1, 1, 1, 1], [81, 5, 4, 8, 7, 3]), ([1, 0, 1, 1, 1, 1, 1, 1, 1, 1, 1], [8, 5, 7, 3, 4]), ([0, 0, 1, 0, 1, 1, 1, 1, 1, 1, 1, 1, 1], [5, 4]), ([0, 1, 0, 1, 0, 1, 1, 1, 1, 1, 1, 1, 1, 1], [4]), ([1, 1, 0, 1, 0, 1, 1, 1, 1, 1, 1, 1, 1, 1], [4]), ([0, 0, 1, 1, 1, 1, 1, 1, 1, 1, 1, 1], [9, 8, 5, 7, 3, 4]), ([0, 1, 0, 1, 1, 1, 1, 1, 1, 1, 1, 1, 1], [9, 8, 5, 7, 3, 4]), ([0, 0, 0, 0, 1, 0, 1, 1, 1, 1, 1, 1, 1, 1, 1, 1], [87, 8, 9, 5, 7, 3, 4]), ([1, 0, 0, 0, 1, 0, 1, 1, 1, 1, 1, 1, 1, 1, 1, 1], [8, 9, 5, 7, 3, 4]), ([1, 1, 0, 0, 0, 1, 0, 1, 1, 1, 1, 1, 1, 1, 1, 1, 1], [5, 4]), ([0, 0, 0, 1, 0, 0, 1, 0, 1, 1, 1, 1, 1, 1, 1, 1, 1, 1], [10, 8, 9, 5, 7, 3, 4]), ([0, 1, 0, 0, 1, 0, 0, 1, 0, 1, 1, 1, 1, 1, 1, 1, 1, 1, 1], [10, 8, 9, 5, 7, 3, 4]), ([0, 0, 0, 0, 1, 0, 0, 1, 0, 0, 1, 0, 1, 1, 1, 1, 1, 1, 1, 1, 1, 1], [97, 8, 9, 10, 5, 7, 3, 4]), ([1, 0, 0, 0, 1, 0, 0, 1, 0, 0, 1, 0, 1, 1, 1, 1, 1, 1, 1, 1, 1, 1], [8, 9, 10, 5, 7, 3, 4]), ([1, 1, 0, 0, 0, 1, 0, 0, 1, 0, 0, 1, 0, 1, 1, 1, 1, 1, 1, 1, 1, 1, 1], [9, 8, 5, 7, 3, 4]), ([0, 0, 0, 1, 0, 0, 1, 0, 0, 1, 0, 0, 1, 0, 1, 1, 1, 1, 1, 1, 1, 1, 1, 1], [11, 5, 10, 8, 9, 7, 3, 4]), ([0, 0, 1, 0, 0, 1, 0, 0, 1, 0, 0, 1, 0, 0, 1, 0, 1, 1, 1, 1, 1, 1, 1, 1, 1, 1], [110, 5, 11, 10, 8, 9, 7, 3, 4]), ([1, 0, 1, 0, 0, 1, 0, 0, 1, 0, 0, 1, 0, 0, 1, 0, 1, 1, 1, 1, 1, 1, 1, 1, 1, 1], [5, 7, 9, 10, 11, 3, 4, 8]), ([0, 0, 1, 0, 1, 0, 0, 1, 0, 0, 1, 0, 0, 1, 0, 0, 1, 0, 1, 1, 1, 1, 1, 1, 1, 1, 1, 1], [10, 8, 9, 5, 7, 3, 4]), ([1, 0, 1, 0, 1, 0, 0, 1, 0, 0, 1, 0, 0, 1, 0, 0, 1, 0, 1, 1, 1, 1, 1, 1, 1, 1, 1, 1], [10, 8, 9, 5, 7, 3, 4]), ([0, 1, 1, 0, 0, 1, 0, 0, 1, 0, 0, 1, 0, 0, 1, 0, 1, 1, 1, 1, 1, 1, 1, 1, 1, 1], [7, 9, 10, 5, 11, 3, 4, 8]), ([0, 1, 1, 1, 0, 0, 1, 0, 0, 1, 0, 0, 1, 0, 0, 1, 0, 1, 1, 1, 1, 1, 1, 1, 1, 1, 1], [5, 7, 9, 10, 12, 11, 3, 4, 8]), ([0, 1, 1, 1, 1, 0, 0, 1, 0, 0, 1, 0, 0, 1, 0, 0, 1, 0, 1, 1, 1, 1, 1, 1, 1, 1, 1, 1], [5, 12, 11, 3, 4, 8, 7, 10, 9]), ([0, 1, 1, 1, 1, 1, 0, 0, 1, 0, 0, 1, 0, 0, 1, 0, 0, 1, 0, 1, 1, 1, 1, 1, 1, 1, 1, 1, 1], [12, 11, 3, 5, 4, 8, 7, 10, 9]), ([0, 1, 1, 1, 1, 1, 1, 0, 0, 1, 0, 0, 1, 0, 0, 1, 0, 0, 1, 0, 1, 1, 1, 1, 1, 1, 1, 1, 1, 1], [3, 14, 5, 11, 4, 13, 8, 7, 10, 9]), ([0, 1, 1, 1, 1, 1, 1, 1, 0, 0, 1, 0, 0, 1, 0, 0, 1, 0, 0, 1, 0, 1, 1, 1, 1, 1, 1, 1, 1, 1, 1], [3, 14, 5, 11, 15, 4, 13, 8, 7, 10, 9]), ([0, 0, 1, 1, 1, 1, 1, 1, 1, 1, 0, 0, 1, 0, 0, 1, 0, 0, 1, 0, 0, 1, 0, 1, 1, 1, 1, 1, 1, 1, 1, 1, 1], [16, 14, 5, 3, 11, 15, 4, 13, 8, 7, 10, 9]), ([0, 1, 0, 1, 1, 1, 1, 1, 1, 1, 1, 0, 0, 1, 0, 0, 1, 0, 0, 1, 0, 0, 1, 0, 1, 1, 1, 1, 1, 1, 1, 1, 1, 1], [16, 14, 5, 3, 11, 15, 4, 13, 8, 7, 10, 9]), ([0, 0, 0, 0, 1, 0, 1, 1, 1, 1, 1, 1, 1, 1, 0, 0, 1, 0, 0, 1, 0, 0, 1, 0, 0, 1, 0, 1, 1, 1, 1, 1, 1, 1, 1, 1, 1], [169, 5, 16, 3, 11, 14, 4, 13, 8, 7, 10, 9, 15]), ([1, 0, 0, 0, 1, 0, 1, 1, 1, 1, 1, 1, 1, 1, 0, 0, 1, 0, 0, 1, 0, 0, 1, 0, 0, 1, 0, 1, 1, 1, 1, 1, 1, 1, 1, 1, 1], [5, 16, 3, 11, 14, 4, 13, 8, 7, 10, 9, 15]), ([1, 1, 0, 0, 0, 1, 0, 1, 1, 1, 1, 1, 1, 1, 1, 0, 0, 1, 0, 0, 1, 0, 0, 1, 0, 0, 1, 0, 1, 1, 1, 1, 1, 1, 1, 1, 1, 1], [15, 5, 4, 13, 3, 8, 7, 10, 9]), ([0, 0, 0, 1, 0, 0, 1, 0, 1, 1, 1, 1, 1, 1, 1, 1, 0, 0, 1, 0, 0, 1, 0, 0, 1, 0, 0, 1, 0, 1, 1, 1, 1, 1, 1, 1, 1, 1, 1], [188, 16, 14, 5, 3, 11, 4, 13, 8, 7, 10, 9, 15]), ([1, 0, 0, 1, 0, 0, 1, 0, 1, 1, 1, 1, 1, 1, 1, 1, 0, 0, 1, 0, 0, 1, 0, 0, 1, 0, 0, 1, 0, 1, 1, 1, 1, 1, 1, 1, 1, 1, 1], [16, 14, 5, 3, 11, 15, 4, 13, 8, 7, 10, 9]), ([0, 1, 0, 0, 1, 0, 0, 1, 0, 1, 1, 1, 1, 1, 1, 1, 1, 0, 0, 1, 0, 0, 1, 0, 0, 1, 0, 0, 1, 0, 1, 1, 1, 1, 1, 1, 1, 1, 1, 1], [16, 14, 5, 3, 11, 15, 4, 13, 8, 7, 10, 9]), ([0, 1, 0, 0, 1, 0, 1, 1, 1, 1, 1, 1, 1, 1, 0, 0, 1, 0, 0, 1, 0, 0, 1, 0, 0, 1, 0, 1, 1, 1, 1, 1, 1, 1, 1, 1, 1], [16, 14, 5, 3, 11, 15, 4, 13, 8, 7, 10, 9]), ([1, 1, 0, 0, 1, 0, 1, 1, 1, 1, 1, 1, 1, 1, 0, 0, 1, 0, 0, 1, 0, 0, 1, 0, 0, 1, 0, 1, 1, 1, 1, 1, 1, 1, 1, 1, 1], [16, 14, 5, 3, 11, 15, 4, 13, 8, 7, 10, 9]), ([1, 0, 1, 1, 1, 1, 1, 1, 1, 1, 0, 0, 1, 0, 0, 1, 0, 0, 1, 0, 0, 1, 0, 1, 1, 1, 1, 1, 1, 1, 1, 1, 1], [15, 5, 4, 13, 3, 8, 7, 10, 9]), ([0, 0, 1, 1, 1, 1, 1, 1, 1, 1, 1, 0, 0, 1, 0, 0, 1, 0, 0, 1, 0, 0, 1, 0, 1, 1, 1, 1, 1, 1, 1, 1, 1, 1], [191, 5, 4, 15, 13, 3, 8, 7, 10, 9]), ([1, 0, 1, 1, 1, 1, 1, 1, 1, 1, 1, 0, 0, 1, 0, 0, 1, 0, 0, 1, 0, 0, 1, 0, 1, 1, 1, 1, 1, 1, 1, 1, 1, 1], [5, 15, 13, 3, 4, 8, 7, 10, 9]), ([0, 0, 1, 0, 1, 1, 1, 1, 1, 1, 1, 1, 1, 0, 0, 1, 0, 0, 1, 0, 0, 1, 0, 0, 1, 0, 1, 1, 1, 1, 1, 1, 1, 1, 1, 1], [5, 4]), ([0, 1, 0, 1, 0, 1, 1, 1, 1, 1, 1, 1, 1, 1, 0, 0, 1, 0, 0, 1, 0, 0, 1, 0, 0, 1, 0, 1, 1, 1, 1, 1, 1, 1, 1, 1, 1], [4]), ([1, 1, 0, 1, 0, 1, 1, 1, 1, 1, 1, 1, 1, 1, 0, 0, 1, 0, 0, 1, 0, 0, 1, 0, 0, 1, 0, 1, 1, 1, 1, 1, 1, 1, 1, 1, 1], [4]), ([0, 1, 1, 1, 1, 1, 1, 1, 1, 1, 1, 0, 0, 1, 0, 0, 1, 0, 0, 1, 0, 0, 1, 0, 1, 1, 1, 1, 1, 1, 1, 1, 1, 1], [13, 3, 15, 5, 4, 8, 7, 10, 9]), ([0, 1, 1, 1, 1, 1, 1, 1, 1, 1, 1, 1, 0, 0, 1, 0, 0, 1, 0, 0, 1, 0, 0, 1, 0, 1, 1, 1, 1, 1, 1, 1, 1, 1, 1], [5, 17, 13, 3, 15, 4, 8, 7, 10, 9]), ([0, 1, 1, 1, 1, 1, 1, 1, 1, 1, 1, 1, 1, 0, 0, 1, 0, 0, 1, 0, 0, 1, 0, 0, 1, 0, 1, 1, 1, 1, 1, 1, 1, 1, 1, 1], [5, 13, 3, 15, 17, 4, 8, 7, 10, 9]), ([0, 1, 1, 1, 1, 1, 1, 1, 1, 1, 1, 1, 1, 1, 0, 0, 1, 0, 0, 1, 0, 0, 1, 0, 0, 1, 0, 1, 1, 1, 1, 1, 1, 1, 1, 1, 1], [5, 3, 17, 15, 4, 8, 7, 10, 9]), ([0, 1, 1, 1, 1, 1, 1, 1, 1, 1, 1, 1, 1, 1, 1, 0, 0, 1, 0, 0, 1, 0, 0, 1, 0, 0, 1, 0, 1, 1, 1, 1, 1, 1, 1, 1, 1, 1], [3, 17, 15, 5, 4, 8, 7, 10, 9]), ([0, 0, 1, 1, 1, 1, 1, 1, 1, 1, 1, 1, 1, 1, 1, 1, 1, 0, 0, 1, 0, 0, 1, 0, 0, 1, 0, 0, 1, 0, 1, 1, 1, 1, 1, 1, 1, 1, 1, 1], [248, 5, 4, 8, 3, 15, 7, 17, 10, 9]), ([1, 0, 1, 1, 1, 1, 1, 1, 1, 1, 1, 1, 1, 1, 1, 1, 1, 0, 0, 1, 0, 0, 1, 0, 0, 1, 0, 0, 1, 0, 1, 1, 1, 1, 1, 1, 1, 1, 1, 1], [8, 3, 15, 7, 17, 10, 9, 5, 4]), ([0, 0, 1, 0, 1, 1, 1, 1, 1, 1, 1, 1, 1, 1, 1, 1, 1, 1, 1, 0, 0, 1, 0, 0, 1, 0, 0, 1, 0, 0, 1, 0, 1, 1, 1, 1, 1, 1, 1, 1, 1, 1], [5, 4]), ([0, 1, 0, 1, 0, 1, 1, 1, 1, 1, 1, 1, 1, 1, 1, 1, 1, 1, 1, 1, 0, 0, 1, 0, 0, 1, 0, 0, 1, 0, 0, 1, 0, 1, 1, 1, 1, 1, 1, 1, 1, 1, 1], [4]), ([1, 1, 0, 1, 0, 1, 1, 1, 1, 1, 1, 1, 1, 1, 1, 1, 1, 1, 1, 1, 0, 0, 1, 0, 0, 1, 0, 0, 1, 0, 0, 1, 0, 1, 1, 1, 1, 1, 1, 1, 1, 1, 1], [4]), ([0, 1, 1, 1, 1, 1, 1, 1, 1, 1, 1, 1, 1, 1, 1, 1, 1, 0, 0, 1, 0, 0, 1, 0, 0, 1, 0, 0, 1, 0, 1, 1, 1, 1, 1, 1, 1, 1, 1, 1], [7, 17, 10, 8, 9, 5, 3, 4]), ([1, 1, 1, 1, 1, 1, 1, 1, 1, 1, 1, 1, 1, 1, 1, 1, 1, 0, 0, 1, 0, 0, 1, 0, 0, 1, 0, 0, 1, 0, 1, 1, 1, 1, 1, 1, 1, 1, 1, 1], [10, 8, 9, 5, 7, 3, 4]), ([0, 1, 0, 0, 1, 0, 0, 1, 0, 0, 1, 0, 1, 1, 1, 1, 1, 1, 1, 1, 1, 1], [10, 8, 9, 5, 7, 3, 4]), ([1, 1, 0, 0, 1, 0, 0, 1, 0, 0, 1, 0, 1, 1, 1, 1, 1, 1, 1, 1, 1, 1], [10, 8, 9, 5, 7, 3, 4]), ([1, 0, 0, 1, 0, 0, 1, 0, 1, 1, 1, 1, 1, 1, 1, 1, 1, 1], [9, 8, 5, 7, 3, 4]), ([0, 1, 0, 0, 1, 0, 1, 1, 1, 1, 1, 1, 1, 1, 1, 1], [9, 8, 5, 7, 3, 4]), ([1, 1, 0, 0, 1, 0, 1, 1, 1, 1, 1, 1, 1, 1, 1, 1], [9, 8, 5, 7, 3, 4]), ([1, 0, 1, 1, 1, 1, 1, 1, 1, 1, 1, 1], [5, 4]), ([0, 0, 1, 1, 1, 1, 1, 1, 1, 1, 1, 1, 1], [18, 5, 4]), ([0, 1, 0, 1, 1, 1, 1, 1, 1, 1, 1, 1, 1, 1], [18, 5, 4]), ([0, 0, 0, 0, 1, 0, 1, 1, 1, 1, 1, 1, 1, 1, 1, 1, 1], [267, 5, 18, 4]), ([1, 0, 0, 0, 1, 0, 1, 1, 1, 1, 1, 1, 1, 1, 1, 1, 1], [5, 18, 4]), ([1, 1, 0, 0, 0, 1, 0, 1, 1, 1, 1, 1, 1, 1, 1, 1, 1, 1], [5, 4]), ([0, 0, 0, 1, 0, 0, 1, 0, 1, 1, 1, 1, 1, 1, 1, 1, 1, 1, 1], [275, 5, 18, 4]), ([1, 0, 0, 1, 0, 0, 1, 0, 1, 1, 1, 1, 1, 1, 1, 1, 1, 1, 1], [18, 5, 4]), ([0, 1, 0, 0, 1, 0, 0, 1, 0, 1, 1, 1, 1, 1, 1, 1, 1, 1, 1, 1], [18, 5, 4]), ([0, 1, 0, 0, 1, 0, 1, 1, 1, 1, 1, 1, 1, 1, 1, 1, 1], [18, 5, 4]), ([1, 1, 0, 0, 1, 0, 1, 1, 1, 1, 1, 1, 1, 1, 1, 1, 1], [18, 5, 4]), ([1, 0, 1, 1, 1, 1, 1, 1, 1, 1, 1, 1, 1], [5, 4]), ([0, 1, 1, 1, 1, 1, 1, 1, 1, 1, 1, 1, 1], [4]), ([1, 1, 1, 1, 1, 1, 1, 1, 1, 1, 1, 1, 1], [4])]

def zuv (N : Nat) : Env := z16 tys glob [(18, z9d N), (29, z66 N), (30, za8 N), (31, z1s N), (32, z6o N), (33, z2m N), (34, z2n N), (35, z9i N), (36, zad N), (37, z6p N)] [(17, .str), (8, zjd), (7, (.sl .str))] [] [] false [(5, z9v)] [(123, zd N), (66, zb N), (98, z7 N), (112, zbw N), (123, zd N), (66, zb N), (98, z7 N)]

theorem z1pz (N : Nat) : EnvOk Tryz.prog (zuv N) := zk mixed zp (FnsOk.cons (zhk N) (FnsOk.cons (zbf N) (FnsOk.cons (zit N) (FnsOk.cons (z2b N) (FnsOk.cons (zde N) (FnsOk.cons (z3t N) (FnsOk.cons (z3v N) (FnsOk.cons (zhm N) (FnsOk.cons (ziw N) (FnsOk.cons (zdf N) (FnsOk.nil))))))))))) (ItsOk.cons (zf N) (ItsOk.cons (ze N) (ItsOk.cons (z8 N) (ItsOk.cons (zi3 N) (ItsOk.cons (zf N) (ItsOk.cons (ze N) (ItsOk.cons (z8 N) (ItsOk.nil))))))))

def zo4 (N : Nat) (key : (List UInt8)) (b : (z4u × ((List z4u) × Unit))) (x4 : z1g) (p : z1g) (i : Int) (k0 : z1g -> Option z1g) : Option z1g :=
 cond (decide ((((List.length p.1) + 1) * 1) <= 70368744177664))
 (cond (inR i (List.length b.2.1))
 (cond (decide ((64 : Int) < (((List.length (List.getD b.2.1 (Int.toNat i) (([] : List UInt8), (([] : List zre), (([] : List UInt8), ())))).2.1) : Nat) : Int)))
 (k0 ((p.1 ++ ([false] : List Bool)), (p.2.1, (p.2.2.1, ((3 : Int), p.2.2.2.2)))))
 (k0 ((p.1 ++ ([false] : List Bool)), p.2)))
 (none))
 (none)

def z1no (N : Nat) (x : z1j [(0, .v .str), (2, .box z6k), (0, .box z6j), (0, .box z9v), (0, .v (.int .i64))]) (K : Ex -> List A -> Option z1g) : Option z1g :=
 zo4 N x.1 x.2.1 x.2.2.1 x.2.2.2.1 x.2.2.2.2.1 (fun a3 => (K .normal (mkS [(0, .v .str), (2, .box z6k), (0, .box z6j), (0, .box z9v), (0, .v (.int .i64))] 271 (x.1, x.2.1, x.2.2.1, a3, x.2.2.2.2.1, ()))))

def z1lr (N : Nat) : Hd z1g := fun st K => (unS [(0, .v .str), (2, .box z6k), (0, .box z6j), (0, .box z9v), (0, .v (.int .i64))] 271 (restr [5, 3, 6, 4, 0] 0 st)).bind fun x => z1no N x K

def t2_c0 (N : Nat) : Tab z1g := []

theorem z1je {N : Nat} {c : Ctx} (hb : Base Tryz.prog (zuv N) c) : zo Tryz.prog c (zl z2a [0, 1, 0, 0, 1, 0, 1, 1]) (z1lr N) :=
  z14 (s := [(0, .v .str), (2, .box z6k), (0, .box z6j), (0, .box z9v), (0, .v (.int .i64))]) (m := 271) (g := z1no N) [5, 3, 6, 4, 0] (zi hb N (t2_c0 N) zuw z2a TabOk.nil [0, 1, 0, 0, 1, 0, 1, 1] _ rfl) (fun x K => by kernel_rfl)

def zo0 (N : Nat) (key : (List UInt8)) (b : (z4u × ((List z4u) × Unit))) (x4 : z1g) (p : z1g) (i : Int) (rec : z1g -> Int -> Option z1g) (k0 : z1g -> Option z1g) : Option z1g :=
 cond (decide (i < (((List.length b.2.1) : Nat) : Int)))
 (zo4 N key b x4 p i
 (fun p1 => rec p1 (IntKind.wrap IntKind.i64 (i + (1 : Int)))))
 (k0 p)

def zo5 (N : Nat) (key : (List UInt8)) (b : (z4u × ((List z4u) × Unit))) (x4 : z1g) (p : z1g) (i : Int) (k0 : z1g -> Option z1g) : Option z1g :=
 iter (fun (v : (z1g × Int)) r => zo0 N key b x4 v.1 v.2 (fun p i => (r (p, i))) k0) N (p, i)

def z1o2 (N : Nat) (i : ((List UInt8) × (z4u × ((List z4u) × Unit)) × z1g)) (v : (z1g × Int)) (r : (z1g × Int) -> Option z1g) (K : Ex -> List A -> Option z1g) : Option z1g :=
 zo0 N i.1 i.2.1 i.2.2 v.1 v.2 (fun p i => (r (p, i))) (fun a3 => (K (.exit 0) (mkS [(0, .v .str), (2, .box z6k), (0, .box z6j), (0, .box z9v)] 272 (i.1, i.2.1, i.2.2, a3, ()))))

def z1m5 (N : Nat) : Hd z1g := fun st K => (unS [(0, .v .str), (2, .box z6k), (0, .box z6j), (0, .box z9v), (0, .v (.int .i64))] 271 (restr [6, 3, 5, 4, 0] 0 st)).bind fun x => iter (fun v r => z1o2 N ((fun x => (x.1, x.2.1, x.2.2.1)) x) v r K) N ((fun x => (x.2.2.2.1, x.2.2.2.2.1)) x)

def t1_c0 (N : Nat) : Tab z1g := [([0, 1, 0, 0, 1, 0, 1, 1], z1lr N)]

theorem z1js {N : Nat} {c : Ctx} (hb : Base Tryz.prog (zuv N) c) : zo Tryz.prog c (zl z2a [0, 1, 0, 1, 1]) (z1m5 N) :=
  z1i (s := [(0, .v .str), (2, .box z6k), (0, .box z6j), (0, .box z9v), (0, .v (.int .i64))]) (m := 271) (z1o2 N) [6, 3, 5, 4, 0] N (fun x => (x.1, x.2.1, x.2.2.1)) (fun x => (x.2.2.2.1, x.2.2.2.2.1)) (fun i v => (i.1, i.2.1, i.2.2, v.1, v.2, ())) (fun _ => rfl) (zi hb N (t1_c0 N) zuw z2a (TabOk.cons (z1je hb) TabOk.nil) [0, 0, 1, 0, 1, 1] _ rfl) (fun i v r K => by kernel_rfl)

def zjw (N : Nat) (key : (List UInt8)) (b : (z4u × ((List z4u) × Unit))) (x4 : z1g) (p : z1g) (k0 : Bool -> Option z1g) : Option z1g :=
 cond (decide ((8 : Int) < (((List.length b.2.1) : Nat) : Int)))
 (k0 true)
 (k0 (decide ((64 : Int) < (((List.length b.1.2.1) : Nat) : Int))))

def z1ne (N : Nat) (x : z1j [(0, .v .str), (2, .box z6k), (0, .box z6j), (0, .box z9v)]) (K : Ex -> List A -> Option z1g) : Option z1g :=
 zjw N x.1 x.2.1 x.2.2.1 x.2.2.2.1 (fun a4 => (K .normal (mkS [(0, .v .str), (2, .box z6k), (0, .box z6j), (0, .box z9v), (44, .v .bool)] 227 (x.1, x.2.1, x.2.2.1, x.2.2.2.1, a4, ()))))

def z1lh (N : Nat) : Hd z1g := fun st K => (unS [(0, .v .str), (2, .box z6k), (0, .box z6j), (0, .box z9v)] 272 (restr [3, 5, 4, 0] 0 st)).bind fun x => z1ne N x K

def t4_c0 (N : Nat) : Tab z1g := []

theorem z1j4 {N : Nat} {c : Ctx} (hb : Base Tryz.prog (zuv N) c) : zo Tryz.prog c (zl z2a [0, 0, 1, 1, 1]) (z1lh N) :=
  z14 (s := [(0, .v .str), (2, .box z6k), (0, .box z6j), (0, .box z9v)]) (m := 272) (g := z1ne N) [3, 5, 4, 0] (zi hb N (t4_c0 N) zuw z2a TabOk.nil [0, 0, 1, 1, 1] _ rfl) (fun x K => by kernel_rfl)

def zjx (N : Nat) (key : (List UInt8)) (b : (z4u × ((List z4u) × Unit))) (x4 : z1g) (p : z1g) (k0 : z1g -> Option z1g) : Option z1g :=
 zjw N key b x4 p
 (fun x50 => cond x50
 (k0 (p.1, (p.2.1, (p.2.2.1, ((3 : Int), p.2.2.2.2)))))
 (k0 p))

def z1nj (N : Nat) (x : z1j [(0, .v .str), (2, .box z6k), (0, .box z6j), (0, .box z9v)]) (K : Ex -> List A -> Option z1g) : Option z1g :=
 zjx N x.1 x.2.1 x.2.2.1 x.2.2.2.1 (fun a3 => (K .normal (mkS [(0, .v .str), (2, .box z6k), (0, .box z6j), (0, .box z9v)] 272 (x.1, x.2.1, x.2.2.1, a3, ()))))

def z1lm (N : Nat) : Hd z1g := fun st K => (unS [(0, .v .str), (2, .box z6k), (0, .box z6j), (0, .box z9v)] 272 (restr [3, 5, 4, 0] 0 st)).bind fun x => z1nj N x K

def t3_c0 (N : Nat) : Tab z1g := [([0, 0, 1, 1, 1], z1lh N)]

theorem z1j9 {N : Nat} {c : Ctx} (hb : Base Tryz.prog (zuv N) c) : zo Tryz.prog c (zl z2a [0, 1, 1, 1]) (z1lm N) :=
  z14 (s := [(0, .v .str), (2, .box z6k), (0, .box z6j), (0, .box z9v)]) (m := 272) (g := z1nj N) [3, 5, 4, 0] (zi hb N (t3_c0 N) zuw z2a (TabOk.cons (z1j4 hb) TabOk.nil) [0, 1, 1, 1] _ rfl) (fun x K => by kernel_rfl)

def zh8 (N : Nat) (b : (z4u × ((List z4u) × Unit))) (x4 : z1g) (p : z1g) (tags : (List (List (List UInt8)))) (tokens : (List z4u)) (i : Int) (k : Int) (l : zre) (ck : (List UInt8)) (e : Int) (at_ : Int) (n : Int) (k0 : Option z1g) (k1 : Option z1g) : Option z1g :=
 cond (decide ((0 : Int) <= n))
 (cond (e == (0 : Int))
 (k0)
 (k1))
 (k1)

def z18p (N : Nat) (x : z1j [(3, .box z6k), (0, .box z6j), (0, .box z9v), (1, .row (.sl .str)), (0, .row zjd), (0, .v (.int .i64)), (0, .v (.int .i64)), (0, .box (.pair .str (.pair .str .unit))), (1, .v .str), (0, .v (.int .i64)), (0, .v (.int .i64)), (0, .v (.int .i64))]) (K : Ex -> List A -> Option z1g) : Option z1g :=
 zh8 N x.1 x.2.1 x.2.2.1 x.2.2.2.1 x.2.2.2.2.1 x.2.2.2.2.2.1 x.2.2.2.2.2.2.1 x.2.2.2.2.2.2.2.1 x.2.2.2.2.2.2.2.2.1 x.2.2.2.2.2.2.2.2.2.1 x.2.2.2.2.2.2.2.2.2.2.1 x.2.2.2.2.2.2.2.2.2.2.2.1 (K .normal (mkS [(3, .box z6k), (0, .box z6j), (0, .box z9v), (1, .row (.sl .str)), (0, .row zjd), (0, .v (.int .i64)), (0, .v (.int .i64)), (0, .box (.pair .str (.pair .str .unit))), (1, .v .str), (0, .v (.int .i64)), (0, .v (.int .i64)), (0, .v (.int .i64))] 261 (x.1, x.2.1, x.2.2.1, x.2.2.2.1, x.2.2.2.2.1, x.2.2.2.2.2.1, x.2.2.2.2.2.2.1, x.2.2.2.2.2.2.2.1, x.2.2.2.2.2.2.2.2.1, x.2.2.2.2.2.2.2.2.2.1, x.2.2.2.2.2.2.2.2.2.2.1, x.2.2.2.2.2.2.2.2.2.2.2.1, ()))) (K (.exit 6) (mkS [(3, .box z6k), (0, .box z6j), (0, .box z9v), (1, .row (.sl .str)), (0, .row zjd), (0, .v (.int .i64)), (0, .v (.int .i64)), (2, .v .str), (1, .v (.int .i64))] 262 (x.1, x.2.1, x.2.2.1, x.2.2.2.1, x.2.2.2.2.1, x.2.2.2.2.2.1, x.2.2.2.2.2.2.1, x.2.2.2.2.2.2.2.2.1, x.2.2.2.2.2.2.2.2.2.2.1, ())))

def z188 (N : Nat) : Hd z1g := fun st K => (unS [(3, .box z6k), (0, .box z6j), (0, .box z9v), (1, .row (.sl .str)), (0, .row zjd), (0, .v (.int .i64)), (0, .v (.int .i64)), (0, .box (.pair .str (.pair .str .unit))), (1, .v .str), (0, .v (.int .i64)), (0, .v (.int .i64)), (0, .v (.int .i64))] 261 (restr [16, 14, 5, 3, 11, 4, 13, 8, 7, 10, 9, 15] 0 st)).bind fun x => z18p N x K

def z1im (N : Nat) : Tab z1g := []

theorem z1av {N : Nat} {c : Ctx} (hb : Base Tryz.prog (zuv N) c) : zo Tryz.prog c (zl z2a [0, 0, 0, 1, 0, 1, 1, 1, 1, 1, 1, 1, 1, 0, 0, 1, 0, 0, 1, 0, 0, 1, 0, 0, 1, 0, 1, 1, 1, 1, 1, 1, 1, 1, 1, 1]) (z188 N) :=
  z14 (s := [(3, .box z6k), (0, .box z6j), (0, .box z9v), (1, .row (.sl .str)), (0, .row zjd), (0, .v (.int .i64)), (0, .v (.int .i64)), (0, .box (.pair .str (.pair .str .unit))), (1, .v .str), (0, .v (.int .i64)), (0, .v (.int .i64)), (0, .v (.int .i64))]) (m := 261) (g := z18p N) [16, 14, 5, 3, 11, 4, 13, 8, 7, 10, 9, 15] (zi hb N (z1im N) zuw z2a TabOk.nil [0, 0, 0, 1, 0, 1, 1, 1, 1, 1, 1, 1, 1, 0, 0, 1, 0, 0, 1, 0, 0, 1, 0, 0, 1, 0, 1, 1, 1, 1, 1, 1, 1, 1, 1, 1] _ rfl) (fun x K => by kernel_rfl)

def zlc (N : Nat) (b : (z4u × ((List z4u) × Unit))) (x4 : z1g) (p : z1g) (tags : (List (List (List UInt8)))) (tokens : (List z4u)) (i : Int) (k : Int) (l : zre) (ck : (List UInt8)) (e : Int) (at_ : Int) (n : Int) (k0 : Bool -> Option z1g) : Option z1g :=
 cond (inR n (List.length p.1))
 (cond (decide ((Int.toNat n) < (List.length p.1)))
 (cond (!(List.getD p.1 (Int.toNat n) false))
 (cond (inR n (List.length b.2.1))
 (k0 ((List.getD b.2.1 (Int.toNat n) (([] : List UInt8), (([] : List zre), (([] : List UInt8), ())))).1 == l.1))
 (none))
 (k0 false))
 (none))
 (none)

def z18n (N : Nat) (x : z1j [(3, .box z6k), (0, .box z6j), (0, .box z9v), (1, .row (.sl .str)), (0, .row zjd), (0, .v (.int .i64)), (0, .v (.int .i64)), (0, .box (.pair .str (.pair .str .unit))), (1, .v .str), (0, .v (.int .i64)), (0, .v (.int .i64)), (0, .v (.int .i64))]) (K : Ex -> List A -> Option z1g) : Option z1g :=
 zlc N x.1 x.2.1 x.2.2.1 x.2.2.2.1 x.2.2.2.2.1 x.2.2.2.2.2.1 x.2.2.2.2.2.2.1 x.2.2.2.2.2.2.2.1 x.2.2.2.2.2.2.2.2.1 x.2.2.2.2.2.2.2.2.2.1 x.2.2.2.2.2.2.2.2.2.2.1 x.2.2.2.2.2.2.2.2.2.2.2.1 (fun a12 => (K .normal (mkS [(3, .box z6k), (0, .box z6j), (0, .box z9v), (1, .row (.sl .str)), (0, .row zjd), (0, .v (.int .i64)), (0, .v (.int .i64)), (0, .box (.pair .str (.pair .str .unit))), (1, .v .str), (0, .v (.int .i64)), (0, .v (.int .i64)), (0, .v (.int .i64)), (171, .v .bool)] 89 (x.1, x.2.1, x.2.2.1, x.2.2.2.1, x.2.2.2.2.1, x.2.2.2.2.2.1, x.2.2.2.2.2.2.1, x.2.2.2.2.2.2.2.1, x.2.2.2.2.2.2.2.2.1, x.2.2.2.2.2.2.2.2.2.1, x.2.2.2.2.2.2.2.2.2.2.1, x.2.2.2.2.2.2.2.2.2.2.2.1, a12, ()))))

def z186 (N : Nat) : Hd z1g := fun st K => (unS [(3, .box z6k), (0, .box z6j), (0, .box z9v), (1, .row (.sl .str)), (0, .row zjd), (0, .v (.int .i64)), (0, .v (.int .i64)), (0, .box (.pair .str (.pair .str .unit))), (1, .v .str), (0, .v (.int .i64)), (0, .v (.int .i64)), (0, .v (.int .i64))] 261 (restr [5, 16, 3, 11, 14, 4, 13, 8, 7, 10, 9, 15] 0 st)).bind fun x => z18n N x K

def z1ik (N : Nat) : Tab z1g := []

theorem z1at {N : Nat} {c : Ctx} (hb : Base Tryz.prog (zuv N) c) : zo Tryz.prog c (zl z2a [0, 0, 0, 1, 0, 0, 1, 0, 1, 1, 1, 1, 1, 1, 1, 1, 0, 0, 1, 0, 0, 1, 0, 0, 1, 0, 0, 1, 0, 1, 1, 1, 1, 1, 1, 1, 1, 1, 1]) (z186 N) :=
  z14 (s := [(3, .box z6k), (0, .box z6j), (0, .box z9v), (1, .row (.sl .str)), (0, .row zjd), (0, .v (.int .i64)), (0, .v (.int .i64)), (0, .box (.pair .str (.pair .str .unit))), (1, .v .str), (0, .v (.int .i64)), (0, .v (.int .i64)), (0, .v (.int .i64))]) (m := 261) (g := z18n N) [5, 16, 3, 11, 14, 4, 13, 8, 7, 10, 9, 15] (zi hb N (z1ik N) zuw z2a TabOk.nil [0, 0, 0, 1, 0, 0, 1, 0, 1, 1, 1, 1, 1, 1, 1, 1, 0, 0, 1, 0, 0, 1, 0, 0, 1, 0, 0, 1, 0, 1, 1, 1, 1, 1, 1, 1, 1, 1, 1] _ rfl) (fun x K => by kernel_rfl)

def zld (N : Nat) (b : (z4u × ((List z4u) × Unit))) (x4 : z1g) (p : z1g) (tags : (List (List (List UInt8)))) (tokens : (List z4u)) (i : Int) (k : Int) (l : zre) (ck : (List UInt8)) (e : Int) (at_ : Int) (n : Int) (k0 : Int -> Option z1g) : Option z1g :=
 zlc N b x4 p tags tokens i k l ck e at_ n
 (fun x188 => cond x188
 (k0 n)
 (k0 at_))

def z18o (N : Nat) (x : z1j [(3, .box z6k), (0, .box z6j), (0, .box z9v), (1, .row (.sl .str)), (0, .row zjd), (0, .v (.int .i64)), (0, .v (.int .i64)), (0, .box (.pair .str (.pair .str .unit))), (1, .v .str), (0, .v (.int .i64)), (0, .v (.int .i64)), (0, .v (.int .i64))]) (K : Ex -> List A -> Option z1g) : Option z1g :=
 zld N x.1 x.2.1 x.2.2.1 x.2.2.2.1 x.2.2.2.2.1 x.2.2.2.2.2.1 x.2.2.2.2.2.2.1 x.2.2.2.2.2.2.2.1 x.2.2.2.2.2.2.2.2.1 x.2.2.2.2.2.2.2.2.2.1 x.2.2.2.2.2.2.2.2.2.2.1 x.2.2.2.2.2.2.2.2.2.2.2.1 (fun a10 => (K .normal (mkS [(3, .box z6k), (0, .box z6j), (0, .box z9v), (1, .row (.sl .str)), (0, .row zjd), (0, .v (.int .i64)), (0, .v (.int .i64)), (0, .box (.pair .str (.pair .str .unit))), (1, .v .str), (0, .v (.int .i64)), (0, .v (.int .i64)), (0, .v (.int .i64))] 261 (x.1, x.2.1, x.2.2.1, x.2.2.2.1, x.2.2.2.2.1, x.2.2.2.2.2.1, x.2.2.2.2.2.2.1, x.2.2.2.2.2.2.2.1, x.2.2.2.2.2.2.2.2.1, x.2.2.2.2.2.2.2.2.2.1, a10, x.2.2.2.2.2.2.2.2.2.2.2.1, ()))))

def z187 (N : Nat) : Hd z1g := fun st K => (unS [(3, .box z6k), (0, .box z6j), (0, .box z9v), (1, .row (.sl .str)), (0, .row zjd), (0, .v (.int .i64)), (0, .v (.int .i64)), (0, .box (.pair .str (.pair .str .unit))), (1, .v .str), (0, .v (.int .i64)), (0, .v (.int .i64)), (0, .v (.int .i64))] 261 (restr [5, 16, 3, 11, 14, 4, 13, 8, 7, 10, 9, 15] 0 st)).bind fun x => z18o N x K

def z1il (N : Nat) : Tab z1g := [([0, 0, 0, 1, 0, 0, 1, 0, 1, 1, 1, 1, 1, 1, 1, 1, 0, 0, 1, 0, 0, 1, 0, 0, 1, 0, 0, 1, 0, 1, 1, 1, 1, 1, 1, 1, 1, 1, 1], z186 N)]

theorem z1au {N : Nat} {c : Ctx} (hb : Base Tryz.prog (zuv N) c) : zo Tryz.prog c (zl z2a [0, 1, 0, 0, 1, 0, 1, 1, 1, 1, 1, 1, 1, 1, 0, 0, 1, 0, 0, 1, 0, 0, 1, 0, 0, 1, 0, 1, 1, 1, 1, 1, 1, 1, 1, 1, 1]) (z187 N) :=
  z14 (s := [(3, .box z6k), (0, .box z6j), (0, .box z9v), (1, .row (.sl .str)), (0, .row zjd), (0, .v (.int .i64)), (0, .v (.int .i64)), (0, .box (.pair .str (.pair .str .unit))), (1, .v .str), (0, .v (.int .i64)), (0, .v (.int .i64)), (0, .v (.int .i64))]) (m := 261) (g := z18o N) [5, 16, 3, 11, 14, 4, 13, 8, 7, 10, 9, 15] (zi hb N (z1il N) zuw z2a (TabOk.cons (z1at hb) TabOk.nil) [0, 1, 0, 0, 1, 0, 1, 1, 1, 1, 1, 1, 1, 1, 0, 0, 1, 0, 0, 1, 0, 0, 1, 0, 0, 1, 0, 1, 1, 1, 1, 1, 1, 1, 1, 1, 1] _ rfl) (fun x K => by kernel_rfl)

def zju (N : Nat) (b : (z4u × ((List z4u) × Unit))) (x4 : z1g) (p : z1g) (tags : (List (List (List UInt8)))) (tokens : (List z4u)) (i : Int) (k : Int) (l : zre) (ck : (List UInt8)) (e : Int) (at_ : Int) (n : Int) (rec : Int -> Int -> Option z1g) (k0 : Int -> Option z1g) : Option z1g :=
 zh8 N b x4 p tags tokens i k l ck e at_ n
 (zld N b x4 p tags tokens i k l ck e at_ n
 (fun at_1 => rec at_1 (IntKind.wrap IntKind.i64 (n - (1 : Int)))))
 (k0 at_)

def zo1 (N : Nat) (b : (z4u × ((List z4u) × Unit))) (x4 : z1g) (p : z1g) (tags : (List (List (List UInt8)))) (tokens : (List z4u)) (i : Int) (k : Int) (l : zre) (ck : (List UInt8)) (e : Int) (at_ : Int) (n : Int) (k0 : Int -> Option z1g) : Option z1g :=
 iter (fun (v : (Int × Int)) r => zju N b x4 p tags tokens i k l ck e v.1 v.2 (fun at_ n => (r (at_, n))) k0) N (at_, n)

def z1n7 (N : Nat) (i : ((z4u × ((List z4u) × Unit)) × z1g × z1g × (List (List (List UInt8))) × (List z4u) × Int × Int × zre × (List UInt8) × Int)) (v : (Int × Int)) (r : (Int × Int) -> Option z1g) (K : Ex -> List A -> Option z1g) : Option z1g :=
 zju N i.1 i.2.1 i.2.2.1 i.2.2.2.1 i.2.2.2.2.1 i.2.2.2.2.2.1 i.2.2.2.2.2.2.1 i.2.2.2.2.2.2.2.1 i.2.2.2.2.2.2.2.2.1 i.2.2.2.2.2.2.2.2.2 v.1 v.2 (fun at_ n => (r (at_, n))) (fun a8 => (K (.exit 6) (mkS [(3, .box z6k), (0, .box z6j), (0, .box z9v), (1, .row (.sl .str)), (0, .row zjd), (0, .v (.int .i64)), (0, .v (.int .i64)), (2, .v .str), (1, .v (.int .i64))] 262 (i.1, i.2.1, i.2.2.1, i.2.2.2.1, i.2.2.2.2.1, i.2.2.2.2.2.1, i.2.2.2.2.2.2.1, i.2.2.2.2.2.2.2.2.1, a8, ()))))

def z1la (N : Nat) : Hd z1g := fun st K => (unS [(3, .box z6k), (0, .box z6j), (0, .box z9v), (1, .row (.sl .str)), (0, .row zjd), (0, .v (.int .i64)), (0, .v (.int .i64)), (0, .box (.pair .str (.pair .str .unit))), (1, .v .str), (0, .v (.int .i64)), (0, .v (.int .i64)), (0, .v (.int .i64))] 261 (restr [16, 14, 5, 3, 11, 15, 4, 13, 8, 7, 10, 9] 0 st)).bind fun x => iter (fun v r => z1n7 N ((fun x => (x.1, x.2.1, x.2.2.1, x.2.2.2.1, x.2.2.2.2.1, x.2.2.2.2.2.1, x.2.2.2.2.2.2.1, x.2.2.2.2.2.2.2.1, x.2.2.2.2.2.2.2.2.1, x.2.2.2.2.2.2.2.2.2.1)) x) v r K) N ((fun x => (x.2.2.2.2.2.2.2.2.2.2.1, x.2.2.2.2.2.2.2.2.2.2.2.1)) x)

def t9_c0 (N : Nat) : Tab z1g := [([0, 0, 0, 1, 0, 1, 1, 1, 1, 1, 1, 1, 1, 0, 0, 1, 0, 0, 1, 0, 0, 1, 0, 0, 1, 0, 1, 1, 1, 1, 1, 1, 1, 1, 1, 1], z188 N), ([0, 1, 0, 0, 1, 0, 1, 1, 1, 1, 1, 1, 1, 1, 0, 0, 1, 0, 0, 1, 0, 0, 1, 0, 0, 1, 0, 1, 1, 1, 1, 1, 1, 1, 1, 1, 1], z187 N)]

theorem z1ix {N : Nat} {c : Ctx} (hb : Base Tryz.prog (zuv N) c) : zo Tryz.prog c (zl z2a [0, 1, 0, 1, 1, 1, 1, 1, 1, 1, 1, 0, 0, 1, 0, 0, 1, 0, 0, 1, 0, 0, 1, 0, 1, 1, 1, 1, 1, 1, 1, 1, 1, 1]) (z1la N) :=
  z1i (s := [(3, .box z6k), (0, .box z6j), (0, .box z9v), (1, .row (.sl .str)), (0, .row zjd), (0, .v (.int .i64)), (0, .v (.int .i64)), (0, .box (.pair .str (.pair .str .unit))), (1, .v .str), (0, .v (.int .i64)), (0, .v (.int .i64)), (0, .v (.int .i64))]) (m := 261) (z1n7 N) [16, 14, 5, 3, 11, 15, 4, 13, 8, 7, 10, 9] N (fun x => (x.1, x.2.1, x.2.2.1, x.2.2.2.1, x.2.2.2.2.1, x.2.2.2.2.2.1, x.2.2.2.2.2.2.1, x.2.2.2.2.2.2.2.1, x.2.2.2.2.2.2.2.2.1, x.2.2.2.2.2.2.2.2.2.1)) (fun x => (x.2.2.2.2.2.2.2.2.2.2.1, x.2.2.2.2.2.2.2.2.2.2.2.1)) (fun i v => (i.1, i.2.1, i.2.2.1, i.2.2.2.1, i.2.2.2.2.1, i.2.2.2.2.2.1, i.2.2.2.2.2.2.1, i.2.2.2.2.2.2.2.1, i.2.2.2.2.2.2.2.2.1, i.2.2.2.2.2.2.2.2.2, v.1, v.2, ())) (fun _ => rfl) (zi hb N (t9_c0 N) zuw z2a (TabOk.cons (z1av hb) (TabOk.cons (z1au hb) TabOk.nil)) [0, 0, 1, 0, 1, 1, 1, 1, 1, 1, 1, 1, 0, 0, 1, 0, 0, 1, 0, 0, 1, 0, 0, 1, 0, 1, 1, 1, 1, 1, 1, 1, 1, 1, 1] _ rfl) (fun i v r K => by kernel_rfl)

def zdd (N : Nat) (b : (z4u × ((List z4u) × Unit))) (x4 : z1g) (p : z1g) (tags : (List (List (List UInt8)))) (tokens : (List z4u)) (i : Int) (k : Int) (l : zre) (ck : (List UInt8)) (e : Int) (at_ : Int) (k0 : Int -> Option z1g) : Option z1g :=
 zo1 N b x4 p tags tokens i k l ck e at_ (IntKind.wrap IntKind.i64 ((((List.length b.2.1) : Nat) : Int) - (1 : Int)))
 (fun at_1 => k0 at_1)

def z1n8 (N : Nat) (x : z1j [(3, .box z6k), (0, .box z6j), (0, .box z9v), (1, .row (.sl .str)), (0, .row zjd), (0, .v (.int .i64)), (0, .v (.int .i64)), (0, .box (.pair .str (.pair .str .unit))), (1, .v .str), (0, .v (.int .i64)), (0, .v (.int .i64))]) (K : Ex -> List A -> Option z1g) : Option z1g :=
 zdd N x.1 x.2.1 x.2.2.1 x.2.2.2.1 x.2.2.2.2.1 x.2.2.2.2.2.1 x.2.2.2.2.2.2.1 x.2.2.2.2.2.2.2.1 x.2.2.2.2.2.2.2.2.1 x.2.2.2.2.2.2.2.2.2.1 x.2.2.2.2.2.2.2.2.2.2.1 (fun a8 => (K .normal (mkS [(3, .box z6k), (0, .box z6j), (0, .box z9v), (1, .row (.sl .str)), (0, .row zjd), (0, .v (.int .i64)), (0, .v (.int .i64)), (2, .v .str), (1, .v (.int .i64))] 262 (x.1, x.2.1, x.2.2.1, x.2.2.2.1, x.2.2.2.2.1, x.2.2.2.2.2.1, x.2.2.2.2.2.2.1, x.2.2.2.2.2.2.2.2.1, a8, ()))))

def z1lb (N : Nat) : Hd z1g := fun st K => (unS [(3, .box z6k), (0, .box z6j), (0, .box z9v), (1, .row (.sl .str)), (0, .row zjd), (0, .v (.int .i64)), (0, .v (.int .i64)), (0, .box (.pair .str (.pair .str .unit))), (1, .v .str), (0, .v (.int .i64)), (0, .v (.int .i64))] 262 (restr [3, 14, 5, 11, 15, 4, 13, 8, 7, 10, 9] 0 st)).bind fun x => z1n8 N x K

def t8_c0 (N : Nat) : Tab z1g := [([0, 1, 0, 1, 1, 1, 1, 1, 1, 1, 1, 0, 0, 1, 0, 0, 1, 0, 0, 1, 0, 0, 1, 0, 1, 1, 1, 1, 1, 1, 1, 1, 1, 1], z1la N)]

theorem z1iy {N : Nat} {c : Ctx} (hb : Base Tryz.prog (zuv N) c) : zo Tryz.prog c (zl z2a [0, 1, 1, 1, 1, 1, 1, 1, 1, 0, 0, 1, 0, 0, 1, 0, 0, 1, 0, 0, 1, 0, 1, 1, 1, 1, 1, 1, 1, 1, 1, 1]) (z1lb N) :=
  z14 (s := [(3, .box z6k), (0, .box z6j), (0, .box z9v), (1, .row (.sl .str)), (0, .row zjd), (0, .v (.int .i64)), (0, .v (.int .i64)), (0, .box (.pair .str (.pair .str .unit))), (1, .v .str), (0, .v (.int .i64)), (0, .v (.int .i64))]) (m := 262) (g := z1n8 N) [3, 14, 5, 11, 15, 4, 13, 8, 7, 10, 9] (zi hb N (t8_c0 N) zuw z2a (TabOk.cons (z1ix hb) TabOk.nil) [0, 1, 1, 1, 1, 1, 1, 1, 1, 0, 0, 1, 0, 0, 1, 0, 0, 1, 0, 0, 1, 0, 1, 1, 1, 1, 1, 1, 1, 1, 1, 1] _ rfl) (fun x K => by kernel_rfl)

def zjv (N : Nat) (b : (z4u × ((List z4u) × Unit))) (x4 : z1g) (p : z1g) (tags : (List (List (List UInt8)))) (tokens : (List z4u)) (i : Int) (k : Int) (k0 : z1g -> (List (List (List UInt8))) -> (List z4u) -> Option z1g) (k1 : z1g -> Option z1g) : Option z1g :=
 cond (inR i (List.length tokens))
 (cond (decide ((Int.toNat i) < (List.length tokens)))
 (cond (inR k (List.length (List.getD tokens (Int.toNat i) (([] : List UInt8), (([] : List zre), (([] : List UInt8), ())))).2.1))
 (cond ((List.getD (List.getD tokens (Int.toNat i) (([] : List UInt8), (([] : List zre), (([] : List UInt8), ())))).2.1 (Int.toNat k) (([] : List UInt8), (([] : List UInt8), ()))).2.1 == ([] : List UInt8))
 (cond (decide ((((List.length p.2.1) + 1) * 16) <= 70368744177664))
 (k0 (p.1, ((p.2.1 ++ ([(List.getD (List.getD tokens (Int.toNat i) (([] : List UInt8), (([] : List zre), (([] : List UInt8), ())))).2.1 (Int.toNat k) (([] : List UInt8), (([] : List UInt8), ()))).1] : List (List UInt8))), p.2.2)) tags tokens)
 (none))
 (cond (inR i (List.length tags))
 (cond (decide ((Int.toNat i) < (List.length tags)))
 (cond (inR k (List.length (List.getD tags (Int.toNat i) ([] : List (List UInt8)))))
 ((zy N (List.getD (List.getD tags (Int.toNat i) ([] : List (List UInt8))) (Int.toNat k) ([] : List UInt8)) ([([(115 : UInt8), (101 : UInt8), (97 : UInt8), (108 : UInt8)] : List UInt8)] : List (List UInt8))).bind fun y =>
 cond (inR i (List.length tags))
 (cond (decide ((Int.toNat i) < (List.length tags)))
 (cond (inR k (List.length (List.getD tags (Int.toNat i) ([] : List (List UInt8)))))
 ((z1d N ([([(115 : UInt8), (101 : UInt8), (97 : UInt8), (108 : UInt8)] : List UInt8)] : List (List UInt8))).bind fun y1 =>
 (z19 N (List.getD (List.getD tags (Int.toNat i) ([] : List (List UInt8))) (Int.toNat k) ([] : List UInt8)) y1).bind fun y2 =>
 cond (decide ((((List.length p.2.2.2.2.1) + (List.length y2)) * 16) <= 70368744177664))
 ((z25 N y (List.getD (List.getD tokens (Int.toNat i) (([] : List UInt8), (([] : List zre), (([] : List UInt8), ())))).2.1 (Int.toNat k) (([] : List UInt8), (([] : List UInt8), ()))).2.1).bind fun y3 =>
 cond (decide ((((List.length (p.2.2.2.2.1 ++ y2)) + (List.length y3)) * 16) <= 70368744177664))
 ((z1p N y (List.getD (List.getD tokens (Int.toNat i) (([] : List UInt8), (([] : List zre), (([] : List UInt8), ())))).2.1 (Int.toNat k) (([] : List UInt8), (([] : List UInt8), ()))).2.1).bind fun y4 =>
 zdd N b x4 (p.1, (p.2.1, ((IntKind.wrap IntKind.i64 (p.2.2.1 + (1 : Int))), (p.2.2.2.1, (((p.2.2.2.2.1 ++ y2) ++ y3), p.2.2.2.2.2))))) tags tokens i k (List.getD (List.getD tokens (Int.toNat i) (([] : List UInt8), (([] : List zre), (([] : List UInt8), ())))).2.1 (Int.toNat k) (([] : List UInt8), (([] : List UInt8), ()))) y4.1 y4.2.1 (-(1 : Int))
 (fun at_ => cond (decide (at_ < (0 : Int)))
 (k1 (p.1, (p.2.1, ((IntKind.wrap IntKind.i64 (p.2.2.1 + (1 : Int))), ((11 : Int), (((p.2.2.2.2.1 ++ y2) ++ y3), p.2.2.2.2.2))))))
 (cond (inR at_ (List.length p.1))
 (cond (decide ((Int.toNat at_) < (List.length p.1)))
 (cond (inR at_ (List.length b.2.1))
 ((z2u N y4.1 (List.getD b.2.1 (Int.toNat at_) (([] : List UInt8), (([] : List zre), (([] : List UInt8), ()))))).bind fun y5 =>
 cond (inR at_ (List.length b.2.1))
 ((z34 N y4.1 (List.getD b.2.1 (Int.toNat at_) (([] : List UInt8), (([] : List zre), (([] : List UInt8), ()))))).bind fun y6 =>
 cond (decide ((((List.length ((p.2.2.2.2.1 ++ y2) ++ y3)) + (List.length y6)) * 16) <= 70368744177664))
 ((z2t N y5).bind fun y7 =>
 (z1d N ([([(98 : UInt8), (105 : UInt8), (110 : UInt8), (100 : UInt8)] : List UInt8), y7] : List (List UInt8))).bind fun y8 =>
 (z19 N b.1.2.2.1 y8).bind fun y9 =>
 cond (decide ((((List.length (((p.2.2.2.2.1 ++ y2) ++ y3) ++ y6)) + (List.length y9)) * 16) <= 70368744177664))
 ((z2t N y5).bind fun y10 =>
 (zy N b.1.2.2.1 ([([(98 : UInt8), (105 : UInt8), (110 : UInt8), (100 : UInt8)] : List UInt8), y10] : List (List UInt8))).bind fun y11 =>
 cond (inR at_ (List.length b.2.1))
 (cond (!(y11 == (List.getD b.2.1 (Int.toNat at_) (([] : List UInt8), (([] : List zre), (([] : List UInt8), ())))).2.2.1))
 (k1 ((List.set p.1 (Int.toNat at_) true), (p.2.1, ((IntKind.wrap IntKind.i64 ((IntKind.wrap IntKind.i64 ((IntKind.wrap IntKind.i64 (p.2.2.1 + (1 : Int))) + (((List.length y5) : Nat) : Int))) + (1 : Int))), ((11 : Int), (((((p.2.2.2.2.1 ++ y2) ++ y3) ++ y6) ++ y9), p.2.2.2.2.2))))))
 (cond (inR at_ (List.length b.2.1))
 (cond (decide ((((List.length tokens) + 1) * 56) <= 70368744177664))
 (cond (decide ((((List.length tags) + 1) * 24) <= 70368744177664))
 (k0 ((List.set p.1 (Int.toNat at_) true), (p.2.1, ((IntKind.wrap IntKind.i64 ((IntKind.wrap IntKind.i64 ((IntKind.wrap IntKind.i64 (p.2.2.1 + (1 : Int))) + (((List.length y5) : Nat) : Int))) + (1 : Int))), (p.2.2.2.1, (((((p.2.2.2.2.1 ++ y2) ++ y3) ++ y6) ++ y9), p.2.2.2.2.2))))) (tags ++ ([y5] : List (List (List UInt8)))) (tokens ++ ([(List.getD b.2.1 (Int.toNat at_) (([] : List UInt8), (([] : List zre), (([] : List UInt8), ()))))] : List z4u)))
 (none))
 (none))
 (none)))
 (none))
 (none))
 (none))
 (none))
 (none))
 (none))
 (none))))
 (none))
 (none))
 (none))
 (none))
 (none))
 (none))
 (none))
 (none)))
 (none))
 (none))
 (none)

def z1n9 (N : Nat) (x : z1j [(3, .box z6k), (0, .box z6j), (0, .box z9v), (1, .row (.sl .str)), (0, .row zjd), (0, .v (.int .i64)), (0, .v (.int .i64))]) (K : Ex -> List A -> Option z1g) : Option z1g :=
 zjv N x.1 x.2.1 x.2.2.1 x.2.2.2.1 x.2.2.2.2.1 x.2.2.2.2.2.1 x.2.2.2.2.2.2.1 (fun a2 a3 a4 => (K .normal (mkS [(3, .box z6k), (0, .box z6j), (0, .box z9v), (1, .row (.sl .str)), (0, .row zjd), (0, .v (.int .i64)), (0, .v (.int .i64))] 267 (x.1, x.2.1, a2, a3, a4, x.2.2.2.2.2.1, x.2.2.2.2.2.2.1, ())))) (fun a0 => (K .ret (mkS [(4, .box z6j)] 273 (a0, ()))))

def z1lc (N : Nat) : Hd z1g := fun st K => (unS [(3, .box z6k), (0, .box z6j), (0, .box z9v), (1, .row (.sl .str)), (0, .row zjd), (0, .v (.int .i64)), (0, .v (.int .i64))] 267 (restr [8, 9, 10, 5, 7, 3, 4] 0 st)).bind fun x => z1n9 N x K

def t7_c0 (N : Nat) : Tab z1g := [([0, 1, 1, 1, 1, 1, 1, 1, 1, 0, 0, 1, 0, 0, 1, 0, 0, 1, 0, 0, 1, 0, 1, 1, 1, 1, 1, 1, 1, 1, 1, 1], z1lb N)]

theorem z1iz {N : Nat} {c : Ctx} (hb : Base Tryz.prog (zuv N) c) : zo Tryz.prog c (zl z2a [0, 1, 0, 0, 1, 0, 0, 1, 0, 0, 1, 0, 1, 1, 1, 1, 1, 1, 1, 1, 1, 1]) (z1lc N) :=
  z14 (s := [(3, .box z6k), (0, .box z6j), (0, .box z9v), (1, .row (.sl .str)), (0, .row zjd), (0, .v (.int .i64)), (0, .v (.int .i64))]) (m := 267) (g := z1n9 N) [8, 9, 10, 5, 7, 3, 4] (zi hb N (t7_c0 N) zuw z2a (TabOk.cons (z1iy hb) TabOk.nil) [0, 1, 0, 0, 1, 0, 0, 1, 0, 0, 1, 0, 1, 1, 1, 1, 1, 1, 1, 1, 1, 1] _ rfl) (fun x K => by kernel_rfl)

def zny (N : Nat) (b : (z4u × ((List z4u) × Unit))) (x4 : z1g) (i : Int) (p : z1g) (tags : (List (List (List UInt8)))) (tokens : (List z4u)) (k : Int) (rec : z1g -> (List (List (List UInt8))) -> (List z4u) -> Int -> Option z1g) (k0 : z1g -> Option z1g) (k1 : z1g -> (List (List (List UInt8))) -> (List z4u) -> Option z1g) : Option z1g :=
 cond (inR i (List.length tokens))
 (cond (decide ((Int.toNat i) < (List.length tokens)))
 (cond (decide (k < (((List.length (List.getD tokens (Int.toNat i) (([] : List UInt8), (([] : List zre), (([] : List UInt8), ())))).2.1) : Nat) : Int)))
 (zjv N b x4 p tags tokens i k
 (fun p1 tags1 tokens1 => rec p1 tags1 tokens1 (IntKind.wrap IntKind.i64 (k + (1 : Int))))
 (fun x41 => k0 x41))
 (k1 p tags tokens))
 (none))
 (none)

def zo2 (N : Nat) (b : (z4u × ((List z4u) × Unit))) (x4 : z1g) (p : z1g) (tags : (List (List (List UInt8)))) (tokens : (List z4u)) (i : Int) (k : Int) (k0 : z1g -> Option z1g) (k1 : z1g -> (List (List (List UInt8))) -> (List z4u) -> Option z1g) : Option z1g :=
 iter (fun (v : (z1g × (List (List (List UInt8))) × (List z4u) × Int)) r => zny N b x4 i v.1 v.2.1 v.2.2.1 v.2.2.2 (fun p tags tokens k => (r (p, tags, tokens, k))) k0 k1) N (p, tags, tokens, k)

def z1na (N : Nat) (i : ((z4u × ((List z4u) × Unit)) × z1g × Int)) (v : (z1g × (List (List (List UInt8))) × (List z4u) × Int)) (r : (z1g × (List (List (List UInt8))) × (List z4u) × Int) -> Option z1g) (K : Ex -> List A -> Option z1g) : Option z1g :=
 zny N i.1 i.2.1 i.2.2 v.1 v.2.1 v.2.2.1 v.2.2.2 (fun p tags tokens k => (r (p, tags, tokens, k))) (fun a0 => (K .ret (mkS [(4, .box z6j)] 273 (a0, ())))) (fun a2 a3 a4 => (K (.exit 4) (mkS [(3, .box z6k), (0, .box z6j), (0, .box z9v), (1, .row (.sl .str)), (0, .row zjd), (0, .v (.int .i64))] 268 (i.1, i.2.1, a2, a3, a4, i.2.2, ()))))

def z1ld (N : Nat) : Hd z1g := fun st K => (unS [(3, .box z6k), (0, .box z6j), (0, .box z9v), (1, .row (.sl .str)), (0, .row zjd), (0, .v (.int .i64)), (0, .v (.int .i64))] 267 (restr [10, 8, 9, 5, 7, 3, 4] 0 st)).bind fun x => iter (fun v r => z1na N ((fun x => (x.1, x.2.1, x.2.2.2.2.2.1)) x) v r K) N ((fun x => (x.2.2.1, x.2.2.2.1, x.2.2.2.2.1, x.2.2.2.2.2.2.1)) x)

def t6_c0 (N : Nat) : Tab z1g := [([0, 1, 0, 0, 1, 0, 0, 1, 0, 0, 1, 0, 1, 1, 1, 1, 1, 1, 1, 1, 1, 1], z1lc N)]

theorem z1j0 {N : Nat} {c : Ctx} (hb : Base Tryz.prog (zuv N) c) : zo Tryz.prog c (zl z2a [0, 1, 0, 0, 1, 0, 0, 1, 0, 1, 1, 1, 1, 1, 1, 1, 1, 1, 1]) (z1ld N) :=
  z1i (s := [(3, .box z6k), (0, .box z6j), (0, .box z9v), (1, .row (.sl .str)), (0, .row zjd), (0, .v (.int .i64)), (0, .v (.int .i64))]) (m := 267) (z1na N) [10, 8, 9, 5, 7, 3, 4] N (fun x => (x.1, x.2.1, x.2.2.2.2.2.1)) (fun x => (x.2.2.1, x.2.2.2.1, x.2.2.2.2.1, x.2.2.2.2.2.2.1)) (fun i v => (i.1, i.2.1, v.1, v.2.1, v.2.2.1, i.2.2, v.2.2.2, ())) (fun _ => rfl) (zi hb N (t6_c0 N) zuw z2a (TabOk.cons (z1iz hb) TabOk.nil) [0, 0, 1, 0, 0, 1, 0, 0, 1, 0, 1, 1, 1, 1, 1, 1, 1, 1, 1, 1] _ rfl) (fun i v r K => by kernel_rfl)

def znz (N : Nat) (b : (z4u × ((List z4u) × Unit))) (x4 : z1g) (p : z1g) (tags : (List (List (List UInt8)))) (tokens : (List z4u)) (i : Int) (rec : z1g -> (List (List (List UInt8))) -> (List z4u) -> Int -> Option z1g) (k0 : z1g -> Option z1g) (k1 : z1g -> Option z1g) : Option z1g :=
 cond (decide (i < (((List.length tokens) : Nat) : Int)))
 (zo2 N b x4 p tags tokens i (0 : Int)
 (fun x41 => k0 x41)
 (fun p1 tags1 tokens1 => rec p1 tags1 tokens1 (IntKind.wrap IntKind.i64 (i + (1 : Int)))))
 (k1 p)

def zo3 (N : Nat) (b : (z4u × ((List z4u) × Unit))) (x4 : z1g) (p : z1g) (tags : (List (List (List UInt8)))) (tokens : (List z4u)) (i : Int) (k0 : z1g -> Option z1g) (k1 : z1g -> Option z1g) : Option z1g :=
 iter (fun (v : (z1g × (List (List (List UInt8))) × (List z4u) × Int)) r => znz N b x4 v.1 v.2.1 v.2.2.1 v.2.2.2 (fun p tags tokens i => (r (p, tags, tokens, i))) k0 k1) N (p, tags, tokens, i)

def z1nb (N : Nat) (i : ((z4u × ((List z4u) × Unit)) × z1g)) (v : (z1g × (List (List (List UInt8))) × (List z4u) × Int)) (r : (z1g × (List (List (List UInt8))) × (List z4u) × Int) -> Option z1g) (K : Ex -> List A -> Option z1g) : Option z1g :=
 znz N i.1 i.2 v.1 v.2.1 v.2.2.1 v.2.2.2 (fun p tags tokens i => (r (p, tags, tokens, i))) (fun a0 => (K .ret (mkS [(4, .box z6j)] 273 (a0, ())))) (fun a1 => (K (.exit 2) (mkS [(4, .box z6j), (0, .box z9v)] 272 (i.2, a1, ()))))

def z1le (N : Nat) : Hd z1g := fun st K => (unS [(3, .box z6k), (0, .box z6j), (0, .box z9v), (1, .row (.sl .str)), (0, .row zjd), (0, .v (.int .i64))] 268 (restr [9, 8, 5, 7, 3, 4] 0 st)).bind fun x => iter (fun v r => z1nb N ((fun x => (x.1, x.2.1)) x) v r K) N ((fun x => (x.2.2.1, x.2.2.2.1, x.2.2.2.2.1, x.2.2.2.2.2.1)) x)

def t5_c0 (N : Nat) : Tab z1g := [([0, 1, 0, 0, 1, 0, 0, 1, 0, 1, 1, 1, 1, 1, 1, 1, 1, 1, 1], z1ld N)]

theorem z1j1 {N : Nat} {c : Ctx} (hb : Base Tryz.prog (zuv N) c) : zo Tryz.prog c (zl z2a [0, 1, 0, 1, 1, 1, 1, 1, 1, 1, 1, 1, 1]) (z1le N) :=
  z1i (s := [(3, .box z6k), (0, .box z6j), (0, .box z9v), (1, .row (.sl .str)), (0, .row zjd), (0, .v (.int .i64))]) (m := 268) (z1nb N) [9, 8, 5, 7, 3, 4] N (fun x => (x.1, x.2.1)) (fun x => (x.2.2.1, x.2.2.2.1, x.2.2.2.2.1, x.2.2.2.2.2.1)) (fun i v => (i.1, i.2, v.1, v.2.1, v.2.2.1, v.2.2.2, ())) (fun _ => rfl) (zi hb N (t5_c0 N) zuw z2a (TabOk.cons (z1j0 hb) TabOk.nil) [0, 0, 1, 0, 1, 1, 1, 1, 1, 1, 1, 1, 1, 1] _ rfl) (fun i v r K => by kernel_rfl)

def zla (N : Nat) (x4 : z1g) (p : z1g) (i : Int) (k0 : z1g -> Option z1g) : Option z1g :=
 cond (inR i (List.length p.1))
 (cond (decide ((Int.toNat i) < (List.length p.1)))
 (cond (!(List.getD p.1 (Int.toNat i) false))
 (k0 (p.1, (p.2.1, (p.2.2.1, ((11 : Int), p.2.2.2.2)))))
 (k0 p))
 (none))
 (none)

def z18l (N : Nat) (x : z1j [(4, .box z6j), (0, .box z9v), (12, .v (.int .i64))]) (K : Ex -> List A -> Option z1g) : Option z1g :=
 zla N x.1 x.2.1 x.2.2.1 (fun a1 => (K .normal (mkS [(4, .box z6j), (0, .box z9v), (12, .v (.int .i64))] 259 (x.1, a1, x.2.2.1, ()))))

def z184 (N : Nat) : Hd z1g := fun st K => (unS [(4, .box z6j), (0, .box z9v), (12, .v (.int .i64))] 259 (restr [5, 18, 4] 0 st)).bind fun x => z18l N x K

def z1ii (N : Nat) : Tab z1g := []

theorem z1ar {N : Nat} {c : Ctx} (hb : Base Tryz.prog (zuv N) c) : zo Tryz.prog c (zl z2a [0, 1, 0, 0, 1, 0, 1, 1, 1, 1, 1, 1, 1, 1, 1, 1, 1]) (z184 N) :=
  z14 (s := [(4, .box z6j), (0, .box z9v), (12, .v (.int .i64))]) (m := 259) (g := z18l N) [5, 18, 4] (zi hb N (z1ii N) zuw z2a TabOk.nil [0, 1, 0, 0, 1, 0, 1, 1, 1, 1, 1, 1, 1, 1, 1, 1, 1] _ rfl) (fun x K => by kernel_rfl)

def zl9 (N : Nat) (x4 : z1g) (p : z1g) (i : Int) (rec : z1g -> Int -> Option z1g) (k0 : z1g -> Option z1g) : Option z1g :=
 cond (decide (i < (((List.length p.1) : Nat) : Int)))
 (zla N x4 p i
 (fun p1 => rec p1 (IntKind.wrap IntKind.i64 (i + (1 : Int)))))
 (k0 p)

def zlb (N : Nat) (x4 : z1g) (p : z1g) (i : Int) (k0 : z1g -> Option z1g) : Option z1g :=
 iter (fun (v : (z1g × Int)) r => zl9 N x4 v.1 v.2 (fun p i => (r (p, i))) k0) N (p, i)

def z18m (N : Nat) (i : z1g) (v : (z1g × Int)) (r : (z1g × Int) -> Option z1g) (K : Ex -> List A -> Option z1g) : Option z1g :=
 zl9 N i v.1 v.2 (fun p i => (r (p, i))) (fun a1 => (K (.exit 8) (mkS [(4, .box z6j), (0, .box z9v)] 272 (i, a1, ()))))

def z185 (N : Nat) : Hd z1g := fun st K => (unS [(4, .box z6j), (0, .box z9v), (12, .v (.int .i64))] 259 (restr [18, 5, 4] 0 st)).bind fun x => iter (fun v r => z18m N ((fun x => x.1) x) v r K) N ((fun x => (x.2.1, x.2.2.1)) x)

def z1ij (N : Nat) : Tab z1g := [([0, 1, 0, 0, 1, 0, 1, 1, 1, 1, 1, 1, 1, 1, 1, 1, 1], z184 N)]

theorem z1as {N : Nat} {c : Ctx} (hb : Base Tryz.prog (zuv N) c) : zo Tryz.prog c (zl z2a [0, 1, 0, 1, 1, 1, 1, 1, 1, 1, 1, 1, 1, 1]) (z185 N) :=
  z1i (s := [(4, .box z6j), (0, .box z9v), (12, .v (.int .i64))]) (m := 259) (z18m N) [18, 5, 4] N (fun x => x.1) (fun x => (x.2.1, x.2.2.1)) (fun i v => (i, v.1, v.2, ())) (fun _ => rfl) (zi hb N (z1ij N) zuw z2a (TabOk.cons (z1ar hb) TabOk.nil) [0, 0, 1, 0, 1, 1, 1, 1, 1, 1, 1, 1, 1, 1, 1] _ rfl) (fun i v r K => by kernel_rfl)

def zo6 (N : Nat) (key : (List UInt8)) (b : (z4u × ((List z4u) × Unit))) : Option z1g :=
 zo5 N key b (([] : List Bool), (([] : List (List UInt8)), ((0 : Int), ((0 : Int), (([] : List (List UInt8)), ()))))) (([] : List Bool), (([] : List (List UInt8)), ((0 : Int), ((0 : Int), (([] : List (List UInt8)), ()))))) (0 : Int)
 (fun p => zjx N key b (([] : List Bool), (([] : List (List UInt8)), ((0 : Int), ((0 : Int), (([] : List (List UInt8)), ()))))) p
 (fun p1 => cond (p1.2.2.2.1 != (0 : Int))
 (some (p1.1, (p1.2.1, (p1.2.2.1, (p1.2.2.2.1, (p1.2.2.2.2.1, p1.2.2.2.2.2))))))
 ((z2u N key b.1).bind fun y =>
 (z34 N key b.1).bind fun y1 =>
 (z2t N y).bind fun y2 =>
 cond (!(y2 == b.1.2.2.1))
 (some (p1.1, (p1.2.1, ((((List.length y) : Nat) : Int), ((8 : Int), (y1, p1.2.2.2.2.2))))))
 (zo3 N b (([] : List Bool), (([] : List (List UInt8)), ((0 : Int), ((0 : Int), (([] : List (List UInt8)), ()))))) (p1.1, (p1.2.1, ((((List.length y) : Nat) : Int), (p1.2.2.2.1, (y1, p1.2.2.2.2.2))))) ([y] : List (List (List UInt8))) ([b.1] : List z4u) (0 : Int)
 (fun x4 => some x4)
 (fun p2 => zlb N (([] : List Bool), (([] : List (List UInt8)), ((0 : Int), ((0 : Int), (([] : List (List UInt8)), ()))))) p2 (0 : Int)
 (fun p3 => some (p3.1, (p3.2.1, (p3.2.2.1, (p3.2.2.2.1, (p3.2.2.2.2.1, p3.2.2.2.2.2)))))))))))

def t_c0 (N : Nat) : Tab z1g := [([0, 1, 0, 1, 1], z1m5 N), ([0, 1, 1, 1], z1lm N), ([0, 1, 0, 1, 1, 1, 1, 1, 1, 1, 1, 1, 1], z1le N), ([0, 1, 0, 1, 1, 1, 1, 1, 1, 1, 1, 1, 1, 1], z185 N)]

theorem z1b4 (N : Nat) (x : z1j [(0, .v .str), (0, .v z6k)]) : z2j (zuv N) N (t_c0 N) zuw Tryz.f9 (mkS [(0, .v .str), (0, .v z6k)] 0 x) (z1h (.v z6j) 2) = zo6 N x.1 x.2.1 := by kernel_rfl

def zqs (N : Nat) : List A -> Res := z12 [(0, .v .str), (0, .v z6k)] (fun x => zo6 N x.1 x.2.1) (z2k (.v z6j) 2)

theorem z11o (N : Nat) : Contract Tryz.prog glob 9 (zqs N) :=
  Contract.of (E := zuv N) (H := t_c0 N) (L := zuw) (N := N) (body := z2a) (K := (z1h (.v z6j) 2)) (z1pz N) Tryz.func9 (by kernel_rfl) (by decide) (fun _ hb => (TabOk.cons (z1js hb) (TabOk.cons (z1j9 hb) (TabOk.cons (z1j1 hb) (TabOk.cons (z1as hb) TabOk.nil))))) (fun x y h => by rw [z1b4]; exact h) (zm (s := (.v z6j)) (m := 2))

def zf3 : Code := (Tryz.f3.body).getD .skip

def z1gx : List (List Nat × List Nat) := [([0], [0, 3]), ([0, 0, 1], [14, 0, 3]), ([1, 0, 1], [0, 3]), ([0, 0, 1, 0, 1], [4]), ([1, 0, 1, 0, 1], [4]), ([0, 1, 1], [0, 3, 6, 5]), ([0, 1, 1, 1], [6, 7, 0, 3, 5]), ([0, 0, 1, 1, 1, 1], [53, 7, 5, 0, 3]), ([1, 0, 1, 1, 1, 1], [7, 5, 0, 3]), ([0, 0, 1, 0, 1, 1, 1, 1], [4]), ([1, 0, 1, 0, 1, 1, 1, 1], [4]), ([0, 1, 1, 1, 1, 1], [4]), ([1, 1, 1, 1, 1, 1], [4])]

def z1ga (N : Nat) : Env := z16 tys glob [(9, zqs N), (6, z9o N), (7, z9n N), (8, z8t N), (10, zfq N), (11, zfr N), (12, za9 N), (13, z7s N)] [(5, .str)] [] [] false [] [(123, zd N), (66, zb N), (98, z7 N), (112, zbw N), (123, zd N), (66, zb N), (98, z7 N)]

theorem z1py (N : Nat) : EnvOk Tryz.prog (z1ga N) := zk mixed zp (FnsOk.cons (z11o N) (FnsOk.cons (zhs N) (FnsOk.cons (zhr N) (FnsOk.cons (zfa N) (FnsOk.cons (zpq N) (FnsOk.cons (zpr N) (FnsOk.cons (ziu N) (FnsOk.cons (zea N) (FnsOk.nil))))))))) (ItsOk.cons (zf N) (ItsOk.cons (ze N) (ItsOk.cons (z8 N) (ItsOk.cons (zi3 N) (ItsOk.cons (zf N) (ItsOk.cons (ze N) (ItsOk.cons (z8 N) (ItsOk.nil))))))))

def zj6 (N : Nat) (key : (List UInt8)) (b : (z4u × ((List z4u) × Unit))) (k0 : Bool -> Option Bool) : Option Bool :=
 cond (decide ((100 : Int) < (((List.length key) : Nat) : Int)))
 (k0 true)
 ((z42 N b).bind fun y =>
 k0 y)

def z1nn (N : Nat) (x : z1j [(0, .v .str), (2, .box z6k)]) (K : Ex -> List A -> Option Bool) : Option Bool :=
 zj6 N x.1 x.2.1 (fun a2 => (K .normal (mkS [(0, .v .str), (2, .box z6k), (10, .v .bool)] 59 (x.1, x.2.1, a2, ()))))

def z1lq (N : Nat) : Hd Bool := fun st K => (unS [(0, .v .str), (2, .box z6k)] 70 (restr [0, 3] 0 st)).bind fun x => z1nn N x K

def t2_c1 (N : Nat) : Tab Bool := []

theorem z1jd {N : Nat} {c : Ctx} (hb : Base Tryz.prog (z1ga N) c) : zo Tryz.prog c (zl zf3 [0, 0, 1]) (z1lq N) :=
  z14 (s := [(0, .v .str), (2, .box z6k)]) (m := 70) (g := z1nn N) [0, 3] (zi hb N (t2_c1 N) z1gx zf3 TabOk.nil [0, 0, 1] _ rfl) (fun x K => by kernel_rfl)

def zj7 (N : Nat) (key : (List UInt8)) (b : (z4u × ((List z4u) × Unit))) (k0 : Bool -> Option Bool) (k1 : Option Bool) : Option Bool :=
 zj6 N key b
 (fun x14 => cond x14
 ((z2h N).bind fun y =>
 k0 y)
 (k1))

def z1o1 (N : Nat) (x : z1j [(0, .v .str), (2, .box z6k)]) (K : Ex -> List A -> Option Bool) : Option Bool :=
 zj7 N x.1 x.2.1 (fun a0 => (K .ret (mkS [(4, .v .bool)] 69 (a0, ())))) (K .normal (mkS [(0, .v .str), (2, .box z6k)] 70 (x.1, x.2.1, ())))

def z1m4 (N : Nat) : Hd Bool := fun st K => (unS [(0, .v .str), (2, .box z6k)] 70 (restr [0, 3] 0 st)).bind fun x => z1o1 N x K

def t1_c1 (N : Nat) : Tab Bool := [([0, 0, 1], z1lq N)]

theorem z1jr {N : Nat} {c : Ctx} (hb : Base Tryz.prog (z1ga N) c) : zo Tryz.prog c (zl zf3 [0, 1]) (z1m4 N) :=
  z14 (s := [(0, .v .str), (2, .box z6k)]) (m := 70) (g := z1o1 N) [0, 3] (zi hb N (t1_c1 N) z1gx zf3 (TabOk.cons (z1jd hb) TabOk.nil) [0, 1] _ rfl) (fun x K => by kernel_rfl)

def zel (N : Nat) (key : (List UInt8)) (b : (z4u × ((List z4u) × Unit))) (l : (List (List UInt8))) (e : Int) (p : z1g) (k0 : Bool -> Option Bool) : Option Bool :=
 cond (e != p.2.2.2.1)
 (k0 true)
 ((z4d N key b).bind fun y =>
 cond (y != p.2.2.1)
 (k0 true)
 ((z6y N b).bind fun y1 =>
 (z4n N b).bind fun y2 =>
 cond (y1 != y2)
 (k0 true)
 (cond (p.2.2.2.1 != (0 : Int))
 (k0 (decide ((0 : Int) < (((List.length l) : Nat) : Int))))
 (k0 false))))

def z1nd (N : Nat) (x : z1j [(0, .v .str), (2, .box z6k), (1, .v (.sl .str)), (0, .v (.int .i64)), (0, .box z6j)]) (K : Ex -> List A -> Option Bool) : Option Bool :=
 zel N x.1 x.2.1 x.2.2.1 x.2.2.2.1 x.2.2.2.2.1 (fun a4 => (K .normal (mkS [(0, .v .str), (2, .box z6k), (1, .v (.sl .str)), (1, .box z6j), (45, .v .bool)] 20 (x.1, x.2.1, x.2.2.1, x.2.2.2.2.1, a4, ()))))

def z1lg (N : Nat) : Hd Bool := fun st K => (unS [(0, .v .str), (2, .box z6k), (1, .v (.sl .str)), (0, .v (.int .i64)), (0, .box z6j)] 66 (restr [6, 7, 0, 3, 5] 0 st)).bind fun x => z1nd N x K

def t4_c1 (N : Nat) : Tab Bool := []

theorem z1j3 {N : Nat} {c : Ctx} (hb : Base Tryz.prog (z1ga N) c) : zo Tryz.prog c (zl zf3 [0, 0, 1, 1, 1, 1]) (z1lg N) :=
  z14 (s := [(0, .v .str), (2, .box z6k), (1, .v (.sl .str)), (0, .v (.int .i64)), (0, .box z6j)]) (m := 66) (g := z1nd N) [6, 7, 0, 3, 5] (zi hb N (t4_c1 N) z1gx zf3 TabOk.nil [0, 0, 1, 1, 1, 1] _ rfl) (fun x K => by kernel_rfl)

def zem (N : Nat) (key : (List UInt8)) (b : (z4u × ((List z4u) × Unit))) (l : (List (List UInt8))) (e : Int) (p : z1g) (k0 : Bool -> Option Bool) (k1 : Option Bool) : Option Bool :=
 zel N key b l e p
 (fun x53 => cond x53
 (k0 false)
 (k1))

def z1ni (N : Nat) (x : z1j [(0, .v .str), (2, .box z6k), (1, .v (.sl .str)), (0, .v (.int .i64)), (0, .box z6j)]) (K : Ex -> List A -> Option Bool) : Option Bool :=
 zem N x.1 x.2.1 x.2.2.1 x.2.2.2.1 x.2.2.2.2.1 (fun a0 => (K .ret (mkS [(4, .v .bool)] 69 (a0, ())))) (K .normal (mkS [(0, .v .str), (2, .box z6k), (1, .v (.sl .str)), (1, .box z6j)] 66 (x.1, x.2.1, x.2.2.1, x.2.2.2.2.1, ())))

def z1ll (N : Nat) : Hd Bool := fun st K => (unS [(0, .v .str), (2, .box z6k), (1, .v (.sl .str)), (0, .v (.int .i64)), (0, .box z6j)] 66 (restr [6, 7, 0, 3, 5] 0 st)).bind fun x => z1ni N x K

def t3_c1 (N : Nat) : Tab Bool := [([0, 0, 1, 1, 1, 1], z1lg N)]

theorem z1j8 {N : Nat} {c : Ctx} (hb : Base Tryz.prog (z1ga N) c) : zo Tryz.prog c (zl zf3 [0, 1, 1, 1, 1]) (z1ll N) :=
  z14 (s := [(0, .v .str), (2, .box z6k), (1, .v (.sl .str)), (0, .v (.int .i64)), (0, .box z6j)]) (m := 66) (g := z1ni N) [6, 7, 0, 3, 5] (zi hb N (t3_c1 N) z1gx zf3 (TabOk.cons (z1j3 hb) TabOk.nil) [0, 1, 1, 1, 1] _ rfl) (fun x K => by kernel_rfl)

def zhb (N : Nat) (key : (List UInt8)) (b : (z4u × ((List z4u) × Unit))) : Option Bool :=
 zj7 N key b
 (fun x4 => some x4)
 ((z30 N key b).bind fun y =>
 (zo6 N key b).bind fun y1 =>
 zem N key b y.1 y.2.1 y1
 (fun x41 => some x41)
 (cond (y1.2.2.2.1 != (0 : Int))
 ((z4d N key b).bind fun y2 =>
 (z6y N b).bind fun y3 =>
 cond (decide (y2 <= y3))
 ((z2h N).bind fun y4 =>
 some y4)
 (some false))
 ((z2y N y.1 y1.2.1).bind fun y5 =>
 cond y5
 ((z4d N key b).bind fun y6 =>
 (z6y N b).bind fun y7 =>
 cond (decide (y6 <= y7))
 ((z2h N).bind fun y8 =>
 some y8)
 (some false))
 (some false))))

def t_c1 (N : Nat) : Tab Bool := [([0, 1], z1m4 N), ([0, 1, 1, 1, 1], z1ll N)]

theorem z1b3 (N : Nat) (x : z1j [(0, .v .str), (0, .v z6k)]) : z2j (z1ga N) N (t_c1 N) z1gx Tryz.f3 (mkS [(0, .v .str), (0, .v z6k)] 0 x) (z1h (.v .bool) 2) = zhb N x.1 x.2.1 := by kernel_rfl

def zu0 (N : Nat) : List A -> Res := z12 [(0, .v .str), (0, .v z6k)] (fun x => zhb N x.1 x.2.1) (z2k (.v .bool) 2)

theorem zvs (N : Nat) : Contract Tryz.prog glob 3 (zu0 N) :=
  Contract.of (E := z1ga N) (H := t_c1 N) (L := z1gx) (N := N) (body := zf3) (K := (z1h (.v .bool) 2)) (z1py N) Tryz.func3 (by kernel_rfl) (by decide) (fun _ hb => (TabOk.cons (z1jr hb) (TabOk.cons (z1j8 hb) TabOk.nil))) (fun x y h => by rw [z1b3]; exact h) (zm (s := (.v .bool)) (m := 2))

end
end Go.Proofs.YtkipbccgnekoaaaGreatDoorLg

set_option linter.all false
set_option maxRecDepth 100000
namespace Go.Proofs.YtkipbccgnekoaaaGreatDoorLg
noncomputable section
open Go Go.Lift Go.Proofs.YtkipbccgnekoaaaGreatDoorPx

theorem zvc (k : Nat) {key s : List UInt8} (hk : 4400 <= k) (hl : key.length <= 30000) (h1 : 48 <= s.length) (h2 : s.length <= 4144) : z25 (k + 100) key s = some (z4y (k + 100) key (z1k [[116, 97, 103]]) ++ z4y (k + 100) (z19x (k + 100) key) (s.take (s.length - 32))) := by
  have h4 := ze2 k (key := key) (by omega) hl
  have h5 : (s.take (s.length - 32)).length <= 4144 := by rw [List.length_take]; omega
  unfold z25 z2w z2v
  rw [zr (z3c (by omega)), show decide ((4144 : Int) < (((List.length s) : Nat) : Int)) = false from z3c (by omega)]
  dsimp only
  rw [cond_false, zdb k (by simp) (by rw [zh3]; omega), Option.bind_some, ze1 k (by omega) hl (by rw [zh3]; omega), Option.bind_some, z4f k (by omega) hl (by simp) (by rw [zh3]; omega), Option.bind_some, wlen h1 (by omega), zg (z17 (by omega)), Int.toNat_natCast, zez]
  show ((z19 (k + 100) (z19x (k + 100) key) (s.take (s.length - 32))).bind _) = _
  rw [ze1 k (by omega) (by omega) (by omega), Option.bind_some, zg (by rfl)]
  rfl

end
end Go.Proofs.YtkipbccgnekoaaaGreatDoorLg

set_option linter.all false
set_option maxRecDepth 100000
namespace Go.Proofs.YtkipbccgnekoaaaGreatDoorLg
noncomputable section
open Go Go.Lift Go.Proofs.YtkipbccgnekoaaaGreatDoorPx

abbrev zl0 : Type := List Bool × (List (List UInt8) × (Int × (Int × (List (List UInt8) × Unit))))

def z3r (st : SV) (e : Int) : zl0 := (st.used, (st.texts, (((st.work : Nat) : Int), (e, (st.summed, ())))))

theorem zt2 {α : Type} (l : List α) (d : α) (j : Nat) (h : j < l.length) : l.take (j + 1) = l.take j ++ [l.getD j d] := by
  rw [List.getD_eq_getElem?_getD, List.getElem?_eq_getElem h, Option.getD_some, <- List.take_append_getElem h]

theorem zr6 (id : List UInt8) (t : Tk) (u : Bool) : ∀ (ts : List Tk) (us : List Bool) (i : Nat), ts.length = us.length →
    zc5 id (ts ++ [t]) (us ++ [u]) i = (zc5 id ts us i).orElse fun _ => if t.1 = id /\ u = false then some (i + ts.length) else none
  | [], [], i, _ => by simp [zc5]
  | [], _ :: _, i, h => by simp at h
  | _ :: _, [], i, h => by simp at h
  | x :: ts, v :: us, i, h => by
    simp only [List.cons_append, zc5]
    by_cases hc : x.1 = id /\ v = false
    . rw [if_pos hc, if_pos hc]; rfl
    . rw [if_neg hc, if_neg hc, zr6 id t u ts us (i + 1) (by simpa using h)]
      congr 1
      funext _
      rw [List.length_cons, Nat.add_assoc, Nat.add_comm 1]

theorem z1do (N : Nat) (hN : 200 < N) {b : zau} {x4 p : zl0} {tags : List (List (List UInt8))} {tokens : List Tk} {i k : Int} {l : Lk} {ck : List UInt8} (hu : p.1.length = b.2.1.length) (hl : b.2.1.length <= 100) (k0 : Int -> Option zl0) :
    zdd N b x4 p tags tokens i k l ck 0 (-1) k0 = k0 (unI (zc5 l.1 b.2.1 p.1 0)) := by
  rw [zdd, zo1, z1e (by unfold I64; omega)]
  refine (z3i (γ := Nat × Int) (fun g v => v = (g.2, ((g.1 : Nat) : Int) - 1) /\ g.1 <= b.2.1.length) (fun v => (v.2 + 1).toNat) (fun g => k0 (match zc5 l.1 (b.2.1.take g.1) (p.1.take g.1) 0 with | some a => ((a : Nat) : Int) | none => g.2)) ?_ N (b.2.1.length, -1) ((-1 : Int), ((b.2.1.length : Nat) : Int) - 1) ⟨rfl, by omega⟩ (by simp only; omega)).trans ?_
  . rintro ⟨m, at_⟩ v r ⟨rfl, hm⟩ hr
    simp only at hm
    simp only
    rw [zju, zh8]
    cases m with
    | zero => rw [zr (decide_eq_false (by omega))]; rfl
    | succ j =>
      have hj : j < b.2.1.length := by omega
      have hj2 : j < p.1.length := by omega
      have e : ((j + 1 : Nat) : Int) - 1 = (j : Int) := by omega
      rw [e, zg (decide_eq_true (by omega)), zg (by rfl), zld, zlc, zg (zz hj2), Int.toNat_natCast, zg (decide_eq_true hj2), zg (zz hj)]
      rw [show (([] : List UInt8), (([] : List ((List UInt8) × ((List UInt8) × Unit))), (([] : List UInt8), ()))) = z10 from rfl]
      rw [zt2 b.2.1 z10 j hj, zt2 p.1 false j hj2, zr6 _ _ _ _ _ _ (by rw [List.length_take, List.length_take]; omega), List.length_take, Nat.min_eq_left (by omega), Nat.zero_add]
      rw [z1e (x := (j : Int) - 1) (by unfold I64; omega)]
      have hA := hr (j, (j : Int)) ((j : Int), (j : Int) - 1) ⟨rfl, by simp only; omega⟩ (by simp only; omega)
      have hB := hr (j, at_) (at_, (j : Int) - 1) ⟨rfl, by simp only; omega⟩ (by simp only; omega)
      simp only at hA hB
      cases hb : p.1.getD j false with
      | true =>
        rw [Bool.not_true, cond_false, cond_false, hB, if_neg (by simp)]
        cases zc5 l.1 (b.2.1.take j) (p.1.take j) 0 <;> rfl
      | false =>
        rw [Bool.not_false, cond_true]
        by_cases h1 : (b.2.1.getD j z10).1 = l.1
        . rw [beq_iff_eq.2 h1, cond_true, hA, if_pos ⟨h1, rfl⟩]
          cases zc5 l.1 (b.2.1.take j) (p.1.take j) 0 <;> rfl
        . rw [beq_eq_false_iff_ne.2 h1, cond_false, hB, if_neg (fun h => h1 h.1)]
          cases zc5 l.1 (b.2.1.take j) (p.1.take j) 0 <;> rfl
  . simp only
    rw [List.take_length, <- hu, List.take_length]
    unfold unI
    rfl

theorem z1dn (N : Nat) (hN : 200 < N) {b : zau} {x4 p : zl0} {tags : List (List (List UInt8))} {tokens : List Tk} {i k : Int} {l : Lk} {ck : List UInt8} {e : Int} (he : e ≠ 0) (k0 : Int -> Option zl0) :
    zdd N b x4 p tags tokens i k l ck e (-1) k0 = k0 (-1) := by
  rw [zdd, zo1]
  refine (z2p (fun v => v = ((-1 : Int), IntKind.wrap .i64 (((b.2.1.length : Nat) : Int) - 1))) (fun _ => 0) (fun _ => k0 (-1)) ?_ N _ rfl (by omega))
  rintro v r rfl hr
  rw [zju, zh8]
  cases decide ((0 : Int) <= IntKind.wrap .i64 (((b.2.1.length : Nat) : Int) - 1)) with
  | true => rw [cond_true, zr (beq_eq_false_iff_ne.2 he)]
  | false => rw [cond_false]

theorem z1ac (k : Nat) {key s : List UInt8} (hk : 4400 <= k) (hl : key.length <= 30000) : z25 (k + 100) key s = some (z16h (k + 100) key s) := by
  unfold z16h
  by_cases h1 : 48 <= s.length
  . by_cases h2 : s.length <= 4144
    . rw [if_pos ⟨h1, h2⟩, zvc k hk hl h1 h2]
    . rw [if_neg (by omega)]
      simp only [z25, z2w, z2v]
      rw [zr (decide_eq_false (by omega)), decide_eq_true (show (4144 : Int) < ((s.length : Nat) : Int) by omega)]
      rfl
  . rw [if_neg (by omega)]
    simp only [z25, z2w, z2v]
    rw [zg (decide_eq_true (by omega))]
    rfl

theorem z17r (N : Nat) {ls : List Lk} {t : List UInt8} (hl : ls.length <= 1000) : z2t N (zal N t ls) = some (z8d N t ls) := by
  rw [z2t, z3j, z1e (by unfold I64; omega), show (((ls.length + 1 : Nat) : Nat) : Int) - 1 = ((ls.length : Nat) : Int) by omega, zg (zz (by omega)), Int.toNat_natCast, zl3]

def z98 (st : SV) : List (List (List UInt8)) := st.items.map (·.2)
def z6l (st : SV) : List Tk := st.items.map (·.1)

theorem zp0 {α β : Type} (f : α -> β) (l : List α) (d : α) (e : β) (i : Nat) (h : i < l.length) : (l.map f).getD i e = f (l.getD i d) := by
  simp only [List.getD_eq_getElem?_getD, List.getElem?_map, List.getElem?_eq_getElem h, Option.map_some, Option.getD_some]

set_option maxHeartbeats 4000000 in
theorem linkR (k : Nat) (hk : 4400 <= k) {b : zau} {x4 : zl0} {C i j : Nat} {l : Lk} {ls : List Lk} {st : SV} {g : List UInt8} (hb : GoodB b) (h : Inv b C i (l :: ls) st) (hC : C <= 100000) (hi : i < st.items.length) (hi9 : i <= 20)
    (hj : j < (st.items.getD i (z10, [])).1.2.1.length) (hl : (st.items.getD i (z10, [])).1.2.1.getD j ([], [], ()) = l) (hj2 : j < (st.items.getD i (z10, [])).2.length) (hg : (st.items.getD i (z10, [])).2.getD j [] = g) (hg32 : g.length = 32)
    (k0 : zl0 -> List (List (List UInt8)) -> List Tk -> Option zl0) (k1 : zl0 -> Option zl0) :
    zjv (k + 100) b x4 (z3r st 0) (z98 st) (z6l st) (i : Int) (j : Int) k0 k1 = if l.2.1 = [] then k0 (z3r { st with texts := st.texts ++ [l.1] } 0) (z98 st) (z6l st) else
      match za5 (k + 100) b st g l with | (s, true) => k0 (z3r s 0) (z98 s) (z6l s) | (s, false) => k1 (z3r s 11) := by
  have hwk := h.work
  have hsm := h.summed
  have htx := h.texts
  simp only [List.length_cons] at htx
  have hu : st.used.length = b.2.1.length := h.used
  have hb8 := hb.len
  have hlen := h.len
  have hun := zh1 st.used
  have hti : i < (z6l st).length := by unfold z6l; rw [List.length_map]; exact hi
  have hgi : i < (z98 st).length := by unfold z98; rw [List.length_map]; exact hi
  have htg : (z6l st).getD i z10 = (st.items.getD i (z10, [])).1 := zp0 _ _ (z10, []) _ _ hi
  have hgg : (z98 st).getD i [] = (st.items.getD i (z10, [])).2 := zp0 _ _ (z10, []) _ _ hi
  rw [zjv, zg (zz hti), Int.toNat_natCast, zg (decide_eq_true hti)]
  rw [show (([] : List UInt8), (([] : List ((List UInt8) × ((List UInt8) × Unit))), (([] : List UInt8), ()))) = z10 from rfl, htg, zg (zz hj), Int.toNat_natCast, hl]
  by_cases hown : l.2.1 = []
  . rw [zg (beq_iff_eq.2 hown), if_pos hown, zg (decide_eq_true (by show (st.texts.length + 1) * 16 <= _; omega))]
    rfl
  rw [zr (beq_eq_false_iff_ne.2 hown), if_neg hown, zg (zz hgi), zg (decide_eq_true hgi), hgg, zg (zz hj2), hg]
  have hsl : (z64 (k + 100) g).length = 32 := zcw k (by omega) (by omega)
  rw [zrs k (by omega) (by omega), Option.bind_some, zg (zz hgi), zg (decide_eq_true hgi), zg (zz hj2)]
  rw [show z1d (k + 100) [[115, 101, 97, 108]] = some (z1k [[115, 101, 97, 108]]) from zdb k (by simp) (by rw [zg1]; omega), Option.bind_some]
  rw [show z19 (k + 100) g (z1k [[115, 101, 97, 108]]) = some (z4y (k + 100) g (z1k [[115, 101, 97, 108]])) from ze1 k (by omega) (by omega) (by rw [zg1]; omega), Option.bind_some]
  have hbx : (z16h (k + 100) (z64 (k + 100) g) l.2.1).length <= 4 := by
    unfold z16h
    split <;> simp [z4y]
  have ht2 : ∀ x y : List UInt8, (z4y (k + 100) x y).length = 2 := fun _ _ => rfl
  rw [zg (decide_eq_true (by rw [ht2]; show (st.summed.length + 2) * 16 <= _; omega)), z1ac k hk (by omega), Option.bind_some, zg (decide_eq_true (by rw [List.length_append, ht2]; show (st.summed.length + 2 + _) * 16 <= _; omega))]
  have hw1 : IntKind.wrap .i64 (((z3r st 0).2.2.1) + 1) = ((st.work + 1 : Nat) : Int) := by show IntKind.wrap .i64 (((st.work : Nat) : Int) + 1) = _; rw [z1e (by unfold I64; omega)]; omega
  unfold za5
  simp only
  cases ho : zpw (k + 100) (z64 (k + 100) g) l.2.1 with
  | none =>
    obtain ⟨e, he, _, hbo⟩ := zmn k hk (by omega) ho
    rw [hbo, Option.bind_some, z1dn (k + 100) (by omega) he, zg (decide_eq_true (by omega)), hw1]
    simp only
    refine congrArg k1 ?_
    unfold z3r
    simp only [List.append_assoc]
  | some c =>
    have hc := zga k (by omega) (by omega) ho
    rw [(zmm k hk (by omega) ho).2, Option.bind_some, z1do (k + 100) (by omega) (p := ((z3r st 0).1, ((z3r st 0).2.1, (IntKind.wrap .i64 (((z3r st 0).2.2.1) + 1), ((z3r st 0).2.2.2.1, ((((z3r st 0).2.2.2.2.1 ++ z4y (k + 100) g (z1k [[115, 101, 97, 108]])) ++ z16h (k + 100) (z64 (k + 100) g) l.2.1), (z3r st 0).2.2.2.2.2)))))) hu (by omega), hw1]
    simp only
    rw [show (z3r st 0).1 = st.used from rfl]
    cases hf : zc5 l.1 b.2.1 st.used 0 with
    | none =>
      rw [zg (by rfl)]
      refine congrArg k1 ?_
      unfold z3r
      simp only [List.append_assoc]
    | some a =>
      obtain ⟨_, g2, g3, g4, g5, g6, g7⟩ := zhd _ _ _ _ _ hf
      rw [Nat.sub_zero] at g2 g3
      have hd := hb.more _ (z43 b.2.1 z10 a g2)
      have hd1 := hd.tag
      have hd2 := hd.len
      have hd3 := hd.id
      have hbt := hb.one.tag
      have hr := ztg k (c := c) (id := (b.2.1.getD a z10).1) (by omega) (by omega) (by omega)
      have hlast : (z8d (k + 100) (z5l (k + 100) c (b.2.1.getD a z10).1) (b.2.1.getD a z10).2.1).length = 32 := z9q k (by omega) _ hr hd.links
      have htl : (zht (k + 100) c (b.2.1.getD a z10).1 (b.2.1.getD a z10).2.1).length = 2 + 2 * (b.2.1.getD a z10).2.1.length := by unfold zht; rw [List.length_append, z6u]; rfl
      rw [show unI (some a) = ((a : Nat) : Int) from rfl, zr (decide_eq_false (by omega)), zg (zz g3), Int.toNat_natCast, zg (decide_eq_true g3)]
      simp only [zz g2, cond_true]
      rw [zl8 k (by omega) (by omega) (by omega) (by omega) hd.links, Option.bind_some, zm4 k (by omega) (by omega) (by omega) (by omega) hd.links, Option.bind_some]
      rw [zg (decide_eq_true (by rw [htl, List.length_append, List.length_append, ht2]; show (st.summed.length + 2 + _ + _) * 16 <= _; omega)), z17r _ (by omega), Option.bind_some]
      rw [show z1d (k + 100) [[98, 105, 110, 100], z8d (k + 100) (z5l (k + 100) c (b.2.1.getD a z10).1) (b.2.1.getD a z10).2.1] = some (z1k [[98, 105, 110, 100], z8d (k + 100) (z5l (k + 100) c (b.2.1.getD a z10).1) (b.2.1.getD a z10).2.1]) from zdb k (by simp) (by rw [zgx]; omega), Option.bind_some]
      rw [show z19 (k + 100) b.1.2.2.1 (z1k [[98, 105, 110, 100], z8d (k + 100) (z5l (k + 100) c (b.2.1.getD a z10).1) (b.2.1.getD a z10).2.1]) = some (z4y (k + 100) b.1.2.2.1 (z1k [[98, 105, 110, 100], z8d (k + 100) (z5l (k + 100) c (b.2.1.getD a z10).1) (b.2.1.getD a z10).2.1])) from ze1 k (by omega) (by omega) (by rw [zgx]; omega), Option.bind_some]
      rw [zg (decide_eq_true (by rw [ht2, List.length_append, htl, List.length_append, List.length_append, ht2]; show (st.summed.length + 2 + _ + _ + _) * 16 <= _; omega)), Option.bind_some, zve k (by omega) (by omega) (by omega), Option.bind_some]
      rw [z3j]
      have hw2 : IntKind.wrap .i64 (IntKind.wrap .i64 (((st.work + 1 : Nat) : Int) + (((b.2.1.getD a z10).2.1.length + 1 : Nat) : Int)) + 1) = ((st.work + (b.2.1.getD a z10).2.1.length + 3 : Nat) : Int) := by
        rw [z1e (x := ((st.work + 1 : Nat) : Int) + (((b.2.1.getD a z10).2.1.length + 1 : Nat) : Int)) (by unfold I64; omega), z1e (by unfold I64; omega)]; omega
      rw [hw2]
      by_cases he : zuq (k + 100) b.1.2.2.1 (z8d (k + 100) (z5l (k + 100) c (b.2.1.getD a z10).1) (b.2.1.getD a z10).2.1) = (b.2.1.getD a z10).2.2.1
      . have l1 : (z6l st).length = st.items.length := List.length_map ..
        have l2 : (z98 st).length = st.items.length := List.length_map ..
        rw [beq_iff_eq.2 he, Bool.not_true, cond_false, zg (decide_eq_true (by omega)), zg (decide_eq_true (by omega)), if_pos he]
        unfold z3r z98 z6l
        simp only [List.append_assoc, List.map_append, List.map_cons, List.map_nil]
      . rw [beq_eq_false_iff_ne.2 he, Bool.not_false, cond_true, if_neg he]
        unfold z3r
        simp only [List.append_assoc]

end
end Go.Proofs.YtkipbccgnekoaaaGreatDoorLg

set_option linter.all false
set_option maxRecDepth 100000
namespace Go.Proofs.YtkipbccgnekoaaaGreatDoorLg
noncomputable section
open Go Go.Lift Go.Proofs.YtkipbccgnekoaaaGreatDoorPx

theorem z196 (k : Nat) : z2h (k + 1100) = some true := by kernel_rfl

end
end Go.Proofs.YtkipbccgnekoaaaGreatDoorLg

set_option linter.all false
set_option maxRecDepth 100000
namespace Go.Proofs.YtkipbccgnekoaaaGreatDoorLg
noncomputable section
open Go Go.Lift Go.Proofs.YtkipbccgnekoaaaGreatDoorPx

theorem z10u (N : Nat) (b : zau) (st : SV) (before : List UInt8) (l : Lk) (i : Nat) (hi : i < st.items.length) : (za5 N b st before l).1.items.getD i (z10, []) = st.items.getD i (z10, []) := by
  unfold za5
  simp only
  split
  . rfl
  . split
    . rfl
    . split
      . simp only [List.getD_eq_getElem?_getD]
        rw [List.getElem?_append_left hi]
      . rfl

theorem zs1 (k : Nat) (hk : 600 <= k) {b : zau} {C i : Nat} (hb : GoodB b) : ∀ (ls : List Lk) (gs : List (List UInt8)) (st : SV), Inv b C i ls st -> i < st.items.length -> (∀ g ∈ gs, g.length = 32) -> (z3p (k + 100) b ls gs st).1.texts.length <= 64 * (i + 1)
  | [], gs, st, h, hi, _ => by
    unfold z3p
    have := h.texts
    simp only [List.length_nil] at this ⊢; omega
  | l :: ls, [], st, h, hi, _ => by
    unfold z3p
    have := h.texts
    simp only at this ⊢; omega
  | l :: ls, g :: gs, st, h, hi, hg => by
    unfold z3p
    by_cases hl : l.2.1 = []
    . rw [if_pos hl]
      exact zs1 k hk hb ls gs _ (zru h hl) hi (fun x hx => hg x (List.mem_cons_of_mem _ hx))
    . rw [if_neg hl]
      have h1 := zji k hk hb h hi hl (hg g List.mem_cons_self)
      have h2 := ze0 (k + 100) b st g l
      generalize za5 (k + 100) b st g l = T at *
      obtain ⟨s, ok⟩ := T
      cases ok with
      | true => exact zs1 k hk hb ls gs s h1 (Nat.lt_of_lt_of_le hi h2) (fun x hx => hg x (List.mem_cons_of_mem _ hx))
      | false =>
        have := h1.texts
        simp only at this ⊢; omega

theorem zy2 (k : Nat) (hk : 600 <= k) {b : zau} {C : Nat} (hb : GoodB b) : ∀ (f i : Nat) (st : SV), OInv b C i st -> i + f <= 20 -> (z5a (k + 100) b f i st).1.texts.length <= 1280
  | 0, i, st, h, hf => by
    have := h.texts
    simp only [z5a]; omega
  | f + 1, i, st, h, hf => by
    unfold z5a
    split
    . rename_i hi
      have hx := h.items _ (z43 st.items (z10, []) i hi)
      have hfi := zdm k hk hb _ (st.items.getD i (z10, [])).2 st (h.enter hi) hi hx.2.2
      have htx := zs1 k hk hb _ (st.items.getD i (z10, [])).2 st (h.enter hi) hi hx.2.2
      generalize z3p (k + 100) b (st.items.getD i (z10, [])).1.2.1 (st.items.getD i (z10, [])).2 st = T at *
      obtain ⟨s, ok⟩ := T
      cases ok with
      | true => exact zy2 k hk hb f (i + 1) s (hfi.2.2.2 rfl).1.leave (by omega)
      | false => simp only at htx ⊢; omega
    . have := h.texts
      simp only; omega

theorem zvf (k : Nat) (hk : 600 <= k) {key : List UInt8} {b : zau} (hb : GoodB b) (hl : key.length <= 30000) : (za7 (k + 100) key b).1.texts.length <= 1280 := by
  unfold za7
  split
  . exact zy2 k hk hb 20 0 _ (zrl k hk hb hl) (by omega)
  . simp [stA]

theorem z1l9 (k : Nat) (hk : 4400 <= k) {b : zau} {x4 : zl0} {C i : Nat} (hb : GoodB b) (hC : C <= 100000) (hi9 : i <= 20) {x : ItD} (hx : z179 x) {st0 : SV} (h0 : Inv b C i x.1.2.1 st0) (hi0 : i < st0.items.length) (hx0 : st0.items.getD i (z10, []) = x)
    (k0 : zl0 -> Option zl0) (k1 : zl0 -> List (List (List UInt8)) -> List Tk -> Option zl0) :
    zo2 (k + 100) b x4 (z3r st0 0) (z98 st0) (z6l st0) (i : Int) 0 k0 k1 = match z3p (k + 100) b x.1.2.1 x.2 st0 with | (s, true) => k1 (z3r s 0) (z98 s) (z6l s) | (s, false) => k0 (z3r s 11) := by
  have hxl := hx.1.len
  have hxt := hx.2.1
  rw [zo2]
  refine (z3i (γ := List Lk × List (List UInt8) × SV) (fun g v => ∃ j : Nat, v = (z3r g.2.2 0, z98 g.2.2, z6l g.2.2, (j : Int)) /\ j <= x.1.2.1.length /\ g.1 = x.1.2.1.drop j /\ g.2.1 = x.2.drop j /\ Inv b C i g.1 g.2.2 /\ i < g.2.2.items.length /\ g.2.2.items.getD i (z10, []) = x)
    (fun v => x.1.2.1.length - v.2.2.2.toNat) (fun g => match z3p (k + 100) b g.1 g.2.1 g.2.2 with | (s, true) => k1 (z3r s 0) (z98 s) (z6l s) | (s, false) => k0 (z3r s 11)) ?_ (k + 100) (x.1.2.1, x.2, st0) (z3r st0 0, z98 st0, z6l st0, 0) ⟨0, rfl, by omega, rfl, rfl, h0, hi0, hx0⟩ (by simp only; omega))
  rintro ⟨ls, gs, st⟩ v r ⟨j, rfl, hj, e1, e2, hinv, hi, hxi⟩ hr
  simp only at e1 e2 hinv hi hxi
  subst e1 e2
  simp only [Int.toNat_natCast]
  have hti : i < (z6l st).length := by unfold z6l; rw [List.length_map]; exact hi
  have htg : (z6l st).getD i z10 = x.1 := by rw [<- hxi]; exact zp0 _ _ (z10, []) _ _ hi
  rw [zny, zg (zz hti), Int.toNat_natCast, zg (decide_eq_true hti), show (([] : List UInt8), (([] : List ((List UInt8) × ((List UInt8) × Unit))), (([] : List UInt8), ()))) = z10 from rfl, htg]
  by_cases hlt : j < x.1.2.1.length
  . have hlt2 : j < x.2.length := by omega
    have hg32 := hx.2.2 _ (z43 x.2 [] j hlt2)
    rw [z1n x.1.2.1 ([], [], ()) j hlt] at hinv ⊢
    rw [z1n x.2 [] j hlt2, z3p, zg (decide_eq_true (by omega)), z15 (by omega)]
    rw [linkR k hk hb hinv hC hi hi9 (by rw [hxi]; exact hlt) (by rw [hxi]) (by rw [hxi]; exact hlt2) (by rw [hxi]) hg32]
    by_cases hl : (x.1.2.1.getD j ([], [], ())).2.1 = []
    . rw [if_pos hl, if_pos hl]
      exact hr (x.1.2.1.drop (j + 1), x.2.drop (j + 1), _) _ ⟨j + 1, rfl, by omega, rfl, rfl, zru hinv hl, hi, hxi⟩ (by simp only; omega)
    . rw [if_neg hl, if_neg hl]
      have h1 := zji k (by omega) hb hinv hi hl hg32
      have h2 := ze0 (k + 100) b st (x.2.getD j []) (x.1.2.1.getD j ([], [], ()))
      have h3 := z10u (k + 100) b st (x.2.getD j []) (x.1.2.1.getD j ([], [], ())) i hi
      generalize za5 (k + 100) b st (x.2.getD j []) (x.1.2.1.getD j ([], [], ())) = T at *
      obtain ⟨s, ok⟩ := T
      cases ok with
      | true => exact hr (x.1.2.1.drop (j + 1), x.2.drop (j + 1), s) _ ⟨j + 1, rfl, by omega, rfl, rfl, h1, Nat.lt_of_lt_of_le hi h2, h3.trans hxi⟩ (by simp only; omega)
      | false => rfl
  . rw [zr (decide_eq_false (by omega)), z2z _ (by omega), z3p]

theorem z1iv (k : Nat) (hk : 4400 <= k) {b : zau} {x4 : zl0} {C : Nat} (hb : GoodB b) (hC : C <= 100000) {st0 : SV} (h0 : OInv b C 0 st0) (k0 k1 : zl0 -> Option zl0) :
    zo3 (k + 100) b x4 (z3r st0 0) (z98 st0) (z6l st0) 0 k0 k1 = match z5a (k + 100) b 20 0 st0 with | (s, true) => k1 (z3r s 0) | (s, false) => k0 (z3r s 11) := by
  rw [zo3]
  refine (z3i (γ := Nat × SV) (fun g v => v = (z3r g.2 0, z98 g.2, z6l g.2, ((g.1 : Nat) : Int)) /\ g.1 <= 9 /\ OInv b C g.1 g.2) (fun v => 10 - v.2.2.2.toNat) (fun g => match z5a (k + 100) b (20 - g.1) g.1 g.2 with | (s, true) => k1 (z3r s 0) | (s, false) => k0 (z3r s 11)) ?_ (k + 100) (0, st0) (z3r st0 0, z98 st0, z6l st0, 0) ⟨rfl, by omega, h0⟩ (by simp only; omega))
  rintro ⟨i, st⟩ v r ⟨rfl, hi9, hinv⟩ hr
  simp only at hi9 hinv
  simp only
  have hb8 := hb.len
  have hln := hinv.len
  have hun := zh1 st.used
  have hul := hinv.used
  obtain ⟨f, hf⟩ : ∃ f, 20 - i = f + 1 := ⟨19 - i, by omega⟩
  have hlm : (z6l st).length = st.items.length := List.length_map ..
  rw [znz, hf, z5a, hlm]
  by_cases hlt : i < st.items.length
  . have hx := hinv.items _ (z43 st.items (z10, []) i hlt)
    rw [zg (decide_eq_true (by omega)), if_pos hlt, z1l9 k hk hb hC (by omega) hx (hinv.enter hlt) hlt rfl]
    have hfin := zdm k (by omega) hb _ (st.items.getD i (z10, [])).2 st (hinv.enter hlt) hlt hx.2.2
    generalize z3p (k + 100) b (st.items.getD i (z10, [])).1.2.1 (st.items.getD i (z10, [])).2 st = T at *
    obtain ⟨s, ok⟩ := T
    cases ok with
    | true =>
      simp only
      obtain ⟨h1, h2⟩ := hfin.2.2.2 rfl
      simp only at h1 h2
      have hl1 := h1.len
      have hl2 := zh1 s.used
      have hl3 := h1.used
      rw [z15 (by omega), hr (i + 1, s) _ ⟨rfl, by simp only; omega, h1.leave⟩ (by simp only; omega)]
      simp only
      rw [show 20 - (i + 1) = f by omega]
    | false => rfl
  . rw [zr (decide_eq_false (by omega)), if_neg hlt]

theorem usedR (N : Nat) {x4 : zl0} {st : SV} {e0 : Int} (hu : st.used.length <= 100) (hN : 200 < N) (k0 : zl0 -> Option zl0) :
    zlb N x4 (z3r st e0) 0 k0 = k0 (z3r st (if st.used.contains false = true then 11 else e0)) := by
  rw [zlb]
  refine (z3i (γ := Nat × Int) (fun g v => v = (z3r st g.2, ((g.1 : Nat) : Int)) /\ g.1 <= st.used.length) (fun v => st.used.length - v.2.toNat) (fun g => k0 (z3r st (if (st.used.drop g.1).contains false = true then 11 else g.2))) ?_ N (0, e0) (z3r st e0, 0) ⟨rfl, by omega⟩ (by simp only; omega)).trans (by rfl)
  rintro ⟨i, e⟩ v r ⟨rfl, hi⟩ hr
  simp only at hi
  simp only
  rw [zl9, show (z3r st e).1 = st.used from rfl]
  by_cases hlt : i < st.used.length
  . rw [zg (decide_eq_true (by omega)), zla, show (z3r st e).1 = st.used from rfl, zg (zz hlt), Int.toNat_natCast, zg (decide_eq_true hlt), z1n st.used false i hlt, List.contains_cons, z15 (by omega)]
    cases hb : st.used.getD i false with
    | false =>
      rw [Bool.not_false, cond_true, beq_self_eq_true, Bool.true_or, if_pos rfl]
      refine (hr (i + 1, 11) _ ⟨rfl, by simp only; omega⟩ (by simp only; omega)).trans ?_
      simp only
      cases (st.used.drop (i + 1)).contains false <;> rfl
    | true =>
      rw [Bool.not_true, cond_false]
      refine (hr (i + 1, e) _ ⟨rfl, by simp only; omega⟩ (by simp only; omega)).trans ?_
      rfl
  . rw [zr (decide_eq_false (by omega)), z2z _ (by omega)]
    rfl

theorem z18r (N : Nat) {key : List UInt8} {b : zau} {x4 : zl0} (hb : b.2.1.length <= 100) (hN : 200 < N) (k0 : zl0 -> Option zl0) :
    zo5 N key b x4 ([], ([], (0, (0, ([], ()))))) 0 k0 = k0 (List.replicate b.2.1.length false, ([], (0, ((if b.2.1.any zmw = true then 3 else 0), ([], ()))))) := by
  rw [zo5]
  refine (z3i (γ := Nat × Int) (fun g v => v = ((List.replicate g.1 false, ([], (0, (g.2, ([], ()))))), ((g.1 : Nat) : Int)) /\ g.1 <= b.2.1.length) (fun v => b.2.1.length - v.2.toNat) (fun g => k0 (List.replicate b.2.1.length false, ([], (0, ((if (b.2.1.drop g.1).any zmw = true then 3 else g.2), ([], ())))))) ?_ N (0, 0) (([], ([], (0, (0, ([], ()))))), 0) ⟨rfl, by omega⟩ (by simp only; omega)).trans (by rfl)
  rintro ⟨i, e⟩ v r ⟨rfl, hi⟩ hr
  simp only at hi
  simp only
  rw [zo0]
  by_cases hlt : i < b.2.1.length
  . rw [zg (decide_eq_true (by omega)), zo4, zg (decide_eq_true (by simp only [List.length_replicate]; omega)), zg (zz hlt), Int.toNat_natCast, show (([] : List UInt8), (([] : List ((List UInt8) × ((List UInt8) × Unit))), (([] : List UInt8), ()))) = z10 from rfl, z1n b.2.1 z10 i hlt, List.any_cons, z15 (by omega), zmw]
    have hrep : List.replicate i false ++ [false] = List.replicate (i + 1) false := by rw [List.replicate_succ']
    simp only [hrep]
    by_cases h : 64 < (b.2.1.getD i z10).2.1.length
    . rw [zg (decide_eq_true (by omega)), decide_eq_true h, Bool.true_or, if_pos rfl]
      refine (hr (i + 1, 3) _ ⟨rfl, by simp only; omega⟩ (by simp only; omega)).trans ?_
      simp only
      cases (b.2.1.drop (i + 1)).any zmw <;> rfl
    . rw [zr (decide_eq_false (by omega)), decide_eq_false h, Bool.false_or]
      exact hr (i + 1, e) _ ⟨rfl, by simp only; omega⟩ (by simp only; omega)
  . have : i = b.2.1.length := by omega
    subst this
    rw [zr (decide_eq_false (by omega)), List.drop_length]
    rfl

theorem z15c (N : Nat) (hN : 200 < N) {key : List UInt8} {b : zau} (hb : b.2.1.length <= 100) (h : zb0 b = false) : ∃ p : zl0, zo6 N key b = some p /\ p.2.2.2.1 = 3 /\ p.2.2.1 = 0 := by
  rw [zo6, z18r N hb hN, zjx, zjw]
  unfold zb0 at h
  have hE : ∀ e : Int, e = 3 -> ∃ p : zl0, (cond (e != (0 : Int)) (some ((List.replicate b.2.1.length false, ([], (0, (e, ([], ()))))) : zl0)) none) = some p /\ p.2.2.2.1 = 3 /\ p.2.2.1 = 0 := by
    intro e he; subst he; exact ⟨_, rfl, rfl, rfl⟩
  by_cases h1 : 8 < b.2.1.length
  . rw [zg (decide_eq_true (by omega)), cond_true]
    exact ⟨_, rfl, rfl, rfl⟩
  . rw [zr (decide_eq_false (by omega))]
    rw [decide_eq_true (show b.2.1.length <= 8 by omega), Bool.true_and, Bool.not_eq_false', List.any_cons, zmw] at h
    by_cases h2 : 64 < b.1.2.1.length
    . rw [decide_eq_true (show (64 : Int) < ((b.1.2.1.length : Nat) : Int) by omega), cond_true]
      exact ⟨_, rfl, rfl, rfl⟩
    . rw [decide_eq_false h2, Bool.false_or] at h
      rw [decide_eq_false (show ¬ (64 : Int) < ((b.1.2.1.length : Nat) : Int) by omega), cond_false, h, if_pos rfl]
      exact ⟨_, rfl, rfl, rfl⟩

theorem z11n (k : Nat) (hk : 4400 <= k) {key : List UInt8} {b : zau} (hb : GoodB b) (hl : key.length <= 30000) (h : zb0 b = true) :
    zo6 (k + 100) key b = some (z3r (za7 (k + 100) key b).1 (za7 (k + 100) key b).2) := by
  have hb8 := hb.len
  have hb1 := hb.one.tag
  have hln := hb.one.len
  have hid := hb.one.id
  have hO := zrl k (by omega) hb hl
  have hM := zy6 hb
  unfold zb0 at h
  rw [Bool.and_eq_true, decide_eq_true_eq, Bool.not_eq_true', List.any_cons, Bool.or_eq_false_iff] at h
  rw [zo6, z18r (k + 100) (by omega) (by omega), zjx, zjw, zr (decide_eq_false (by omega)), decide_eq_false (show ¬ (64 : Int) < ((b.1.2.1.length : Nat) : Int) by omega), cond_false, h.2.2, if_neg (by simp)]
  simp only
  rw [zr (by rfl), zl8 k (by omega) hl (by omega) (by omega) hb.one.links, Option.bind_some, zm4 k (by omega) hl (by omega) (by omega) hb.one.links, Option.bind_some, z17r _ (by omega), Option.bind_some, z3j]
  unfold za7
  by_cases he : z8d (k + 100) (z5l (k + 100) key b.1.1) b.1.2.1 = b.1.2.2.1
  . rw [beq_iff_eq.2 he, Bool.not_true, cond_false, if_pos he]
    have e1 : ((List.replicate b.2.1.length false, (([] : List (List UInt8)), (((b.1.2.1.length + 1 : Nat) : Int), ((0 : Int), (zht (k + 100) key b.1.1 b.1.2.1, ()))))) : zl0) = z3r (stB (k + 100) key b) 0 := rfl
    have e2 : ([zal (k + 100) (z5l (k + 100) key b.1.1) b.1.2.1] : List (List (List UInt8))) = z98 (stB (k + 100) key b) := rfl
    have e3 : ([b.1] : List Tk) = z6l (stB (k + 100) key b) := rfl
    rw [e1, e2, e3, z1iv k hk hb (by omega) hO]
    have hfin := zk4 k (by omega) hb 20 0 _ hO
    generalize z5a (k + 100) b 20 0 (stB (k + 100) key b) = T at *
    obtain ⟨s, ok⟩ := T
    simp only at hfin ⊢
    cases ok with
    | false =>
      rw [if_neg (by simp)]
    | true =>
      simp only
      rw [usedR (k + 100) (by omega) (by omega)]
      cases hcn : s.used.contains false with
      | true => rw [if_pos rfl, if_neg (by simp)]
      | false => rw [if_neg (by simp), if_pos (by simp)]
  . rw [beq_eq_false_iff_ne.2 he, Bool.not_false, cond_true, if_neg he]
    rfl

theorem zv0 (k : Nat) (hk : 4400 <= k) (hw : z2h (k + 100) = some true) {key : List UInt8} {b : zau} : zhb (k + 100) key b = some true := by
  rw [zhb, zj7, zj6, hw]
  by_cases h1 : 100 < key.length
  . rw [zg (decide_eq_true (by omega))]; rfl
  rw [zr (decide_eq_false (by omega))]
  obtain ⟨g, eg, fg⟩ := zzl k (by omega) b
  rw [eg]
  cases g with
  | true => rfl
  | false =>
    have hf := fg rfl
    have hf10 := hf.len
    simp only [Option.bind_some, cond_false]
    cases hwi : zb0 b with
    | false =>
      obtain ⟨p, ep, e3, w0⟩ := z15c (k + 100) (by omega) (key := key) (b := b) (by omega) hwi
      obtain ⟨v1, v2⟩ := z10q (k + 100) (by omega) (key := key) hwi
      rw [v1, ep]
      simp only [Option.bind_some]
      rw [zem, zel, e3]
      rw [zr (by rfl), v2, Option.bind_some, w0, zr (by rfl), z12c (k + 100) (by omega) hf, zxw (k + 100) (by omega) hf, Option.bind_some, Option.bind_some, zr (by simp), zg (by rfl)]
      simp only [Option.bind_some]
      rw [zr (by rfl), zg (by rfl), zg (decide_eq_true (by omega))]
    | true =>
      have hb := z1dl hf hwi
      have hl : key.length <= 30000 := by omega
      obtain ⟨v1, v2⟩ := zyr k hk hb hl hwi
      have hp := z11n k hk hb hl hwi
      have hwk := zzc k (by omega) hb hl
      have htx := zvf k (by omega) (key := key) hb hl
      rw [v1, hp]
      simp only [Option.bind_some]
      rw [zem, zel, v2]
      generalize za7 (k + 100) key b = R at *
      obtain ⟨s, e⟩ := R
      simp only at hwk htx ⊢
      rw [show (z3r s e).2.2.2.1 = e from rfl, show (z3r s e).2.2.1 = ((s.work : Nat) : Int) from rfl, show (z3r s e).2.1 = s.texts from rfl]
      rw [zr (by simp), Option.bind_some, zr (by simp), z12c (k + 100) (by omega) hf, zxw (k + 100) (by omega) hf, Option.bind_some, Option.bind_some, zr (by simp)]
      by_cases h0 : e = 0
      . subst h0
        rw [zr (by rfl), if_pos rfl, z15k (k + 100) (by omega) (by omega)]
        simp only [Option.bind_some, beq_self_eq_true, cond_true]
        rw [cond_false, zr (by rfl), zg (decide_eq_true (by omega))]
      . rw [zg (bne_iff_ne.2 h0), if_neg h0]
        simp only [Option.bind_some]
        rw [zr (by rfl), zg (bne_iff_ne.2 h0), zg (decide_eq_true (by omega))]

end
end Go.Proofs.YtkipbccgnekoaaaGreatDoorLg
