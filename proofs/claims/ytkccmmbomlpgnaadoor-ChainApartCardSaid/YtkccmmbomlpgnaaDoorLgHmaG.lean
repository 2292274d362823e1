/- Layer 4: the reference's lengths and frame. -/
import Derived.Test.YtkccmmbomlpgnaaDoorLgHmaF
set_option linter.all false
set_option maxRecDepth 100000
namespace Go.Proofs.YtkccmmbomlpgnaaDoorLg
open Go Go.Lift Go.Proofs.YtkccmmbomlpgnaaDoorPx

def low (n : Int) : Nat → Int
  | 0 => n
  | j + 1 => IntKind.wrap .i64 (Int.tdiv (low n j) 256)

def lowB (n : Int) (j : Nat) : List UInt8 := toStr [IntKind.wrap .u8 (Int.tmod (low n j) 256)]

theorem long_raw (k : Nat) (n : Int) : porterref04_long (k + 9) n = some (lowB n 7 ++ (lowB n 6 ++ (lowB n 5 ++ (lowB n 4 ++ (lowB n 3 ++ (lowB n 2 ++ (lowB n 1 ++ (lowB n 0 ++ [])))))))) := by kernel_rfl

theorem low_eq (n : Nat) (hn : n < 9223372036854775808) : ∀ j, low (n : Int) j = ((n / 256 ^ j : Nat) : Int)
  | 0 => by simp [low]
  | j + 1 => by
    have h : n / 256 ^ j ≤ n := Nat.div_le_self _ _
    have h2 : Int.tdiv ((n / 256 ^ j : Nat) : Int) 256 = ((n / 256 ^ (j + 1) : Nat) : Int) := by
      rw [Nat.pow_succ, ← Nat.div_div_eq_div_mul]; rfl
    have h3 : n / 256 ^ (j + 1) ≤ n := Nat.div_le_self _ _
    rw [low, low_eq n hn j, h2]
    generalize n / 256 ^ (j + 1) = m at h3
    exact wrap_in ⟨by omega, by omega⟩

theorem wrap8 (x : Int) : IntKind.wrap .u8 x = x % 256 := by
  simp [IntKind.wrap, IntKind.signed, IntKind.bits]

theorem lowB_eq (n : Nat) (hn : n < 9223372036854775808) (j : Nat) : lowB (n : Int) j = [UInt8.ofNat (n / 256 ^ j)] := by
  unfold lowB
  rw [low_eq n hn j]
  generalize n / 256 ^ j = m
  have h1 : Int.tmod ((m : Nat) : Int) 256 = ((m % 256 : Nat) : Int) := rfl
  rw [h1, wrap8]
  simp only [toStr, List.map_cons, List.map_nil, List.cons.injEq, and_true]
  apply UInt8.toNat_inj.1
  rw [UInt8.toNat_ofNat', UInt8.toNat_ofNat']
  omega

theorem be_one (n : Nat) (hn : n < 9223372036854775808) (i : Nat) (hi : i ≤ 7) : UInt8.ofNat (IntKind.wrap .u8 (shrI .u64 (IntKind.wrap .u64 ((n : Nat) : Int)) ((8 * i : Nat) : Int))).toNat = UInt8.ofNat (n / 256 ^ i) := by
  have h1 : IntKind.wrap .u64 ((n : Nat) : Int) = (n : Int) := by
    simp [IntKind.wrap, IntKind.signed, IntKind.bits]; omega
  have h2 : shrI .u64 (n : Int) ((8 * i : Nat) : Int) = ((n / 256 ^ i : Nat) : Int) := by
    unfold shrI
    have hm : min (Int.toNat ((8 * i : Nat) : Int)) (IntKind.u64).bits = 8 * i := by
      rw [Int.toNat_natCast]; exact Nat.min_eq_left (by show 8 * i ≤ 64; omega)
    rw [hm, Int.fdiv_eq_ediv_of_nonneg _ (Int.pow_nonneg (by decide))]
    have hp : (2 : Int) ^ (8 * i) = ((256 ^ i : Nat) : Int) := by
      rw [show (256 : Nat) = 2 ^ 8 by decide, ← Nat.pow_mul]; simp
    rw [hp]; rfl
  rw [h1, h2, wrap8]
  generalize n / 256 ^ i = m
  apply UInt8.toNat_inj.1
  rw [UInt8.toNat_ofNat', UInt8.toNat_ofNat']
  omega

/-- the reference's length is the program's -/
theorem long_eq (k n : Nat) (hn : n < 9223372036854775808) : porterref04_long (k + 9) (n : Int) = some (be8 n) := by
  rw [long_raw]
  simp only [lowB_eq n hn]
  have e := fun i hi => be_one n hn i hi
  simp only [be8, toStr, List.map_cons, List.map_nil, List.cons_append, List.nil_append, List.append_nil]
  have e7 := e 7 (by omega); have e6 := e 6 (by omega); have e5 := e 5 (by omega); have e4 := e 4 (by omega)
  have e3 := e 3 (by omega); have e2 := e 2 (by omega); have e1 := e 1 (by omega); have e0 := e 0 (by omega)
  simp only [Nat.reduceMul] at e7 e6 e5 e4 e3 e2 e1 e0
  rw [← e7, ← e6, ← e5, ← e4, ← e3, ← e2, ← e1, ← e0]
  rfl

theorem frameL_cons (p : List UInt8) (l : List (List UInt8)) : frameL (p :: l) = be8 p.length ++ (p ++ frameL l) := by
  simp [frameL, piecesOf_cons]

/-- the reference's frame -/
theorem refFrame_eq (k : Nat) (l : List (List UInt8)) (hl : l.length < 1000000) (hk : l.length < k + 9) (hb : (frameL l).length ≤ 70368744177664) : porterref04_Frame (k + 9) l = some (frameL l) := by
  have key := iter_eq (step := fun (v : List UInt8 × Int) r => porterref04_Frame_s1 (k + 9) l v.1 v.2 (fun out i => (r (out, i))) (fun out => some out)) (fun v => 0 ≤ v.2 ∧ v.2 ≤ (l.length : Int) ∧ v.1.length + (frameL (l.drop v.2.toNat)).length ≤ 70368744177664) (fun v => l.length - v.2.toNat) (fun v => some (v.1 ++ frameL (l.drop v.2.toNat))) (by
    rintro ⟨out, v⟩ r ⟨h0, h1, h2⟩ ih
    dsimp only at h0 h1 h2 ⊢
    unfold porterref04_Frame_s1
    by_cases hv : v < (l.length : Int)
    · have hn : v.toNat < l.length := by omega
      have hw : IntKind.wrap .i64 (v + 1) = v + 1 := wrap_in ⟨by omega, by omega⟩
      have hd : l.drop v.toNat = l[v.toNat] :: l.drop (v + 1).toNat := by
        rw [show (v + 1).toNat = v.toNat + 1 by omega, List.getElem_cons_drop]
      have hg : l.getD v.toNat ([] : List UInt8) = l[v.toNat] := by simp [List.getD, hn]
      rw [hd, frameL_cons] at h2 ⊢
      simp only [List.length_append] at h2
      have hin : inR v l.length = true := by simp [inR, h0, hv]
      have hr := ih (out ++ be8 l[v.toNat].length ++ l[v.toNat], v + 1) ⟨by dsimp only; omega, by dsimp only; omega, by dsimp only; simp only [List.length_append]; omega⟩ (by dsimp only; omega)
      rw [cond_t (by simpa using hv), cond_t hin, hg, long_eq _ _ (by omega), Option.bind_some, cond_t (decide_eq_true (by omega)), cond_t hin, cond_t (decide_eq_true (by rw [List.length_append]; omega)), hw]
      dsimp only at hr ⊢
      rw [hr]
      simp
    · have hn : v.toNat = l.length := by omega
      rw [cond_f (by simpa using hv), hn, List.drop_length]; simp [frameL, piecesOf]) (k + 9) ([], 0) ⟨by dsimp only; omega, by dsimp only; omega, by simpa using hb⟩ (by simpa using hk)
  exact key
end Go.Proofs.YtkccmmbomlpgnaaDoorLg
