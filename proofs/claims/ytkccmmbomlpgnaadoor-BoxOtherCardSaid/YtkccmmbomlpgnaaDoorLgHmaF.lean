/- Layer 4: the lengths and the frame. -/
import Derived.Test.YtkccmmbomlpgnaaDoorLgFnG
import Derived.Test.YtkccmmbomlpgnaaDoorLgPxI
import Derived.Test.YtkccmmbomlpgnaaDoorLgPxA
set_option linter.all false
set_option maxRecDepth 100000
namespace Go.Proofs.YtkccmmbomlpgnaaDoorLg
open Go Go.Lift Go.Proofs.YtkccmmbomlpgnaaDoorPx

/-- a length in eight bytes, as the program reckons it -/
def be8 (n : Nat) : List UInt8 := toStr (([56, 48, 40, 32, 24, 16, 8, 0] : List Int).map fun j => IntKind.wrap .u8 (shrI .u64 (IntKind.wrap .u64 ((n : Nat) : Int)) j))

theorem length_eq (k : Nat) (s : List UInt8) : hmac_length (k + 9) s = some (be8 s.length) := by kernel_rfl

def piecesOf (l : List (List UInt8)) : List (List UInt8 × Unit) := (l.map fun p => [(be8 p.length, ()), (p, ())]).flatten

theorem piecesOf_cons (p : List UInt8) (l : List (List UInt8)) : piecesOf (p :: l) = (be8 p.length, ()) :: (p, ()) :: piecesOf l := rfl

/-- what the iterator gives: each part's length, and the part -/
theorem framed_eq (k : Nat) (l : List (List UInt8)) (hl : l.length < 1000000) (hk : l.length < k + 9) : hmac_framed1 (k + 9) l = some (piecesOf l) := by
  have key := iter_eq (step := fun (v : Int) r => hmac_framed1_s1 (k + 9) l (((List.length l) : Nat) : Int) v (fun x7 => (r x7)) (some []) (some [])) (fun v => 0 ≤ v ∧ v ≤ (l.length : Int)) (fun v => l.length - v.toNat) (fun v => some (piecesOf (l.drop v.toNat))) (by
    rintro v r ⟨h0, h1⟩ ih
    unfold hmac_framed1_s1
    by_cases hv : v < (l.length : Int)
    · have hn : v.toNat < l.length := by omega
      have hw : IntKind.wrap .i64 (v + 1) = v + 1 := wrap_in ⟨by omega, by omega⟩
      have hr := ih (v + 1) ⟨by omega, by omega⟩ (by omega)
      have hd : l.drop v.toNat = l[v.toNat] :: l.drop (v + 1).toNat := by
        rw [show (v + 1).toNat = v.toNat + 1 by omega, List.getElem_cons_drop]
      have hg : l.getD v.toNat ([] : List UInt8) = l[v.toNat] := by simp [List.getD, hn]
      rw [cond_t (by simpa using hv), cond_t (by simp [inR, h0, hv]), length_eq, hg, Option.bind_some, hw]
      dsimp only
      rw [hr, comb_some, comb_some, hd, piecesOf_cons]
    · have hn : v.toNat = l.length := by omega
      rw [cond_f (by simpa using hv), hn, List.drop_length]; rfl) (k + 9) 0 ⟨by omega, by omega⟩ (by simpa using hk)
  exact key

def frameL (l : List (List UInt8)) : List UInt8 := ((piecesOf l).map (·.1)).flatten

theorem ofStr_append (a b : List UInt8) : ofStr (a ++ b) = ofStr a ++ ofStr b := by simp [ofStr]
theorem ofStr_length (a : List UInt8) : (ofStr a).length = a.length := by simp [ofStr]

theorem fold_out (ys : List (List UInt8 × Unit)) : ∀ a : List UInt8, ys.foldl (fun (v : Unit × (List Int × Unit)) (y : List UInt8 × Unit) => ((), (v.2.1 ++ ofStr y.1, ()))) ((), (ofStr a, ())) = ((), (ofStr (a ++ (ys.map (·.1)).flatten), ())) := by
  induction ys with
  | nil => intro a; simp
  | cons y ys ih =>
    intro a
    rw [List.foldl_cons]
    dsimp only
    rw [← ofStr_append, ih]
    simp

/-- the program's frame -/
theorem frame_eq (k : Nat) (l : List (List UInt8)) (hl : l.length < 1000000) (hk : l.length < k + 9) (hb : (frameL l).length ≤ 70368744177664) : hmac_Frame (k + 9) l = some (frameL l) := by
  unfold hmac_Frame hmac_Frame_p1 hmac_Frame_fit1
  rw [framed_eq k l hl hk, Option.bind_some]
  rw [iterL_ok (fun (v : Unit × (List Int × Unit)) (ys : List (List UInt8 × Unit)) => v.2.1.length + ((ys.map (·.1)).flatten).length ≤ 70368744177664) (fun v y => ((), (v.2.1 ++ ofStr y.1, ()))) (by
    rintro y ys ⟨u, xs, u'⟩ r hI
    cases u; cases u'
    simp only [List.map_cons, List.flatten_cons, List.length_append] at hI
    refine ⟨?_, by simp only [List.length_append, ofStr_length]; omega⟩
    unfold hmac_Frame_s1 strings_Builder_WriteString
    rw [cond_t (decide_eq_true (by rw [ofStr_length]; dsimp only; omega)), Option.bind_some]) _ _ (by simpa [frameL] using hb)]
  have hf := fold_out (piecesOf l) []
  have h0 : ofStr ([] : List UInt8) = [] := rfl
  rw [h0] at hf
  rw [hf]
  unfold str_F
  dsimp only
  rw [cond_t (by
    rw [Bool.and_eq_true]
    refine ⟨okB_ofStr _, decide_eq_true ?_⟩
    rw [ofStr_length]
    exact Nat.le_trans (show (frameL l).length ≤ _ from hb) (by decide))]
  rw [Option.bind_some]
  dsimp only
  rw [toStr_ofStr]; rfl
end Go.Proofs.YtkccmmbomlpgnaaDoorLg
