/- The plain functions that the law reaches, what their calls do, and what they give (own work, in one text). -/
import Derived.Test.YtjnlgomdckihpaaDoorLgPrb5
import Derived.KernelRfl
/- Layer 4: frames are split again: the program and the reference. -/
set_option linter.all false
set_option maxRecDepth 100000
namespace Go.Proofs.YtjnlgomdckihpaaDoorLg
open Go Go.Lift Go.Proofs.YtjnlgomdckihpaaDoorPx

/-! ## the program -/
theorem or8 {n b : Nat} (hn : n < 72057594037927936) (hb : b < 256) : bitsOp .or .u64 (shlI .u64 (n : Int) 8) (IntKind.wrap .u64 (b : Int)) = ((n * 256 + b : Nat) : Int) := by
  have hwu : ∀ x : Nat, x < 18446744073709551616 → IntKind.wrap .u64 (x : Int) = (x : Int) := by
    intro x hx
    show (x : Int) % 18446744073709551616 = _
    omega
  have h1 : shlI .u64 (n : Int) 8 = ((n * 256 : Nat) : Int) := by
    unfold shlI
    rw [show (min (8 : Int).toNat (IntKind.bits .u64)) = 8 from rfl, show (n : Int) * 2 ^ 8 = ((n * 256 : Nat) : Int) by omega, hwu _ (by omega)]
  rw [h1, hwu b (by omega)]
  unfold bitsOp
  dsimp only
  rw [BitVec.ofInt_natCast, BitVec.ofInt_natCast, BitVec.toNat_or, BitVec.toNat_ofNat, BitVec.toNat_ofNat, Nat.mod_eq_of_lt (show n * 256 < 2 ^ (IntKind.bits .u64) from by show n * 256 < 18446744073709551616; omega), Nat.mod_eq_of_lt (show b < 2 ^ (IntKind.bits .u64) from by show b < 18446744073709551616; omega)]
  rw [show n * 256 = n <<< 8 by rw [Nat.shiftLeft_eq], ← Nat.shiftLeft_add_eq_or_of_lt (show b < 2 ^ 8 by omega), Nat.shiftLeft_eq, hwu _ (by omega)]

theorem cutLoop {N : Nat} {s : List UInt8} (hs : 8 ≤ s.length) (hN : 8 < N) (k0 : Int → Option (List UInt8 × List UInt8 × Bool × Unit)) : hmac_cut_p1 N s 0 0 k0 = k0 ((valB (s.take 8) 0 : Nat) : Int) := by
  unfold hmac_cut_p1
  rw [iter_eq (I := fun (v : Int × Int) => ∃ i : Nat, i ≤ 8 ∧ v = (((valB (s.take i) 0 : Nat) : Int), (i : Int))) (m := fun v => 8 - v.2.toNat) (R := fun _ => k0 ((valB (s.take 8) 0 : Nat) : Int)) ?_ N (0, 0) ⟨0, by omega, rfl⟩ (by dsimp only; omega)]
  rintro v r ⟨i, hi, rfl⟩ hr
  dsimp only at hr ⊢
  unfold hmac_cut_s1
  by_cases h : i < 8
  · have hp : 256 ^ i ≤ 256 ^ 7 := Nat.pow_le_pow_right (by omega) (by omega)
    have hv := valB_lt i s (by omega)
    rw [cond_t (dec_t (by omega)), cond_t (inR_nat (by omega)), Int.toNat_natCast, or8 (by omega) (u8_lt _), wrap_succ (by omega), ← valB_take (by omega)]
    exact hr _ ⟨i + 1, by omega, rfl⟩ (by dsimp only; omega)
  · rw [cond_f (dec_f (by omega)), show i = 8 by omega]

def cutV : Option (List UInt8 × List UInt8) → List UInt8 × List UInt8 × Bool × Unit
  | none => ([], [], false, ())
  | some (a, b) => (a, b, true, ())

theorem cut_eq {N : Nat} {s : List UInt8} (hs : s.length ≤ 9223372036854775800) (hN : 8 < N) : hmac_cut N s = some (cutV (cutR s)) := by
  unfold hmac_cut cutR
  by_cases h : s.length < 8
  · rw [cond_t (dec_t (by omega)), if_pos h]; rfl
  rw [cond_f (dec_f (by omega)), if_neg h, cutLoop (by omega) hN, cond_t (dec_t (by omega)), cut_all, List.length_drop]
  have hv : valB (s.take 8) 0 < 18446744073709551616 := valB_lt 8 s (by omega)
  have hw : IntKind.wrap .u64 (((s.length - 8 : Nat)) : Int) = ((s.length - 8 : Nat) : Int) := by
    show ((s.length - 8 : Nat) : Int) % 18446744073709551616 = _
    omega
  rw [hw]
  by_cases h2 : s.length - 8 < valB (s.take 8) 0
  · rw [cond_t (dec_t (by omega)), if_pos h2]; rfl
  rw [cond_f (dec_f (by omega)), if_neg h2, cond_t (dec_t (by omega)), cond_t (dec_t (by omega)), Int.toNat_natCast, cut_take, show s.length - 8 = (s.drop 8).length by rw [List.length_drop], cut_all]
  rfl

theorem items_eq {N : Nat} {s : List UInt8} (hs : s.length ≤ 9223372036854775800) (hN : s.length + 9 < N) : hmac_split1 N s = some (itemsR s.length s) := by
  unfold hmac_split1 hmac_split1_p1
  refine iter_eq (I := fun (v : List UInt8) => v.length ≤ s.length) (m := fun v => v.length) (R := fun v => some (itemsR v.length v)) ?_ N s (Nat.le_refl _) (by omega)
  intro v r hv hr
  unfold hmac_split1_s1
  by_cases e : v = []
  · subst e; rfl
  have e' : (!(v == ([] : List UInt8))) = true := by simpa using e
  rw [cond_t e', cut_eq (by omega) (by omega), Option.bind_some]
  have hp : 0 < v.length := List.length_pos_iff.2 e
  obtain ⟨n, hn⟩ : ∃ n, v.length = n + 1 := ⟨v.length - 1, by omega⟩
  cases hc : cutR v with
  | none => rw [hn, itemsR, if_neg e, hc]; rfl
  | some p =>
    obtain ⟨a, b⟩ := p
    have hb := cutR_less hc
    have h2 := hr b (by omega) hb
    rw [hn, itemsR, if_neg e, hc]
    show comb (a, true, ()) (r b) (some []) = some ((a, true, ()) :: itemsR n b)
    rw [h2, comb_some, itemsR_fuel n b.length b (by omega) (by omega)]

def splitV : Option (List (List UInt8)) → List (List UInt8) × Bool × Unit
  | none => ([], false, ())
  | some l => (l, true, ())

theorem collect : ∀ (n : Nat) (s : List UInt8) (acc : List (List UInt8)) (f : List (List UInt8) → Option (List (List UInt8) × Bool × Unit)) (N : Nat), s.length ≤ n → acc.length + s.length ≤ 100000 →
    iterL (fun (y : (List UInt8 × Bool × Unit)) (v : List (List UInt8)) r => hmac_Split_s1 N [] false v y (fun parts_1 => r parts_1) (fun x2 x3 parts => some (x2, (x3, ()))) f) f (itemsR n s) acc =
      match splitR n s with
      | none => some ([], false, ())
      | some l => f (acc ++ l)
  | 0, s, acc, f, N, h, _ => by
    have : s = [] := List.length_eq_zero_iff.1 (by omega)
    subst this
    simp [itemsR, splitR, iterL]
  | n + 1, s, acc, f, N, h, hb => by
    unfold itemsR splitR
    by_cases e : s = []
    · rw [if_pos e, if_pos e]; simp [iterL]
    rw [if_neg e, if_neg e]
    cases hc : cutR s with
    | none => rfl
    | some p =>
      obtain ⟨a, b⟩ := p
      have hl := cutR_less hc
      dsimp only
      rw [iterL]
      unfold hmac_Split_s1
      dsimp only
      rw [Bool.not_true, cond_false, cond_t (dec_t (by omega))]
      have := collect n b (acc ++ [a]) f N (by omega) (by rw [List.length_append, List.length_singleton]; omega)
      unfold hmac_Split_s1 at this
      rw [this]
      cases splitR n b with
      | none => rfl
      | some l => simp

/-- the program's Split -/
theorem split_eq {N : Nat} {s : List UInt8} (hs : s.length ≤ 100000) (hN : s.length + 9 < N) : hmac_Split N s = some (splitV (splitL s)) := by
  unfold hmac_Split hmac_Split_p1 hmac_Split_fit1
  rw [items_eq (by omega) hN, Option.bind_some, collect s.length s [] _ N (Nat.le_refl _) (by simpa using hs)]
  cases h : splitL s with
  | none => rw [show splitR s.length s = none from h]; rfl
  | some l => rw [show splitR s.length s = some l from h]; rfl

/-! ## the reference -/
abbrev RS : Type := List (List UInt8) × Bool × Unit

theorem refNum {N : Nat} {s : List UInt8} {a : Nat} {out : List (List UInt8)} {k0 : List (List UInt8) → Bool → Option RS} {k1 : Int → Option RS} (hs : s.length ≤ 100000) (ha : a + 8 ≤ s.length) (hN : 8 < N) :
    porterref04_Split_p2 N s out (a : Int) 0 (a : Int) k0 k1 = if 4294967296 < valB ((s.drop a).take 7) 0 then k0 [] false else k1 ((valB ((s.drop a).take 8) 0 : Nat) : Int) := by
  have hd : 8 ≤ (s.drop a).length := by rw [List.length_drop]; omega
  unfold porterref04_Split_p2
  rw [iter_eq (I := fun (v : Int × Int) => ∃ i : Nat, i ≤ 8 ∧ v = (((valB ((s.drop a).take i) 0 : Nat) : Int), ((a + i : Nat) : Int)) ∧ (1 ≤ i → valB ((s.drop a).take (i - 1)) 0 ≤ 4294967296)) (m := fun v => a + 8 - v.2.toNat) (R := fun _ => if 4294967296 < valB ((s.drop a).take 7) 0 then k0 [] false else k1 ((valB ((s.drop a).take 8) 0 : Nat) : Int)) ?_ N (0, (a : Int)) ⟨0, by omega, rfl, by omega⟩ (by dsimp only; omega)]
  rintro v r ⟨i, hi, rfl, hsm⟩ hr
  dsimp only at hr ⊢
  unfold porterref04_Split_s2
  rw [wrap_in (x := (a : Int) + 8) (by unfold I64; omega)]
  by_cases h : i < 8
  · rw [cond_t (dec_t (by omega))]
    by_cases hbig : 4294967296 < valB ((s.drop a).take i) 0
    · have := valB_mono7 hd (7 - i) i (by omega)
      rw [cond_t (dec_t (by omega)), if_pos (by omega)]
    · have hg : (s.drop a).getD i 0 = s.getD (a + i) 0 := by
        rw [List.getD_eq_getElem?_getD, List.getD_eq_getElem?_getD, List.getElem?_drop]
      have hb := u8_lt (s.getD (a + i) 0)
      have hw : IntKind.wrap .i64 (IntKind.wrap .i64 ((256 : Int) * ((valB ((s.drop a).take i) 0 : Nat) : Int)) + ((s.getD (a + i) 0).toNat : Int)) = ((valB ((s.drop a).take (i + 1)) 0 : Nat) : Int) := by
        rw [valB_take (by omega), hg, wrap_in (x := (256 : Int) * _) (by unfold I64; omega), wrap_in (by unfold I64; omega)]; omega
      rw [cond_f (dec_f (by omega)), cond_t (inR_nat (by omega)), Int.toNat_natCast, wrap64_byte, hw, wrap_succ (by omega)]
      exact hr _ ⟨i + 1, by omega, rfl, fun _ => by simpa using hbig⟩ (by dsimp only; omega)
  · have : i = 8 := by omega
    subst this
    have := hsm (by omega)
    rw [cond_f (dec_f (by omega)), if_neg (by simpa using this)]

theorem refSplit_eq {N : Nat} {s : List UInt8} (hs : s.length ≤ 100000) (hN : s.length + 9 < N) : porterref04_Split N s = some (splitV (splitL s)) := by
  unfold porterref04_Split porterref04_Split_p1
  rw [iter_eq (I := fun (v : List (List UInt8) × Int) => ∃ a : Nat, a ≤ s.length ∧ v.2 = (a : Int) ∧ v.1.length ≤ a) (m := fun v => s.length - v.2.toNat) (R := fun v => match splitL (s.drop v.2.toNat) with
      | none => some (([] : List (List UInt8)), (false, ()))
      | some l => some (v.1 ++ l, (true, ()))) ?_ N ([], 0) ⟨0, by omega, rfl, by simp⟩ (by dsimp only; omega)]
  · dsimp only
    rw [show (0 : Int).toNat = 0 from rfl, List.drop_zero]
    cases splitL s <;> rfl
  rintro ⟨out, z⟩ r ⟨a, ha, e, hl⟩ hr
  dsimp only at e hl hr ⊢
  subst e
  rw [Int.toNat_natCast]
  unfold porterref04_Split_s1
  by_cases h : a < s.length
  · have hne : s.drop a ≠ [] := by
      intro e; have := congrArg List.length e; rw [List.length_drop] at this; simp at this; omega
    have hlen : (s.drop a).length = s.length - a := List.length_drop
    rw [cond_t (dec_t (by omega)), wrap_in (x := (s.length : Int) - a) (by unfold I64; omega), splitL_cons hne]
    by_cases h8 : s.length - a < 8
    · have hc : cutR (s.drop a) = none := by unfold cutR; rw [if_pos (by omega)]
      rw [cond_t (dec_t (by omega)), hc]
    have hv8 : valB ((s.drop a).take 8) 0 = valB ((s.drop a).take 7) 0 * 256 + ((s.drop a).getD 7 0).toNat := valB_take (by omega)
    rw [cond_f (dec_f (by omega)), refNum hs (by omega) (by omega), wrap_in (x := (a : Int) + 8) (by unfold I64; omega), wrap_in (x := (s.length : Int) - (↑a + 8)) (by unfold I64; omega)]
    by_cases hbig : 4294967296 < valB ((s.drop a).take 7) 0
    · have hc : cutR (s.drop a) = none := by unfold cutR; rw [if_neg (by omega), if_pos (by omega)]
      rw [if_pos hbig, hc]
    rw [if_neg hbig]
    have hub := u8_lt ((s.drop a).getD 7 0)
    generalize hV : valB ((s.drop a).take 8) 0 = V at hv8
    by_cases hlong : s.length - (a + 8) < V
    · have hc : cutR (s.drop a) = none := by unfold cutR; rw [if_neg (by omega), if_pos (by omega)]
      rw [cond_t (dec_t (by omega)), hc]
    · have hc : cutR (s.drop a) = some (((s.drop a).drop 8).take V, ((s.drop a).drop 8).drop V) := by unfold cutR; rw [hV, if_neg (by omega), if_neg (by omega)]
      have hw : IntKind.wrap .i64 ((a : Int) + 8 + (V : Int)) = ((a + 8 + V : Nat) : Int) := by rw [wrap_in (by unfold I64; omega)]; omega
      have e8 : ((a : Int) + 8).toNat = a + 8 := by omega
      rw [cond_f (dec_f (by omega)), hw, cond_t (dec_t (by omega)), cond_t (dec_t (by omega)), cond_t (dec_t (by omega)), hc, e8, Int.toNat_natCast, cut_mid]
      have h2 := hr (out ++ [(s.drop (a + 8)).take V], ((a + 8 + V : Nat) : Int)) ⟨a + 8 + V, by omega, rfl, by simp; omega⟩ (by dsimp only; omega)
      refine h2.trans ?_
      dsimp only
      rw [Int.toNat_natCast, List.drop_drop, List.drop_drop]
      cases splitL (s.drop (a + 8 + V)) with
      | none => rfl
      | some l => simp
  · have : a = s.length := by omega
    subst this
    rw [cond_f (dec_f (by omega)), List.drop_length, splitL_nil]
    simp

end Go.Proofs.YtjnlgomdckihpaaDoorLg

/- Layer 36: the example's box, and that another notary's tag is another. -/
set_option linter.all false
set_option maxRecDepth 100000
namespace Go.Proofs.YtjnlgomdckihpaaDoorLg
open Go Go.Lift
theorem hide36 (k : Nat) : box_hideKey (k + 2300) [(110 : UInt8)] = some [(20 : UInt8), (56 : UInt8), (203 : UInt8), (5 : UInt8), (203 : UInt8), (184 : UInt8), (145 : UInt8), (42 : UInt8), (0 : UInt8), (215 : UInt8), (76 : UInt8), (156 : UInt8), (173 : UInt8), (41 : UInt8), (217 : UInt8), (136 : UInt8), (99 : UInt8), (241 : UInt8), (56 : UInt8), (177 : UInt8), (107 : UInt8), (155 : UInt8), (46 : UInt8), (12 : UInt8), (124 : UInt8), (2 : UInt8), (133 : UInt8), (116 : UInt8), (32 : UInt8), (109 : UInt8), (81 : UInt8), (194 : UInt8)] := by kernel_rfl
theorem mix36 (k : Nat) : stream_Mix (k + 2300) [(20 : UInt8), (56 : UInt8), (203 : UInt8), (5 : UInt8), (203 : UInt8), (184 : UInt8), (145 : UInt8), (42 : UInt8), (0 : UInt8), (215 : UInt8), (76 : UInt8), (156 : UInt8), (173 : UInt8), (41 : UInt8), (217 : UInt8), (136 : UInt8), (99 : UInt8), (241 : UInt8), (56 : UInt8), (177 : UInt8), (107 : UInt8), (155 : UInt8), (46 : UInt8), (12 : UInt8), (124 : UInt8), (2 : UInt8), (133 : UInt8), (116 : UInt8), (32 : UInt8), (109 : UInt8), (81 : UInt8), (194 : UInt8)] [(48 : UInt8), (49 : UInt8), (50 : UInt8), (51 : UInt8), (52 : UInt8), (53 : UInt8), (54 : UInt8), (55 : UInt8), (56 : UInt8), (57 : UInt8), (97 : UInt8), (98 : UInt8), (99 : UInt8), (100 : UInt8), (101 : UInt8), (102 : UInt8)] [(0 : UInt8), (0 : UInt8), (0 : UInt8), (0 : UInt8), (0 : UInt8), (0 : UInt8), (0 : UInt8), (1 : UInt8), (107 : UInt8), (0 : UInt8), (0 : UInt8), (0 : UInt8), (0 : UInt8), (0 : UInt8), (0 : UInt8), (0 : UInt8), (12 : UInt8), (105 : UInt8), (115 : UInt8), (32 : UInt8), (105 : UInt8), (116 : UInt8), (32 : UInt8), (109 : UInt8), (111 : UInt8), (110 : UInt8), (100 : UInt8), (97 : UInt8), (121 : UInt8)] = some [(226 : UInt8), (107 : UInt8), (34 : UInt8), (54 : UInt8), (12 : UInt8), (235 : UInt8), (171 : UInt8), (35 : UInt8), (175 : UInt8), (63 : UInt8), (7 : UInt8), (137 : UInt8), (4 : UInt8), (203 : UInt8), (212 : UInt8), (122 : UInt8), (97 : UInt8), (73 : UInt8), (116 : UInt8), (64 : UInt8), (12 : UInt8), (206 : UInt8), (61 : UInt8), (113 : UInt8), (98 : UInt8), (144 : UInt8), (58 : UInt8), (173 : UInt8), (252 : UInt8)] := by kernel_rfl
theorem tag36 (k : Nat) : box_tag (k + 2300) [(110 : UInt8)] [(48 : UInt8), (49 : UInt8), (50 : UInt8), (51 : UInt8), (52 : UInt8), (53 : UInt8), (54 : UInt8), (55 : UInt8), (56 : UInt8), (57 : UInt8), (97 : UInt8), (98 : UInt8), (99 : UInt8), (100 : UInt8), (101 : UInt8), (102 : UInt8), (226 : UInt8), (107 : UInt8), (34 : UInt8), (54 : UInt8), (12 : UInt8), (235 : UInt8), (171 : UInt8), (35 : UInt8), (175 : UInt8), (63 : UInt8), (7 : UInt8), (137 : UInt8), (4 : UInt8), (203 : UInt8), (212 : UInt8), (122 : UInt8), (97 : UInt8), (73 : UInt8), (116 : UInt8), (64 : UInt8), (12 : UInt8), (206 : UInt8), (61 : UInt8), (113 : UInt8), (98 : UInt8), (144 : UInt8), (58 : UInt8), (173 : UInt8), (252 : UInt8)] = some [(92 : UInt8), (3 : UInt8), (148 : UInt8), (22 : UInt8), (153 : UInt8), (250 : UInt8), (34 : UInt8), (147 : UInt8), (147 : UInt8), (152 : UInt8), (126 : UInt8), (139 : UInt8), (177 : UInt8), (171 : UInt8), (243 : UInt8), (124 : UInt8), (68 : UInt8), (105 : UInt8), (64 : UInt8), (80 : UInt8), (152 : UInt8), (216 : UInt8), (118 : UInt8), (195 : UInt8), (217 : UInt8), (177 : UInt8), (246 : UInt8), (163 : UInt8), (84 : UInt8), (244 : UInt8), (87 : UInt8), (230 : UInt8)] := by kernel_rfl
theorem tag36m (k : Nat) : box_tag (k + 2300) [(109 : UInt8)] [(48 : UInt8), (49 : UInt8), (50 : UInt8), (51 : UInt8), (52 : UInt8), (53 : UInt8), (54 : UInt8), (55 : UInt8), (56 : UInt8), (57 : UInt8), (97 : UInt8), (98 : UInt8), (99 : UInt8), (100 : UInt8), (101 : UInt8), (102 : UInt8), (226 : UInt8), (107 : UInt8), (34 : UInt8), (54 : UInt8), (12 : UInt8), (235 : UInt8), (171 : UInt8), (35 : UInt8), (175 : UInt8), (63 : UInt8), (7 : UInt8), (137 : UInt8), (4 : UInt8), (203 : UInt8), (212 : UInt8), (122 : UInt8), (97 : UInt8), (73 : UInt8), (116 : UInt8), (64 : UInt8), (12 : UInt8), (206 : UInt8), (61 : UInt8), (113 : UInt8), (98 : UInt8), (144 : UInt8), (58 : UInt8), (173 : UInt8), (252 : UInt8)] = some [(149 : UInt8), (91 : UInt8), (122 : UInt8), (138 : UInt8), (4 : UInt8), (100 : UInt8), (143 : UInt8), (23 : UInt8), (124 : UInt8), (60 : UInt8), (245 : UInt8), (160 : UInt8), (236 : UInt8), (101 : UInt8), (136 : UInt8), (71 : UInt8), (69 : UInt8), (111 : UInt8), (253 : UInt8), (99 : UInt8), (239 : UInt8), (88 : UInt8), (145 : UInt8), (173 : UInt8), (219 : UInt8), (182 : UInt8), (237 : UInt8), (4 : UInt8), (201 : UInt8), (166 : UInt8), (218 : UInt8), (72 : UInt8)] := by kernel_rfl
def frame36 : List UInt8 := [(0 : UInt8), (0 : UInt8), (0 : UInt8), (0 : UInt8), (0 : UInt8), (0 : UInt8), (0 : UInt8), (1 : UInt8), (107 : UInt8), (0 : UInt8), (0 : UInt8), (0 : UInt8), (0 : UInt8), (0 : UInt8), (0 : UInt8), (0 : UInt8), (12 : UInt8), (105 : UInt8), (115 : UInt8), (32 : UInt8), (105 : UInt8), (116 : UInt8), (32 : UInt8), (109 : UInt8), (111 : UInt8), (110 : UInt8), (100 : UInt8), (97 : UInt8), (121 : UInt8)]
def hide36L : List UInt8 := [(20 : UInt8), (56 : UInt8), (203 : UInt8), (5 : UInt8), (203 : UInt8), (184 : UInt8), (145 : UInt8), (42 : UInt8), (0 : UInt8), (215 : UInt8), (76 : UInt8), (156 : UInt8), (173 : UInt8), (41 : UInt8), (217 : UInt8), (136 : UInt8), (99 : UInt8), (241 : UInt8), (56 : UInt8), (177 : UInt8), (107 : UInt8), (155 : UInt8), (46 : UInt8), (12 : UInt8), (124 : UInt8), (2 : UInt8), (133 : UInt8), (116 : UInt8), (32 : UInt8), (109 : UInt8), (81 : UInt8), (194 : UInt8)]
def mix36L : List UInt8 := [(226 : UInt8), (107 : UInt8), (34 : UInt8), (54 : UInt8), (12 : UInt8), (235 : UInt8), (171 : UInt8), (35 : UInt8), (175 : UInt8), (63 : UInt8), (7 : UInt8), (137 : UInt8), (4 : UInt8), (203 : UInt8), (212 : UInt8), (122 : UInt8), (97 : UInt8), (73 : UInt8), (116 : UInt8), (64 : UInt8), (12 : UInt8), (206 : UInt8), (61 : UInt8), (113 : UInt8), (98 : UInt8), (144 : UInt8), (58 : UInt8), (173 : UInt8), (252 : UInt8)]
def body36 : List UInt8 := [(48 : UInt8), (49 : UInt8), (50 : UInt8), (51 : UInt8), (52 : UInt8), (53 : UInt8), (54 : UInt8), (55 : UInt8), (56 : UInt8), (57 : UInt8), (97 : UInt8), (98 : UInt8), (99 : UInt8), (100 : UInt8), (101 : UInt8), (102 : UInt8), (226 : UInt8), (107 : UInt8), (34 : UInt8), (54 : UInt8), (12 : UInt8), (235 : UInt8), (171 : UInt8), (35 : UInt8), (175 : UInt8), (63 : UInt8), (7 : UInt8), (137 : UInt8), (4 : UInt8), (203 : UInt8), (212 : UInt8), (122 : UInt8), (97 : UInt8), (73 : UInt8), (116 : UInt8), (64 : UInt8), (12 : UInt8), (206 : UInt8), (61 : UInt8), (113 : UInt8), (98 : UInt8), (144 : UInt8), (58 : UInt8), (173 : UInt8), (252 : UInt8)]
def tag36L : List UInt8 := [(92 : UInt8), (3 : UInt8), (148 : UInt8), (22 : UInt8), (153 : UInt8), (250 : UInt8), (34 : UInt8), (147 : UInt8), (147 : UInt8), (152 : UInt8), (126 : UInt8), (139 : UInt8), (177 : UInt8), (171 : UInt8), (243 : UInt8), (124 : UInt8), (68 : UInt8), (105 : UInt8), (64 : UInt8), (80 : UInt8), (152 : UInt8), (216 : UInt8), (118 : UInt8), (195 : UInt8), (217 : UInt8), (177 : UInt8), (246 : UInt8), (163 : UInt8), (84 : UInt8), (244 : UInt8), (87 : UInt8), (230 : UInt8)]
def tag36mL : List UInt8 := [(149 : UInt8), (91 : UInt8), (122 : UInt8), (138 : UInt8), (4 : UInt8), (100 : UInt8), (143 : UInt8), (23 : UInt8), (124 : UInt8), (60 : UInt8), (245 : UInt8), (160 : UInt8), (236 : UInt8), (101 : UInt8), (136 : UInt8), (71 : UInt8), (69 : UInt8), (111 : UInt8), (253 : UInt8), (99 : UInt8), (239 : UInt8), (88 : UInt8), (145 : UInt8), (173 : UInt8), (219 : UInt8), (182 : UInt8), (237 : UInt8), (4 : UInt8), (201 : UInt8), (166 : UInt8), (218 : UInt8), (72 : UInt8)]
def nonce36 : List UInt8 := [(48 : UInt8), (49 : UInt8), (50 : UInt8), (51 : UInt8), (52 : UInt8), (53 : UInt8), (54 : UInt8), (55 : UInt8), (56 : UInt8), (57 : UInt8), (97 : UInt8), (98 : UInt8), (99 : UInt8), (100 : UInt8), (101 : UInt8), (102 : UInt8)]


end Go.Proofs.YtjnlgomdckihpaaDoorLg

/- Layer 36: tickets, what is read of them, discharges. -/
set_option linter.all false
set_option maxRecDepth 100000
namespace Go.Proofs.YtjnlgomdckihpaaDoorLg
open Go Go.Lift Go.Proofs.YtjnlgomdckihpaaDoorPx

def formR : Option (List (List UInt8)) → List UInt8 × List UInt8 × Int × Unit
  | some [a, b] => (a, b, 0, ())
  | _ => ([], [], 2, ())

theorem formR_few {m : List (List UInt8)} (h : m.length ≠ 2) : formR (some m) = ([], [], 2, ()) := by
  match m with
  | [] => rfl
  | [_] => rfl
  | [_, _] => exact absurd rfl h
  | _ :: _ :: _ :: _ => rfl

theorem readLoop (N : Nat) (hN : 10 < N) (m : List (List UInt8)) (h2 : 2 ≤ m.length) :
    notary_Read_p4 N [] [] 0 m ((m.length : Nat) : Int) 0 (fun a b e => some (a, (b, (e, ())))) = some (formR (some m)) := by
  obtain ⟨a, b, l, rfl⟩ : ∃ a b l, m = a :: b :: l := by
    match m, h2 with
    | a :: b :: l, _ => exact ⟨a, b, l, rfl⟩
  rw [notary_Read_p4]
  refine iter_eq (fun v => v = (([] : List UInt8), ([] : List UInt8), (0 : Int)) ∨ v = (a, [], 1) ∨ v = (a, b, 2)) (fun v => 3 - v.2.2.toNat) (fun _ => some (formR (some (a :: b :: l)))) ?_ N ([], [], 0) (.inl rfl) (by simp only; omega)
  rintro v r (rfl | rfl | rfl) hr
  · rw [notary_Read_s4]
    dsimp only
    rw [cond_t (decide_eq_true (by simp only [List.length_cons]; omega)), cond_t (by unfold inR; exact decide_eq_true ⟨by omega, by simp only [List.length_cons]; omega⟩), cond_t (by rfl)]
    exact hr _ (.inr (.inl rfl)) (by simp only; decide)
  · rw [notary_Read_s4]
    dsimp only
    rw [cond_t (decide_eq_true (by simp only [List.length_cons]; omega)), cond_t (by unfold inR; exact decide_eq_true ⟨by omega, by simp only [List.length_cons]; omega⟩), cond_f (by rfl), cond_t (by rfl)]
    exact hr _ (.inr (.inr rfl)) (by simp only; decide)
  · rw [notary_Read_s4]
    dsimp only
    cases l with
    | nil => rw [cond_f (decide_eq_false (by simp))]; rfl
    | cons c l =>
      rw [cond_t (decide_eq_true (by simp only [List.length_cons]; omega)), cond_t (by unfold inR; exact decide_eq_true ⟨by omega, by simp only [List.length_cons]; omega⟩), cond_f (by rfl), cond_f (by rfl)]
      rfl

theorem read_ok (N : Nat) {n t c : List UInt8} (ho : box_Open N n t = some (c, 0, ())) (hc : c.length ≤ 10000) (hN : c.length + 20 < N) : notary_Read N n t = some (formR (splitL c)) := by
  rw [notary_Read, ho, Option.bind_some]
  dsimp only
  rw [bne_self_eq_false, cond_false, split_eq (by omega) (by omega), Option.bind_some, notary_Read_p1, notary_Read_p2]
  cases hs : splitL c with
  | none => rfl
  | some m =>
    rw [show (splitV (some m)).2.1 = true from rfl, show (splitV (some m)).1 = m from rfl, Bool.not_true, cond_false]
    by_cases h2 : m.length < 2
    · rw [decide_eq_true (show ((m.length : Nat) : Int) < 2 by omega), cond_true, formR_few (by omega)]
    · rw [decide_eq_false (show ¬ ((m.length : Nat) : Int) < 2 by omega), cond_false, notary_Read_p3]
      exact readLoop N (by omega) m (by omega)

theorem read_err (N : Nat) {n t c : List UInt8} {e : Int} (ho : box_Open N n t = some (c, e, ())) (he : e ≠ 0) : notary_Read N n t = some ([], [], e, ()) := by
  rw [notary_Read, ho, Option.bind_some]
  dsimp only
  rw [bne_iff_ne.2 he, cond_true]

theorem refRead_ok (N : Nat) {n t c : List UInt8} (ho : porterref06_Open N n t = some (c, 0, ())) (hc : c.length ≤ 10000) (hN : c.length + 20 < N) : porterref36_Read N n t = some (formR (splitL c)) := by
  rw [porterref36_Read, ho, Option.bind_some]
  dsimp only
  rw [bne_self_eq_false, cond_false, refSplit_eq (by omega) (by omega), Option.bind_some, porterref36_Read_p1, porterref36_Read_p2]
  cases hs : splitL c with
  | none => rfl
  | some m =>
    rw [show (splitV (some m)).2.1 = true from rfl, show (splitV (some m)).1 = m from rfl, Bool.not_true, cond_false]
    by_cases h2 : m.length = 2
    · rw [show ((((List.length m) : Nat) : Int) != (2 : Int)) = false by rw [h2]; rfl, cond_false, cond_t (by unfold inR; exact decide_eq_true ⟨by omega, by omega⟩), cond_t (by unfold inR; exact decide_eq_true ⟨by omega, by omega⟩)]
      match m, h2 with
      | [a, b], _ => rfl
    · rw [show ((((List.length m) : Nat) : Int) != (2 : Int)) = true by rw [bne_iff_ne]; omega, cond_true, formR_few h2]

/-! a ticket -/
def frame2 (key text : List UInt8) : List UInt8 := frameL [key, text]

theorem frame2_length (key text : List UInt8) : (frame2 key text).length = 16 + key.length + text.length := by
  unfold frame2; rw [frameL_length]; simp; omega

theorem split2 {key text : List UInt8} (hk : key.length ≤ 100000) (ht : text.length ≤ 100000) : splitL (frame2 key text) = some [key, text] :=
  split_frame [key, text] (fun p hp => by simp only [List.mem_cons, List.not_mem_nil, or_false] at hp; rcases hp with rfl | rfl <;> omega)

theorem ticket_pre (k : Nat) {n nonce key text : List UInt8} (hk : key.length ≤ 100000) (ht : text.length ≤ 100000) : notary_Ticket (k + 100) n nonce key text = (box_Seal (k + 100) n nonce (frame2 key text)).bind fun y1 => some (y1.1, (y1.2.1, ())) := by
  rw [notary_Ticket, show hmac_Frame (k + 100) [key, text] = some (frame2 key text) from frameN k (by simp) (by have := frame2_length key text; unfold frame2 at this; omega), Option.bind_some]

theorem ticket_eq (k : Nat) {n nonce key text : List UInt8} (hk : 2200 ≤ k) (hn : n.length ≤ 30000) (h16 : nonce.length = 16) (hl : key.length + text.length ≤ 1800) : notary_Ticket (k + 100) n nonce key text = some (sealL (k + 100) n nonce (frame2 key text), 0, ()) := by
  rw [ticket_pre k (by omega) (by omega), seal_eq k hk hn h16 (by rw [frame2_length]; omega)]; rfl

/-- a ticket is read by its notary -/
theorem read_ticket (k : Nat) {n nonce key text : List UInt8} (hk : 2200 ≤ k) (hn : n.length ≤ 30000) (h16 : nonce.length = 16) (hl : key.length + text.length ≤ 1800) :
    notary_Read (k + 100) n (sealL (k + 100) n nonce (frame2 key text)) = some (key, text, 0, ()) := by
  have hf := fits_seal k (key := n) (nonce := nonce) (text := frame2 key text) hk hn h16 (by rw [frame2_length]; omega)
  have hsl := sealL_length k (key := n) (nonce := nonce) (text := frame2 key text) (by omega) hn h16 (by rw [frame2_length]; omega)
  have hfl := frame2_length key text
  have ho : box_Open (k + 100) n (sealL (k + 100) n nonce (frame2 key text)) = some (frame2 key text, 0, ()) := by
    rw [open_eq k hk hn (by omega) (by omega), hf.1, hf.2, cond_true]
  rw [read_ok (k + 100) ho (by omega) (by omega), split2 (by omega) (by omega)]
  rfl

/-! a discharge -/
def mkL (c : List UInt8) : Lk := (c, [], ())

noncomputable def addAll (N : Nat) : Tk → List (List UInt8) → Tk × Int × Unit
  | t, [] => (t, 0, ())
  | t, c :: l => cond ((addR N t c).2.1 != 0) (zeroT, (addR N t c).2.1, ()) (addAll N (addR N t c).1 l)

theorem addR_ok {N : Nat} {t : Tk} {c : List UInt8} (h : (addR N t c).2.1 = 0) : (addR N t c).1 = withT N t (mkL c) ∧ t.2.1.length < 64 ∧ c.length ≤ 2048 := by
  unfold addR at h ⊢
  split
  · rename_i hc; rw [if_pos hc] at h; cases h
  · rename_i hc; exact ⟨rfl, by omega, by omega⟩

theorem dloop (k : Nat) (hk : 2200 ≤ k) {l : List (List UInt8)} (hl : l.length ≤ 1000) {t : Tk} (hn : t.2.1.length ≤ 64) (ht : t.2.2.1.length = 32) :
    notary_Discharge_p1 (k + 100) (([] : List UInt8), (([] : List ((List UInt8) × ((List UInt8) × Unit))), (([] : List UInt8), ()))) t l ((l.length : Nat) : Int) 0 (fun x6 x7 => some (x6, (x7, ()))) (fun t => some (t, ((0 : Int), ()))) = some (addAll (k + 100) t l) := by
  rw [notary_Discharge_p1]
  refine (iter_eq (fun v => ∃ (i : Nat) (u : Tk), v = (u, (i : Int)) ∧ i ≤ l.length ∧ u.2.1.length ≤ 64 ∧ u.2.2.1.length = 32) (fun v => l.length - v.2.toNat) (fun v => some (addAll (k + 100) v.1 (l.drop v.2.toNat))) ?_ (k + 100) (t, 0) ⟨0, t, rfl, by omega, hn, ht⟩ (by simp only; omega)).trans (by rfl)
  rintro v r ⟨i, u, rfl, hi, hu, hut⟩ hr
  simp only [Int.toNat_natCast]
  rw [notary_Discharge_s1]
  by_cases hlt : i < l.length
  · rw [cond_t (decide_eq_true (by omega)), cond_t (inR_nat hlt), Int.toNat_natCast, hadd1_eq k (by omega) (by omega) (by omega), Option.bind_some, drop_cons l [] i hlt, addAll]
    cases hb : ((addR (k + 100) u (l.getD i [])).2.1 != 0) with
    | true => rfl
    | false =>
      obtain ⟨e, h1, h2⟩ := addR_ok (bne_eq_false_iff_eq.1 hb)
      have hsm : small (mkL (l.getD i [])) := ⟨by simp only [mkL]; omega, by simp [mkL]⟩
      have g2 : (nextT (k + 100) u.2.2.1 (mkL (l.getD i []))).length = 32 := nextT_length k (by omega) (by omega) hsm
      have g1 : (withT (k + 100) u (mkL (l.getD i []))).2.1.length ≤ 64 := by simp only [withT, List.length_append, List.length_singleton]; omega
      have g3 : (withT (k + 100) u (mkL (l.getD i []))).2.2.1.length = 32 := by simp only [withT]; exact g2
      rw [← e] at g1 g3
      generalize addR (k + 100) u (l.getD i []) = y at g1 g3 ⊢
      rw [cond_false, cond_false, wrap_succ (by omega), hr _ ⟨i + 1, y.1, rfl, by omega, g1, g3⟩ (by simp only; omega)]
      simp only [Int.toNat_natCast]
  · rw [cond_f (decide_eq_false (by omega)), drop_nil' l (by omega), addAll]

theorem discharge_ok (k : Nat) (hk : 2200 ≤ k) {n t key text : List UInt8} {l : List (List UInt8)} (h : notary_Read (k + 100) n t = some (key, text, 0, ())) (hl : l.length ≤ 1000) (hkey : key.length ≤ 30000) (ht : t.length ≤ 8000) :
    notary_Discharge (k + 100) n t l = some (addAll (k + 100) (t, [], rootT (k + 100) key t, ()) l) := by
  rw [notary_Discharge, h, Option.bind_some]
  dsimp only
  rw [bne_self_eq_false, cond_false, root_eq k (by omega) hkey ht, Option.bind_some]
  have hroot : (rootT (k + 100) key t).length = 32 := tagL_length k (key := key) (text := frameL (rootParts t)) (by omega) hkey (by rw [root_length]; omega)
  generalize rootT (k + 100) key t = R at hroot ⊢
  exact dloop k hk hl (t := (t, [], R, ())) (Nat.zero_le _) hroot

theorem addAll_ok (k : Nat) (hk : 600 ≤ k) : ∀ (l : List (List UInt8)) (t : Tk), t.2.1.length + l.length ≤ 64 → (∀ c ∈ l, c.length ≤ 2048) →
    addAll (k + 100) t l = ((t.1, t.2.1 ++ l.map mkL, lastT (k + 100) t.2.2.1 (l.map mkL), ()), 0, ())
  | [], t, _, _ => by
    obtain ⟨a, b, c, u⟩ := t
    cases u
    simp [addAll, lastT_nil]
  | c :: l, t, h1, h2 => by
    have hc := h2 c List.mem_cons_self
    simp only [List.length_cons] at h1
    have e : addR (k + 100) t c = (withT (k + 100) t (mkL c), 0, ()) := by unfold addR; rw [if_neg (by omega)]; rfl
    rw [addAll, e]
    dsimp only
    rw [bne_self_eq_false, cond_false, addAll_ok k hk l _ (by simp only [withT, List.length_append, List.length_singleton]; omega) (fun d hd => h2 d (List.mem_cons_of_mem _ hd))]
    simp only [withT, List.map_cons, List.append_assoc, List.singleton_append, lastT_cons]

theorem discharge_all (k : Nat) (hk : 2200 ≤ k) {n s key text : List UInt8} {l : List (List UInt8)} (h : notary_Read (k + 100) n s = some (key, text, 0, ())) (hl : l.length ≤ 64) (hc : ∀ c ∈ l, c.length ≤ 2048) (hkey : key.length ≤ 30000) (hs : s.length ≤ 8000) :
    ∃ d : Tk, notary_Discharge (k + 100) n s l = some (d, 0, ()) ∧ d.1 = s ∧ d.2.1 = l.map mkL ∧ chain_Last (k + 100) key d = some d.2.2.1 := by
  have e3 := discharge_ok k hk (l := l) h (by omega) hkey hs
  have hlast : ∀ tg, chain_Last (k + 100) key (s, l.map mkL, tg, ()) = some (lastT (k + 100) (rootT (k + 100) key s) (l.map mkL)) := fun tg =>
    last_eq k (key := key) (t := (s, l.map mkL, tg, ())) (by omega) hkey hs (by simp only [List.length_map]; omega) (fun m hm => by
      obtain ⟨c, hm', rfl⟩ := List.mem_map.1 hm
      have := hc c hm'
      exact ⟨by simp only [mkL]; omega, by simp [mkL]⟩)
  generalize rootT (k + 100) key s = R at e3 hlast
  rw [addAll_ok k (by omega) l (s, [], R, ()) (by simp only [List.length_nil]; omega) hc] at e3
  refine ⟨_, e3, rfl, by simp only [List.nil_append], ?_⟩
  simp only [List.nil_append]
  exact hlast _

/-! the example -/
theorem other36 (k : Nat) : fits (k + 2200 + 100) [109] (sealL (k + 2200 + 100) [110] nonce36 frame36) = false := by
  have h1 : hideK (k + 2200 + 100) [110] = hide36L := Option.some.inj ((hideKey_eq (k + 2200) (key := [110]) (by omega) (by decide)).symm.trans (hide36 k))
  have h2 : xorL frame36 (takeL (k + 2200 + 100) hide36L nonce36 frame36.length) = mix36L := Option.some.inj ((mix_eq (k + 2200) (key := hide36L) (nonce := nonce36) (text := frame36) (by omega) (by decide) (by decide) (by decide) (by show 29 < _; omega)).symm.trans (mix36 k))
  have hb : bodyL (k + 2200 + 100) [110] nonce36 frame36 = body36 := by
    unfold bodyL hidden
    rw [h1, h2]; rfl
  have h3 : boxTag (k + 2200 + 100) [110] body36 = tag36L := Option.some.inj ((boxTag_eq (k + 2200) (key := [110]) (body := body36) (by omega) (by decide) (by decide)).symm.trans (tag36 k))
  have h4 : boxTag (k + 2200 + 100) [109] body36 = tag36mL := Option.some.inj ((boxTag_eq (k + 2200) (key := [109]) (body := body36) (by omega) (by decide) (by decide)).symm.trans (tag36m k))
  have hs : sealL (k + 2200 + 100) [110] nonce36 frame36 = body36 ++ tag36L := by unfold sealL; rw [hb, h3]
  unfold fits
  rw [hs]
  rw [show (body36 ++ tag36L).take ((body36 ++ tag36L).length - 32) = body36 from rfl, h4]
  rfl

theorem frame36_eq : frame2 [107] [105, 115, 32, 105, 116, 32, 109, 111, 110, 100, 97, 121] = frame36 := by kernel_rfl

theorem works36_of {N : Nat} {s : List UInt8} {d : Tk} (h1 : notary_Ticket N [110] [48, 49, 50, 51, 52, 53, 54, 55, 56, 57, 97, 98, 99, 100, 101, 102] [107] [105, 115, 32, 105, 116, 32, 109, 111, 110, 100, 97, 121] = some (s, 0, ()))
    (h2 : notary_Read N [110] s = some ([107], [105, 115, 32, 105, 116, 32, 109, 111, 110, 100, 97, 121], 0, ())) (h3 : notary_Discharge N [110] s [[98, 101, 102, 111, 114, 101, 32, 57]] = some (d, 0, ()))
    (h4 : notary_Read N [109] s = some ([], [], 8, ())) (hd1 : d.1 = s) (hd2 : d.2.1.length = 1) (hd3 : chain_Last N [107] d = some d.2.2.1) : porterlaw36_works N = some true := by
  rw [porterlaw36_works, h1, Option.bind_some]
  dsimp only
  rw [h2, Option.bind_some]
  dsimp only
  rw [h3, Option.bind_some]
  dsimp only
  rw [h4, Option.bind_some]
  dsimp only
  rw [hd1, hd3]
  simp only [beq_self_eq_true, cond_true, Option.bind_some]
  rw [show ((((List.length d.2.1) : Nat) : Int) == (1 : Int)) = true by rw [hd2]; rfl, cond_true]

theorem works36 (k : Nat) : porterlaw36_works (k + 2200 + 100) = some true := by
  have hsl := sealL_length (k + 2200) (key := [110]) (nonce := nonce36) (text := frame36) (by omega) (by decide) (by rfl) (by decide)
  have e1 : notary_Ticket (k + 2200 + 100) [110] nonce36 [107] [105, 115, 32, 105, 116, 32, 109, 111, 110, 100, 97, 121] = some (sealL (k + 2200 + 100) [110] nonce36 frame36, 0, ()) := by
    rw [ticket_eq (k + 2200) (by omega) (by decide) (by rfl) (by decide), frame36_eq]
  have e2 : notary_Read (k + 2200 + 100) [110] (sealL (k + 2200 + 100) [110] nonce36 frame36) = some ([107], [105, 115, 32, 105, 116, 32, 109, 111, 110, 100, 97, 121], 0, ()) := by
    have := read_ticket (k + 2200) (n := [110]) (nonce := nonce36) (key := [107]) (text := [105, 115, 32, 105, 116, 32, 109, 111, 110, 100, 97, 121]) (by omega) (by decide) (by rfl) (by decide)
    rw [frame36_eq] at this
    exact this
  have e4 : notary_Read (k + 2200 + 100) [109] (sealL (k + 2200 + 100) [110] nonce36 frame36) = some ([], [], 8, ()) := by
    refine read_err _ (c := []) (e := 8) ?_ (by decide)
    rw [open_eq (k + 2200) (by omega) (by decide) (by rw [hsl]; decide) (by rw [hsl]; decide), other36, cond_false]
  generalize hs : sealL (k + 2200 + 100) [110] nonce36 frame36 = s at hsl e1 e2 e4
  have hl : s.length ≤ 8000 := by rw [hsl]; decide
  obtain ⟨d, e3, g1, g2, g3⟩ := discharge_all (k + 2200) (by omega) (l := [[98, 101, 102, 111, 114, 101, 32, 57]]) e2 (by simp) (fun c hc => by simp only [List.mem_singleton] at hc; subst hc; decide) (by decide) hl
  exact works36_of e1 e2 e3 e4 g1 (by rw [g2]; rfl) g3


end Go.Proofs.YtjnlgomdckihpaaDoorLg

/- Layer 36: what a ticket was made of is read, and its discharge is the notary's; forms. -/
set_option linter.all false
set_option maxRecDepth 100000
namespace Go.Proofs.YtjnlgomdckihpaaDoorLg
open Go Go.Lift Go.Proofs.YtjnlgomdckihpaaDoorPx

theorem formR_code (o : Option (List (List UInt8))) : (formR o).2.2.1 = 0 ∨ (formR o).2.2.1 = 2 := by
  unfold formR
  split
  · exact .inl rfl
  · exact .inr rfl

theorem form_law36 (k : Nat) (hk : 2200 ≤ k) (hw : porterlaw36_works (k + 100) = some true) {key text : List UInt8} : porterlaw36_NotaryForm (k + 100) key text = some true := by
  rw [porterlaw36_NotaryForm, porterlaw36_NotaryForm_p1, porterlaw36_NotaryForm_p2]
  by_cases h0 : 100 < key.length
  · rw [cond_t (decide_eq_true (by omega)), cond_true, hw]; rfl
  rw [cond_f (decide_eq_false (by omega))]
  by_cases h1 : 500 < text.length
  · rw [decide_eq_true (show (500 : Int) < ((text.length : Nat) : Int) by omega), cond_true, hw]; rfl
  rw [decide_eq_false (show ¬ (500 : Int) < ((text.length : Nat) : Int) by omega), cond_false]
  have e1 : box_Seal (k + 100) key [48, 49, 50, 51, 52, 53, 54, 55, 56, 57, 97, 98, 99, 100, 101, 102] text = some (sealL (k + 100) key nonce36 text, 0, ()) := seal_eq k (nonce := nonce36) (by omega) (by omega) (by rfl) (by omega)
  have hsl := sealL_length k (key := key) (nonce := nonce36) (text := text) (by omega) (by omega) (by rfl) (by omega)
  have hf := fits_seal k (key := key) (nonce := nonce36) (text := text) (by omega) (by omega) (by rfl) (by omega)
  rw [e1, Option.bind_some]
  dsimp only
  have e2 : notary_Read (k + 100) key (sealL (k + 100) key nonce36 text) = some (formR (splitL text)) :=
    read_ok _ (by rw [open_eq k (by omega) (by omega) (by omega) (by omega), hf.1, hf.2, cond_true]) (by omega) (by omega)
  have e3 : porterref36_Read (k + 100) key (sealL (k + 100) key nonce36 text) = some (formR (splitL text)) :=
    refRead_ok _ (by rw [refOpen_eq k (by omega) (by omega) (by omega) (by omega), hf.1, hf.2, cond_true]) (by omega) (by omega)
  rw [e2, e3, Option.bind_some, Option.bind_some]
  simp only [beq_self_eq_true, cond_true]
  rw [hw]
  rcases formR_code (splitL text) with h | h
  · rw [h]; rfl
  · rw [h]; rfl


end Go.Proofs.YtjnlgomdckihpaaDoorLg

