/- Layer 29: the laws. -/
import Derived.Test.YtlhfamaflkbkjaaLgRotF
set_option linter.all false
set_option maxRecDepth 100000
namespace Go.Proofs.YtlhfamaflkbkjaaLg
open Go Go.Lift Go.Proofs.YtlhfamaflkbkjaaPx

theorem works29 (k : Nat) : porterlaw29_works (k + 60) = some true := by kernel_rfl

theorem eq_root (r : RootT.den) : eqD (T.pair T.str (T.pair (T.int Go.IntKind.i64) (T.pair (T.int Go.IntKind.i64) (T.pair (T.int Go.IntKind.i64) T.unit)))) r r = true := (eqD_iff _ _ _ rfl).2 rfl
theorem ne_root {r q : RootT.den} (h : r ≠ q) : eqD (T.pair T.str (T.pair (T.int Go.IntKind.i64) (T.pair (T.int Go.IntKind.i64) (T.pair (T.int Go.IntKind.i64) T.unit)))) r q = false := by
  rw [← Bool.not_eq_true]
  exact fun e => h ((eqD_iff _ _ _ rfl).1 e)

theorem puts_law29 (k : Nat) (r : RootT.den) (s : List UInt8) : porterlaw29_RootidPuts (k + 100) r s = some true := by
  have hw : porterlaw29_works (k + 100) = some true := works29 (k + 40)
  rw [porterlaw29_RootidPuts, porterlaw29_RootidPuts_p1, porterlaw29_RootidPuts_p2, hw]
  simp only [Option.bind_some]
  by_cases h1 : r.1.length ≤ 200
  · rw [cond_f (decide_eq_false (by omega))]
    by_cases h2 : s.length ≤ 300
    · rw [decide_eq_false (by omega), cond_false, put_eq' (k + 100) (by omega), rput_eq (k + 100) (by omega), got_eq (k + 100) (by omega) (by omega), rgot_eq (k + 100) (by omega) (by omega)]
      simp only [Option.bind_some]
      rw [cond_t (beq_self_eq_true _), cond_t (beq_self_eq_true _), cond_t (eq_root _), cond_t (beq_self_eq_true _)]
    · rw [decide_eq_true (by omega), cond_true]
  · rw [cond_t (decide_eq_true (by omega)), cond_true]

def encR (t : List UInt8) (k e n : Nat) : List UInt8 := [1] ++ (putL t.length ++ t) ++ (putL k ++ putL e ++ putL n)

theorem putR_val {t : List UInt8} {k e n : Nat} (hw : wordL t = true) (hk : k ≤ 1099511627776) (he : e ≤ 1099511627776) (hn : n ≤ 1099511627776) : putR (t, (k : Int), (e : Int), (n : Int), ()) = (encR t k e n, 0, ()) := by
  unfold putR
  simp only
  rw [hw, cond_true, nat_good hk, nat_good he, nat_good hn]
  rfl

theorem putR_ok {r : RootT.den} (h : (putR r).2.1 = 0) : ∃ t, ∃ k e n : Nat, r = (t, (k : Int), (e : Int), (n : Int), ()) ∧ wordL t = true ∧ k ≤ 1099511627776 ∧ e ≤ 1099511627776 ∧ n ≤ 1099511627776 := by
  obtain ⟨t, k, e, n, u⟩ := r
  cases u
  unfold putR at h
  simp only at h
  cases hw : wordL t with
  | false => rw [hw] at h; cases h
  | true =>
    rw [hw, cond_true] at h
    cases hk : badN k with
    | true => rw [hk] at h; cases h
    | false =>
      cases he : badN e with
      | true => rw [hk, he] at h; cases h
      | false =>
        cases hn : badN n with
        | true => rw [hk, he, hn] at h; cases h
        | false =>
          obtain ⟨k, rfl, hk'⟩ := good_nat hk
          obtain ⟨e, rfl, he'⟩ := good_nat he
          obtain ⟨n, rfl, hn'⟩ := good_nat hn
          exact ⟨t, k, e, n, rfl, hw, hk', he', hn'⟩

theorem enc_len {t : List UInt8} (k e n : Nat) (hw : wordL t = true) : (encR t k e n).length ≤ 1000000 := by
  have h0 := word_len hw
  have h1 := putL_len t.length
  have h2 := putL_len k
  have h3 := putL_len e
  have h4 := putL_len n
  unfold encR
  simp only [List.length_append, List.length_cons, List.length_nil]
  omega

theorem back_law29 (k : Nat) (r q : RootT.den) (s : List UInt8) : porterlaw29_RootidBack (k + 100) r q s = some true := by
  have hw : porterlaw29_works (k + 100) = some true := works29 (k + 40)
  rw [porterlaw29_RootidBack, hw]
  simp only [Option.bind_some]
  by_cases hs : s.length ≤ 300
  · rw [cond_f (decide_eq_false (by omega)), put_eq' (k + 100) (by omega), put_eq' (k + 100) (by omega), got_eq (k + 100) (by omega) (by omega)]
    simp only [Option.bind_some]
    rw [put_eq' (k + 100) (by omega)]
    simp only [Option.bind_some]
    have last : (cond ((getR s).2.1 != (0 : Int)) (some true) (cond ((putR (getR s).1).1 == s) (cond ((putR (getR s).1).2.1 == (0 : Int)) (some true) (some false)) (some false))) = some true := by
      by_cases he : eR s = 0
      · obtain ⟨t, a, b, c, h1, h2, h3, h4, h5⟩ := put_get he
        have hg := get_put h1 h2 h3 h4
        rw [← h5] at hg
        have hp := putR_val h1 h2 h3 h4
        rw [hg]
        simp only
        rw [hp, bne_self_eq_false, cond_false]
        have h6 : (encR t a b c == s) = true := beq_iff_eq.2 h5.symm
        simp only
        rw [cond_t h6]
        rfl
      · have : (getR s).2.1 = eR s := rfl
        rw [this, bne_iff_ne.2 he, cond_true]
    rw [last, porterlaw29_RootidBack_p1]
    by_cases he : (putR r).2.1 = 0
    · obtain ⟨t, a, b, c, rfl, h1, h2, h3, h4⟩ := putR_ok he
      have hp := putR_val h1 h2 h3 h4
      rw [cond_t (beq_iff_eq.2 he), hp]
      simp only
      have hg : getR (encR t a b c) = ((t, (a : Int), (b : Int), (c : Int), ()), 0, ()) := get_put h1 h2 h3 h4
      rw [got_eq (k + 100) (by omega) (enc_len a b c h1), hg]
      simp only [Option.bind_some]
      rw [porterlaw29_RootidBack_p2, eq_root, Bool.not_true, cond_false, bne_self_eq_false, cond_false]
      by_cases hf : (putR q).2.1 = 0
      · obtain ⟨t', a', b', c', rfl, g1, g2, g3, g4⟩ := putR_ok hf
        have hp' := putR_val g1 g2 g3 g4
        have hg' : getR (encR t' a' b' c') = ((t', (a' : Int), (b' : Int), (c' : Int), ()), 0, ()) := get_put g1 g2 g3 g4
        rw [cond_t (beq_iff_eq.2 hf), hp']
        simp only
        by_cases hrq : ((t, (a : Int), (b : Int), (c : Int), ()) : RootT.den) = (t', (a' : Int), (b' : Int), (c' : Int), ())
        · have hee : encR t a b c = encR t' a' b' c' := by
            have h0 := congrArg putR hrq
            rw [hp, hp'] at h0
            exact (Prod.mk.inj h0).1
          rw [hrq, eq_root, hee, beq_self_eq_true]
          rfl
        · have hee : encR t a b c ≠ encR t' a' b' c' := fun e => by
            rw [e, hg'] at hg
            exact hrq (Prod.mk.inj hg).1.symm
          rw [ne_root hrq, beq_eq_false_iff_ne.2 hee]
          rfl
      · rw [cond_f (beq_eq_false_iff_ne.2 hf), cond_false]
    · rw [cond_f (beq_eq_false_iff_ne.2 he)]
  · rw [cond_t (decide_eq_true (by omega))]

end Go.Proofs.YtlhfamaflkbkjaaLg
