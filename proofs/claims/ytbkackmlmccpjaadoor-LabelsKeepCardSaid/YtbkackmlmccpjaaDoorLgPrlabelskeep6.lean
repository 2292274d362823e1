import Derived.Test.YtbkackmlmccpjaaDoorLgPrlabelskeep5
import Derived.Test.YtbkackmlmccpjaaDoorLgPrlabelskeep1
import Derived.Test.YtbkackmlmccpjaaDoorLgPrlabelskeep2
import Derived.Lib.DecodeN
set_option linter.all false
namespace Go.Proofs.YtbkackmlmccpjaaDoorLg
open Go Go.Lift Go.Lib Go.Proofs.YtbkackmlmccpjaaDoorPx

def hexDigits : List UInt8 := [48, 49, 50, 51, 52, 53, 54, 55, 56, 57, 97, 98, 99, 100, 101, 102]
def hd (n : Nat) : UInt8 := hexDigits.getD n 0


end Go.Proofs.YtbkackmlmccpjaaDoorLg

set_option linter.all false
set_option maxRecDepth 100000
namespace Go.Proofs.YtbkackmlmccpjaaDoorLg
open Go Go.Lift Go.Proofs.YtbkackmlmccpjaaDoorPx


theorem zL_eq {l : List LabD} {z : List (List UInt8)} (hz : z.Pairwise (· < ·)) (hm : ∀ x, x ∈ z ↔ ∃ i, i < l.length ∧ nmL l i = x) : zL l = z := by
  have tr : ∀ a b c : List UInt8, leB a b = true → leB b c = true → leB a c = true := fun a b c h1 h2 => by simp only [leB, decide_eq_true_eq] at *; exact List.le_trans h1 h2
  have to : ∀ a b : List UInt8, (leB a b || leB b a) = true := fun a b => by simp only [leB, Bool.or_eq_true, decide_eq_true_eq]; exact List.le_total a b
  have hp := List.pairwise_mergeSort tr to (strKeys (plD l l.length))
  have hnz : z.Nodup := hz.imp fun {a b} h e => by rw [e] at h; exact List.lt_irrefl _ h
  have hperm : (zL l).Perm z := by
    refine (List.perm_ext_iff_of_nodup (zL_nodup l) hnz).2 fun x => ?_
    rw [hm]
    constructor
    · intro h
      obtain ⟨t, ht, e⟩ := mem_idx h
      obtain ⟨i, hi, hn⟩ := zn_mem (l := l) ht
      exact ⟨i, hi, by rw [hn]; exact e⟩
    · rintro ⟨i, hi, rfl⟩; exact zL_mem' hi
  refine List.Perm.eq_of_pairwise (le := fun a b => leB a b = true) (fun a b _ _ h1 h2 => ?_) hp (hz.imp fun {a b} h => ?_) hperm
  · simp only [leB, decide_eq_true_eq] at h1 h2
    exact List.le_antisymm h1 h2
  · simp only [leB, decide_eq_true_eq]
    exact List.le_of_lt h

def Rises (l : List LabD) : Prop := ∀ i j, i < j → j < l.length → nmL l i < nmL l j

theorem rises_distinct {l : List LabD} (h : Rises l) : distinctL l := fun i j hij hj e => by
  have := h i j hij hj
  rw [e] at this; exact List.lt_irrefl _ this

theorem nm_get {l : List LabD} {i : Nat} (hi : i < l.length) : nmL l i = l[i].1 := by simp [nmL, List.getD, hi]

theorem rises_z {l : List LabD} (h : Rises l) : zL l = l.map (·.1) := by
  refine zL_eq ?_ fun x => ?_
  · rw [List.pairwise_map, List.pairwise_iff_getElem]
    intro i j hi hj hij
    have := h i j hij hj
    rw [nm_get hi, nm_get hj] at this
    exact this
  · rw [List.mem_map]
    constructor
    · rintro ⟨y, hy, rfl⟩
      obtain ⟨i, hi, e⟩ := List.mem_iff_getElem.1 hy
      exact ⟨i, hi, by rw [nm_get hi, e]⟩
    · rintro ⟨i, hi, rfl⟩
      exact ⟨l[i], List.getElem_mem hi, by rw [nm_get hi]⟩

theorem rises_out {l : List LabD} (h : Rises l) : ofOut l = l.filter fun x => !x.2.1.isEmpty := by
  have hz := rises_z h
  rw [ofOut, ofTo, List.take_length, show znD (plD l l.length) = zL l from rfl, hz, List.map_map]
  congr 1
  apply List.ext_getElem
  · simp
  · intro i h1 h2
    simp only [List.getElem_map, Function.comp]
    rw [← nm_get h2, lbOf_at (rises_distinct h) h2]
    simp [List.getD, h2]

theorem lb_name {l : List LabD} (hd : distinctL l) {n : List UInt8} (h : n ∈ zL l) : (lbOf l n).1 = n ∧ lbOf l n ∈ l := by
  obtain ⟨t, ht, e⟩ := mem_idx h
  obtain ⟨i, hi, hn⟩ := zn_mem (l := l) ht
  have e2 : nmL l i = n := by rw [hn]; exact e
  rw [← e2, lbOf_at hd hi]
  exact ⟨rfl, by rw [List.getD_eq_getElem?_getD, List.getElem?_eq_getElem hi]; exact List.getElem_mem hi⟩

theorem out_list (l : List LabD) : ofOut l = ((zL l).map (lbOf l)).filter fun x => !x.2.1.isEmpty := by
  rw [ofOut, ofTo, List.take_length]

theorem get_find : ∀ (l : List LabD) (n : List UInt8), getP l n = (lbOf l n).2.1
  | [], _ => rfl
  | x :: xs, n => by
    rw [getP, lbOf, List.find?_cons]
    by_cases h : x.1 = n
    · rw [if_pos h, beq_iff_eq.2 h]; rfl
    · rw [if_neg h, beq_eq_false_iff_ne.2 h, get_find xs n]; rfl

theorem get_filter {l : List LabD} (n : List UInt8) : ∀ Z : List (List UInt8), (∀ z ∈ Z, (lbOf l z).1 = z) → getP ((Z.map (lbOf l)).filter fun x => !x.2.1.isEmpty) n = if n ∈ Z then (lbOf l n).2.1 else []
  | [], _ => by simp [getP]
  | z :: Z, h => by
    have ih := get_filter n Z fun y hy => h y (List.mem_cons_of_mem _ hy)
    have hz := h z (List.mem_cons_self ..)
    rw [List.map_cons, List.filter_cons]
    by_cases hv : (lbOf l z).2.1 = []
    · rw [if_neg (by rw [hv]; decide), ih]
      by_cases hn : n = z
      · subst hn
        rw [if_pos (List.mem_cons_self ..), hv]
        split <;> rfl
      · by_cases hm : n ∈ Z
        · rw [if_pos hm, if_pos (List.mem_cons_of_mem _ hm)]
        · rw [if_neg hm, if_neg (by rw [List.mem_cons]; intro e; rcases e with e | e; exact hn e; exact hm e)]
    · rw [if_pos (by cases hh : (lbOf l z).2.1 with | nil => exact absurd hh hv | cons a b => rfl), getP, hz, ih]
      by_cases hn : z = n
      · subst hn
        rw [if_pos rfl, if_pos (List.mem_cons_self ..)]
      · rw [if_neg hn]
        by_cases hm : n ∈ Z
        · rw [if_pos hm, if_pos (List.mem_cons_of_mem _ hm)]
        · rw [if_neg hm, if_neg (by rw [List.mem_cons]; intro e; rcases e with e | e; exact hn e.symm; exact hm e)]

theorem get_out {l : List LabD} (hd : distinctL l) (n : List UInt8) : getP (ofOut l) n = getP l n := by
  rw [out_list, get_filter n (zL l) (fun z hz => (lb_name hd hz).1), get_find]
  by_cases hm : n ∈ zL l
  · rw [if_pos hm]
  · rw [if_neg hm, lbOf, List.find?_eq_none.2 fun x hx => by
      intro e
      rw [beq_iff_eq] at e
      obtain ⟨i, hi, e2⟩ := List.mem_iff_getElem.1 hx
      exact hm (by rw [← e, ← e2, ← nm_get hi]; exact zL_mem' hi)]
    rfl


abbrev wL : List LabD := [(([(97 : UInt8)] : List UInt8), (([(49 : UInt8)] : List UInt8), ())), (([(98 : UInt8)] : List UInt8), (([] : List UInt8), ()))]

theorem wL_rises : Rises wL := by
  intro i j hij hj
  have : j < 2 := hj
  have h1 : i = 0 := by omega
  have h2 : j = 1 := by omega
  subst h1; subst h2
  exact (lt_cmp _ _).1 (by decide)

theorem works11 (k : Nat) : porterlaw11_works (k + 1000000) = some true := by
  rw [porterlaw11_works, of_eq (k + 1000000) (l := wL) (by intro i hi; have : i < 2 := hi; rcases (by omega : i = 0 ∨ i = 1) with rfl | rfl <;> decide) (by omega), Option.bind_some]
  have ho : ofP wL = ([(([(97 : UInt8)] : List UInt8), (([(49 : UInt8)] : List UInt8), ()))], 0, ()) := by
    unfold ofP
    rw [if_neg (by decide), if_pos (by decide), if_pos (rises_distinct wL_rises), rises_out wL_rises]
    rfl
  have hp : labels_Parse (k + 1000000) ([(123 : UInt8), (97 : UInt8), (61 : UInt8), (34 : UInt8), (49 : UInt8), (34 : UInt8), (44 : UInt8), (32 : UInt8), (98 : UInt8), (61 : UInt8), (34 : UInt8), (34 : UInt8), (125 : UInt8)] : List UInt8) = some (wL, (0, 0, ()), ()) := by kernel_rfl
  have ht : labels_Text (k + 1000000) wL = some [(123 : UInt8), (97 : UInt8), (61 : UInt8), (34 : UInt8), (49 : UInt8), (34 : UInt8), (44 : UInt8), (32 : UInt8), (98 : UInt8), (61 : UInt8), (34 : UInt8), (34 : UInt8), (125 : UInt8)] := by kernel_rfl
  rw [ho, hp, Option.bind_some, ht, Option.bind_some, cond_t (by rfl), cond_t (by rfl), cond_t (by rfl), sameLab_eq (k + 1000000) wL (by show (2 : Nat) < _; omega) (by decide), Option.bind_some, cond_true, cond_t (by rfl), right_eq (k + 1000000) (by omega), Option.bind_some, cond_t (by rfl), get_eq (k + 1000000) (by show (2 : Nat) < _; omega) (by decide), Option.bind_some]
  rfl


theorem out_len {l : List LabD} : (ofP l).1.length ≤ l.length := by
  unfold ofP
  split
  · exact Nat.zero_le _
  · split
    · split
      · rename_i hd
        have := ofTo_len l (zL l).length
        rw [zL_len hd] at this
        show (ofOut l).length ≤ _
        rw [ofOut, show (znD (plD l l.length)).length = (zL l).length from rfl, zL_len hd]; exact this
      · exact Nat.zero_le _
    · exact Nat.zero_le _

theorem keep_law (k : Nat) (l : List LabD) (n : List UInt8) : porterlaw11_LabelsKeep (k + 1000000) l n = some true := by
  rw [porterlaw11_LabelsKeep, works11]
  obtain ⟨b, hb, hg⟩ := great_eq (k + 1000000) (l := l) (by omega)
  rw [hb, Option.bind_some]
  cases b with
  | true => rfl
  | false =>
    obtain ⟨h40, hl⟩ := hg rfl
    have hl' : ∀ i, i < l.length → (nmL l i).length ≤ 1000 := fun i hi => by have := (hl i hi).1; omega
    have ho := out_len (l := l)
    rw [cond_false, of_eq _ hl' (by omega), Option.bind_some]
    by_cases he : (ofP l).2.1 = 0
    case neg => rw [cond_t (bne_iff_ne.2 he)]; rfl
    have hout : distinctL l ∧ (ofP l).1 = ofOut l := by
      unfold ofP at he ⊢
      split at he
      · exact absurd he (by decide)
      · rename_i h32
        split at he
        · rename_i hs
          split at he
          · rename_i hd
            exact ⟨hd, by rw [if_neg h32, if_pos hs, if_pos hd]⟩
          · exact absurd he (by decide)
        · rename_i hs
          exact absurd he hs
    obtain ⟨hd, hm⟩ := hout
    rw [cond_f (bne_eq_false_iff_eq.2 he), hm]
    rw [hm] at ho
    rw [porterlaw11_LabelsKeep_p1, iter_eq (I := fun v => 0 ≤ v ∧ v ≤ (l.length : Int)) (m := fun v => l.length - v.toNat) (R := fun _ => some true) ?_ _ 0 ⟨by omega, by omega⟩ (by simp; omega)]
    intro v r ⟨h0, h1⟩ hr
    obtain ⟨i, rfl⟩ := Int.eq_ofNat_of_zero_le h0
    rw [porterlaw11_LabelsKeep_s1]
    by_cases hlt : i < l.length
    · have hn := hr ((i : Int) + 1) ⟨by omega, by omega⟩ (by omega)
      have hgo : getP (ofOut l) (l.getD i (([] : List UInt8), (([] : List UInt8), ()))).1 = (l.getD i (([] : List UInt8), (([] : List UInt8), ()))).2.1 := by
        rw [get_out hd, get_find, show (l.getD i (([] : List UInt8), (([] : List UInt8), ()))).1 = nmL l i from rfl, lbOf_at hd hlt]
      rw [cond_t (dec_t (by omega)), cond_t (inR_nat hlt), Int.toNat_natCast, get_eq _ (by omega) (by omega), Option.bind_some, cond_t (inR_nat hlt), hgo, beq_self_eq_true, Bool.not_true, cond_false, wrap_in (x := (i : Int) + 1) (by unfold I64; omega), hn]
    · rw [cond_f (dec_f (by omega)), get_eq _ (by omega) (by omega), get_eq _ (by omega) (by omega), Option.bind_some, Option.bind_some, get_out hd, beq_self_eq_true, cond_true, cond_t (dec_t (by omega))]
      rfl


end Go.Proofs.YtbkackmlmccpjaaDoorLg
