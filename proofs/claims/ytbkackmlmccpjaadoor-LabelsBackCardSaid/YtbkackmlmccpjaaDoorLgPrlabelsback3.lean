import Derived.Test.YtbkackmlmccpjaaDoorLgPrlabelsback2
import Derived.Test.YtbkackmlmccpjaaDoorLgW
import Derived.Test.YtbkackmlmccpjaaDoorChecked
import Derived.Shelf.Strings.OnBuilder
import Derived.KernelRfl
set_option linter.all false
namespace Go.Proofs.YtbkackmlmccpjaaDoorLg
open Go Go.Lift Go.Proofs Go.Shelf

def lays156_ren : Go.Shelf.Ren := ⟨fun | 156 => 36 | 165 => 49 | 166 => 50 | 169 => 51 | 240 => 65 | 241 => 66 | 276 => 81 | 277 => 82 | n => n, fun | 31 => 45 | 9 => 9 | 3 => 3 | 4 => 4 | 0 => 0 | 20 => 20 | 72 => 73 | 76 => 77 | 70 => 71 | 37 => 65 | 75 => 76 | 127 => 90 | 164 => 105 | 5 => 5 | 80 => 79 | n => n, fun | n => n⟩
theorem lays156 : Lays.n156 Tryd.prog lays156_ren where
  mixed := by kernel_rfl
  f156 := Tryd.func36.trans (congrArg some (by kernel_rfl))
  f165 := Tryd.func49.trans (congrArg some (by kernel_rfl))
  f166 := Tryd.func50.trans (congrArg some (by kernel_rfl))
  f169 := Tryd.func51.trans (congrArg some (by kernel_rfl))
  f240 := Tryd.func65.trans (congrArg some (by kernel_rfl))
  f241 := Tryd.func66.trans (congrArg some (by kernel_rfl))
  f276 := Tryd.func81.trans (congrArg some (by kernel_rfl))
  f277 := Tryd.func82.trans (congrArg some (by kernel_rfl))
  t0 := Tryd.underlying0
  a0 := Tryd.isAgg0
  z0 := Tryd.sizeOf0
  v0 := Tryd.zeroValue0
  t3 := Tryd.underlying3
  a3 := Tryd.isAgg3
  z3 := Tryd.sizeOf3
  v3 := Tryd.zeroValue3
  t4 := Tryd.underlying4
  a4 := Tryd.isAgg4
  z4 := Tryd.sizeOf4
  v4 := Tryd.zeroValue4
  t9 := Tryd.underlying9
  a9 := Tryd.isAgg9
  z9 := Tryd.sizeOf9
  v9 := Tryd.zeroValue9
  t20 := Tryd.underlying20
  a20 := Tryd.isAgg20
  z20 := Tryd.sizeOf20
  v20 := Tryd.zeroValue20
  t31 := Tryd.underlying45
  a31 := Tryd.isAgg45
  z31 := Tryd.sizeOf45
  v31 := Tryd.zeroValue45
  t37 := Tryd.underlying65
  a37 := Tryd.isAgg65
  z37 := Tryd.sizeOf65
  v37 := Tryd.zeroValue65
  t70 := Tryd.underlying71
  a70 := Tryd.isAgg71
  z70 := Tryd.sizeOf71
  v70 := Tryd.zeroValue71
  t72 := Tryd.underlying73
  a72 := Tryd.isAgg73
  z72 := Tryd.sizeOf73
  v72 := Tryd.zeroValue73
  t75 := Tryd.underlying76
  a75 := Tryd.isAgg76
  z75 := Tryd.sizeOf76
  v75 := Tryd.zeroValue76
  t76 := Tryd.underlying77
  a76 := Tryd.isAgg77
  z76 := Tryd.sizeOf77
  v76 := Tryd.zeroValue77
  t127 := Tryd.underlying90
  a127 := Tryd.isAgg90
  z127 := Tryd.sizeOf90
  v127 := Tryd.zeroValue90
  t164 := Tryd.underlying105
  a164 := Tryd.isAgg105
  z164 := Tryd.sizeOf105
  v164 := Tryd.zeroValue105

theorem joinX : Builder.Extra Tryd.prog lays156_ren where
  sizeBuilder := by kernel_rfl
  liesBuilder := by kernel_rfl
  t5 := Tryd.underlying5
  a5 := Tryd.isAgg5
  z5 := Tryd.sizeOf5
  v5 := Tryd.zeroValue5
  infoByte := by kernel_rfl
  cellsByte := by kernel_rfl
  sizeByte := by kernel_rfl
  neB5 := by decide

def strsV (xs : List (List UInt8)) : List ByteArray := xs.map fun s => ⟨⟨s⟩⟩

theorem strsV_data (xs : List (List UInt8)) : (strsV xs).map (·.data.toList) = xs := by
  simp [strsV, List.map_map, Function.comp_def]

theorem all_strs {S : Hp} : ∀ {xs : List (List UInt8)} {cs : List Value}, Lift.All (Rd S .str) xs cs → cs = xs.map (fun s => Value.string ⟨⟨s⟩⟩)
  | [], _, h => h
  | x :: xs, _, ⟨c1, c2, e, h1, h2⟩ => by
    have e1 : c1 = [.string ⟨⟨x⟩⟩] := h1
    rw [e, e1, all_strs h2]; rfl

theorem strs_cells {S : Hp} {w : World} (hS : Lift.Sub S (hp w)) {b off : Nat} {xs : List (List UInt8)} {c1 : List Value} (hl : Lies S b off c1) (ha : Lift.All (Rd S .str) xs c1) :
    ∀ (j : Nat) x, (strsV xs)[j]? = some x → w.cell? ⟨b, off + j, none⟩ = some (.string x) := by
  intro j x hj
  obtain ⟨all, E, fr, c0, c2, e, e1, e2⟩ := hl
  have e3 := hS _ _ e
  have hc := all_strs ha
  simp only [hp] at e3
  have hjx : xs[j]? = some x.data.toList := by
    have := congrArg (fun l : List (List UInt8) => l[j]?) (strsV_data xs)
    simp only [List.getElem?_map] at this
    rw [← this, hj]; rfl
  have : all[off + j]? = some (.string x) := by
    rw [← Array.getElem?_toList, e1, List.getElem?_append_right (by omega), e2, Nat.add_sub_cancel_left, hc, List.getElem?_append_left (by
      rw [List.length_map]; exact (List.getElem?_eq_some_iff.1 hjx).1), List.getElem?_map, hjx]
    simp
  simp [World.cell?, e3, this]

def join_F (x : denS [(0, .v (.sl .str)), (0, .v .str)]) : Option (List UInt8) :=
 cond (decide (x.1.length ≤ 140737488355328) && decide ((Lib.join x.1 x.2.1).length ≤ 140737488355328)) (some (Lib.join x.1 x.2.1)) none

def join_res : List A → Res := resOf [(0, .v (.sl .str)), (0, .v .str)] join_F (oRes (.v .str) 2)

theorem join_ct (glob : Nat → Option Dat) : Contract Tryd.prog glob 36 join_res := by
  refine Contract.hand ⟨_, Tryd.func36, by kernel_rfl, by decide⟩ ?_
  intro w S vals ob x y har hS hg hy
  obtain ⟨xs, c, u⟩ := x
  cases u
  unfold join_F at hy
  dsimp only at hy xs c
  cases hck : (decide (xs.length ≤ 140737488355328) && decide ((Lib.join xs c).length ≤ 140737488355328)) with
  | false => rw [hck] at hy; cases hy
  | true =>
  rw [hck] at hy
  simp only [cond] at hy
  cases hy
  simp only [Bool.and_eq_true, decide_eq_true_eq] at hck
  obtain ⟨h0, h1⟩ := hck
  obtain ⟨⟨v0, hv0, hA0, ho0⟩, _⟩ := har.rel 0 _ rfl
  obtain ⟨⟨v1, hv1, hA1, ho1⟩, _⟩ := har.rel 1 _ rfl
  have hlen := har.len
  obtain ⟨u0, u1, rfl⟩ : ∃ u0 u1, vals = [u0, u1] := by
    have : vals.length = 2 := by simpa [mkS, deads] using hlen.symm
    match vals, this with
    | [a, b], _ => exact ⟨a, b, rfl⟩
  simp at hv0 hv1
  subst hv0; subst hv1
  have e1 := hA1.str_inv
  subst e1
  have hnone : ∀ i, ob i = [] := by
    intro i
    match i with
    | 0 => exact ho0
    | 1 => exact ho1
    | i + 2 => exact har.out _ (by simp [mkS, deads])
  suffices hcall : Calls Tryd.prog 36 #[u0, .string ⟨⟨c⟩⟩] w fun e w' => e = .returned (.string ⟨(Lib.join xs c).toArray⟩) ∧ Go.RowKit.Below w.heap.size w w' by
    refine hcall.mono ?_
    rintro e w' ⟨rfl, hb⟩
    refine ⟨_, S, [], ob, rfl, ⟨hb.size, fun k hk _ => hb.block k hk, hb.tape, hb.os, hb.output⟩, Lift.Sub.refl _, fun k o hk => ?_, fun k hk => .inl hk, ⟨⟨VR.str, rfl⟩, rfl⟩, (fun k hk => by cases hk), .nil, ?_, ?_, har.inj, har.nd, fun i hi => hi⟩
    · have h3 := hS k o hk
      have := hb.block k (hp_lt h3)
      simp only [hp] at h3 ⊢
      rw [this]; exact h3
    · intro i z hz hbx
      match i with
      | 0 => simp [mkS, deads, AS.mk] at hz; subst hz; cases hbx
      | 1 => simp [mkS, deads, AS.mk] at hz; subst hz; cases hbx
      | i + 2 => simp [mkS, deads] at hz
    · intro i k hk
      rw [hnone i] at hk; cases hk
  have hr : ∃ a cap, [u0] = [Value.slice a xs.length cap] ∧ xs.length ≤ cap ∧ (xs = [] ∨ ∃ b off c1, a = some ⟨b, off, none⟩ ∧ Lies S b off c1 ∧ Lift.All (Rd S .str) xs c1) := hA0
  obtain ⟨a, cap, he, hcap, hr⟩ := hr
  cases he
  rcases hr with rfl | ⟨b, off, c1, rfl, hl, ha⟩
  · exact (Any.strings_Join_none lays156 joinX a cap ⟨⟨c⟩⟩ w).mono fun e w' ⟨he, hw⟩ => ⟨he, hw ▸ Go.RowKit.Below.refl _ _⟩
  · have hj := Any.strings_Join lays156 joinX b off cap (strsV xs) ⟨⟨c⟩⟩ w (strs_cells hS hl ha) (by
      obtain ⟨all, E, fr, c0, c2, e, _⟩ := hl
      exact hp_lt (hS _ _ e)) (by rw [strsV, List.length_map]; exact h0) (by rw [strsV, List.length_map]; exact hcap) (by rw [strsV_data]; exact h1)
    rw [strsV_data, show (strsV xs).length = xs.length by rw [strsV, List.length_map]] at hj
    exact hj

end Go.Proofs.YtbkackmlmccpjaaDoorLg
