import Derived.Test.YtlohplpnhopldaaLgPrPd3
import Derived.Deep.AppendSrc
import Derived.Laws.AppendOwn
import Derived.Test.YtlohplpnhopldaaLgPrPd1
import Derived.OwnWalk
import Derived.Laws.MakeOwn
import Derived.Laws.OwnMore
import Derived.Deep.AppendLies
set_option linter.all false
set_option maxRecDepth 100000
namespace Go.Lift
noncomputable section
open Go

variable {P : Program} {w : World}

def RowAt (w : World) (g : Nat) (cs : List Value) (e : TypeId) : Prop := w.heap[g]? = some (.cells cs.toArray e (0, 0))

theorem RowAt.cell {g : Nat} {cs : List Value} {e i : Nat} {v : Value} (h : RowAt w g cs e) (hi : cs[i]? = some v) : w.cell? ⟨g, i, none⟩ = some v := by
  unfold RowAt at h
  simp [World.cell?, h, hi]

theorem RowAt.free {g : Nat} {cs : List Value} {e : TypeId} {i : Nat} (h : RowAt w g cs e) : w.frozen? ⟨g, i, none⟩ = false := by
  unfold RowAt at h
  simp [World.frozen?, h]

theorem RowAt.lt {g : Nat} {cs : List Value} {e : TypeId} (h : RowAt w g cs e) : g < w.heap.size := (Array.getElem?_eq_some_iff.1 h).1

theorem RowAt.drew {g : Nat} {cs : List Value} {e : TypeId} (h : RowAt w g cs e) : RowAt w.drew g cs e := h

theorem RowAt.grown {w' : World} {g : Nat} {cs : List Value} {e : TypeId} {row : Option Nat} (h : RowAt w g cs e) (hg : w.grownBy w' row) (hne : some g ≠ row) : RowAt w' g cs e := by
  unfold RowAt at *
  rw [hg.block g (Array.getElem?_eq_some_iff.1 h).1 hne]; exact h

theorem RowAt.alloc {g : Nat} {cs : List Value} {e : TypeId} (h : RowAt w g cs e) (o : Obj) : RowAt (w.alloc o) g cs e := h.grown (World.grownBy_alloc w o none) (by simp)

theorem RowAt.new (w : World) (cs : List Value) (e : TypeId) : RowAt (w.alloc (.cells cs.toArray e)) w.heap.size cs e := heap_alloc_new w _

theorem RowAt.set {g : Nat} {cs : List Value} {e : TypeId} (h : RowAt w g cs e) (i : Nat) (v : Value) : RowAt (w.setCell ⟨g, i, none⟩ v) g (cs.set i v) e := by
  have := heap_setCell_same w g i cs.toArray e v h
  unfold RowAt
  rw [this]
  simp

theorem RowAt.set_other {g k : Nat} {cs : List Value} {e : TypeId} (h : RowAt w g cs e) (hk : k ≠ g) (i : Nat) (v : Value) : RowAt (w.setCell ⟨k, i, none⟩ v) g cs e := by
  unfold RowAt at *
  rw [<- h]
  exact heap_setCell_other w ⟨k, i, none⟩ g v (fun e => hk e.symm)

theorem z7s {g : Nat} {cs ds : List Value} {e : TypeId} (h : RowAt w g cs e) : RowAt (w.setRow g ds.toArray) g ds e := by
  unfold RowAt
  exact setRow_heap w g cs.toArray ds.toArray e (0, 0) h

theorem z3s {w0 : World} {g : Nat} (ds : Array Value) : w.grownBy (w.setRow g ds) (some g) :=
  ⟨rfl, rfl, rfl, by simp [World.setRow], fun k _ hk => setRow_other w g k ds (fun e => hk (by rw [e]))⟩

theorem z1y {g i : Nat} (v : Value) : w.grownBy (w.setCell ⟨g, i, none⟩ v) (some g) :=
  ⟨rfl, rfl, rfl, by simp [World.setCell], fun k _ hk => heap_setCell_other w ⟨g, i, none⟩ k v (fun e => hk (by rw [e]))⟩

theorem z53 (dT sT ty elem : TypeId) (i : TypeInfo) (g o dLen dCap : Nat) (a : Addr) (sLen sCap m : Nat) (cur : List Value) (t : TypeId) (cs : List Value)
    (hu : P.underlying dT = some (.slice elem)) (hi : P.info? elem = some i) (hg : RowAt w g cur t) (hm : Nat.min sLen dLen = m) (hn : cs.length = m * i.size)
    (hsrc : ∀ j v, cs[j]? = some v -> w.cell? (a.add j) = some v) (hfit : o + cs.length <= cur.length) (h1 : ∀ v ∈ cs, v.oneCell' = true) :
    (Builtin.copy_ #[dT, sT] ty #[.slice (some ⟨g, o, none⟩) dLen dCap, .slice (some a) sLen sCap]).run P w =
      .ok (goInt m) (w.setRow g (cur.take o ++ cs ++ cur.drop (o + cs.length)).toArray) := by
  subst hm
  have hf := run_firstCells_some (P := P) w i.size (Nat.min sLen dLen) a sLen sCap cs hn hsrc
  have hst := run_storeCells_at P g o t cs 0 cur.toArray w hg (by simpa using hfit) h1
  simp only [Nat.add_zero] at hst
  simp [Builtin.copy_, run_underlying hu, Builtin.lenOf, sizeOf, typeInfo, hi, hf, hst]

theorem zpo (dT sT ty elem : TypeId) (i : TypeInfo) (d a : Option Addr) (dLen dCap sLen sCap : Nat) (hu : P.underlying dT = some (.slice elem)) (hi : P.info? elem = some i) (hm : Nat.min sLen dLen = 0) :
    (Builtin.copy_ #[dT, sT] ty #[.slice d dLen dCap, .slice a sLen sCap]).run P w = .ok (goInt 0) w := by
  have hl : loadCells = loadCells := rfl
  cases d <;> cases a <;> simp [Builtin.copy_, run_underlying hu, Builtin.lenOf, Builtin.firstCells, sizeOf, typeInfo, hi, hm, storeCells, loadCells, loadCellsFrom]

theorem zlb {P : Program} (w : World) (t tx ty e : TypeId) (i : TypeInfo) (z : Value) (ht : P.underlying t = some (.slice e)) (hx : P.underlying tx = some (.int .i64)) (hi : P.info? e = some i) (hz : i.zero = some z) (base : Option Addr) (sLen sCap : Nat) (olds : List Value)
    (hold : (Builtin.firstCells i.size sLen (.slice base sLen sCap)).run P w.drew = .ok olds.toArray w.drew) (n : Nat) (hA : n ≠ 0) (hB : i.size ≠ 0)
    (hg : sCap < sLen + n) (hw : IntKind.i64.wrap (n : Int) = n) (h63 : ((sLen + n : Nat) : Int) <= 9223372036854775807) (hl : (n : Int) * i.bytes <= 281474976710656) (hfit : Builtin.nextslicecap (sLen + n) sCap * i.bytes <= 281474976710656) :
    (Builtin.append_ #[t, tx] ty #[.slice base sLen sCap, .int .i64 (n : Int)]).run P w =
      .ok (.slice (some ⟨w.heap.size, 0, none⟩) (sLen + n) (grownCap w (sLen + n) sCap e))
        (w.drew.alloc (.cells ((olds ++ (Builtin.zeroCells z.cells n).toList).toArray ++ Builtin.zeroCells z.cells (grownCap w (sLen + n) sCap e - (sLen + n))) e)) := by
  have hn : ¬ (sLen + n <= sCap) := by omega
  have h63' : ¬ (9223372036854775807 < ((sLen : Int) + (n : Int))) := by omega
  have h48' : ¬ (281474976710656 < Builtin.nextslicecap (sLen + n) sCap * i.bytes) := by omega
  have hl' : ¬ (281474976710656 < (n : Int) * i.bytes) := by omega
  have h0 : n * i.size ≠ 0 := Nat.mul_ne_zero hA hB
  have hneg : ¬ ((n : Int) < 0) := by omega
  have hw' : IntKind.wrap .i64 (n : Int) = n := hw
  simp [Builtin.append_, run_underlying ht, run_underlying hx, sizeOf, typeInfo, zeroValue, hi, hz, hn, h63', h48', hl', hneg, hw', asInt, asIntOf, Question.forced, hold, newRow, grownCap, h0, hA, hB]
  congr 2
  apply Array.ext'
  simp [List.append_assoc]

theorem zsj {n m : Nat} (hn : n < 256) (hm : m <= 2 * n + 1) (b : Nat) (hb : b <= 1000) : Builtin.nextslicecap m n * b <= 281474976710656 := by
  have h1 : Builtin.nextslicecap m n <= 600 := by
    unfold Builtin.nextslicecap
    split
    . omega
    . omega
  calc Builtin.nextslicecap m n * b <= 600 * 1000 := Nat.mul_le_mul h1 hb
    _ <= _ := by decide

theorem zna {w : World} {t ty e : TypeId} {i : TypeInfo} {z : Value} (ht : P.underlying t = some (.slice e)) (hi : P.info? e = some i) (hz : i.zero = some z) (hb : i.bytes <= 1000) {g vb n c : Nat} {cs vs : List Value}
    (hs : RowAt w g cs e) (hc : cs.length = n * i.size) (hv : RowAt w vb vs e) (hl : vs.length = i.size) (hn : n < 256) :
    ∃ cap sp W', (Builtin.append_ #[t, t] ty #[.slice (some ⟨g, 0, none⟩) n n, .slice (some ⟨vb, 0, none⟩) 1 c]).run P w = .ok (.slice (some ⟨w.heap.size, 0, none⟩) (n + 1) cap) W' /\ n + 1 <= cap /\ RowAt W' w.heap.size (cs ++ vs ++ sp) e /\ w.grownBy W' none := by
  have hadd : ∀ b j, (⟨b, 0, none⟩ : Addr).add j = ⟨b, j, none⟩ := fun b j => by unfold Addr.add; split <;> simp_all
  have := run_append_grow (P := P) w t ty e i z ht hi hz ⟨g, 0, none⟩ n n cs hc (fun j v hj => by rw [hadd]; exact hs.cell hj) ⟨vb, 0, none⟩ 1 c vs (by omega) (fun j v hj => by rw [hadd]; exact hv.cell hj) (by omega) (by omega) (zsj hn (by omega) _ hb)
  refine ⟨_, (Builtin.zeroCells z.cells (grownCap w (n + 1) n e - (n + 1))).toList, _, this, grownCap_ge _ _ _ _, ?_, ?_⟩
  . have h := RowAt.new w.drew (cs ++ vs ++ (Builtin.zeroCells z.cells (grownCap w (n + 1) n e - (n + 1))).toList) e
    have e1 : (cs ++ vs ++ (Builtin.zeroCells z.cells (grownCap w (n + 1) n e - (n + 1))).toList).toArray = cs.toArray ++ vs.toArray ++ Builtin.zeroCells z.cells (grownCap w (n + 1) n e - (n + 1)) := by
      apply Array.ext'
      simp
    rw [e1] at h
    exact h
  . have h := World.grownBy_alloc w.drew (.cells (cs.toArray ++ vs.toArray ++ Builtin.zeroCells z.cells (grownCap w (n + 1) n e - (n + 1))) e) none
    exact ⟨h.os, h.tape, h.output, h.size, h.block⟩

theorem zv2 {w : World} {t tx ty e : TypeId} {i : TypeInfo} {z : Value} (ht : P.underlying t = some (.slice e)) (hx : P.underlying tx = some (.int .i64)) (hi : P.info? e = some i) (hz : i.zero = some z) (hzl : z.cells.size = i.size) (hb : i.bytes <= 1000) (hB : i.size ≠ 0) {g n k m : Nat} {cs : List Value}
    (hs : RowAt w g cs e) (hc : cs.length = n * i.size) (hk : k <= n) (hm : k + m = n + 1) (hn : n < 256) :
    ∃ cap zs sp W', (Builtin.append_ #[t, tx] ty #[.slice (some ⟨g, 0, none⟩) k n, .int .i64 (m : Int)]).run P w = .ok (.slice (some ⟨w.heap.size, 0, none⟩) (n + 1) cap) W' /\ n + 1 <= cap /\ zs.length = m * i.size /\ RowAt W' w.heap.size (cs.take (k * i.size) ++ zs ++ sp) e /\ w.grownBy W' none := by
  have hadd : ∀ b j, (⟨b, 0, none⟩ : Addr).add j = ⟨b, j, none⟩ := fun b j => by unfold Addr.add; split <;> simp_all
  have hkl : (cs.take (k * i.size)).length = k * i.size := by
    rw [List.length_take, hc]
    exact Nat.min_eq_left (Nat.mul_le_mul_right _ hk)
  have hold := run_firstCells_some (P := P) w.drew i.size k ⟨g, 0, none⟩ k n (cs.take (k * i.size)) hkl (fun j v hj => by
    rw [hadd]
    have hj' : cs[j]? = some v := by
      rw [List.getElem?_take] at hj
      split at hj
      . exact hj
      . cases hj
    exact (hs.drew).cell hj')
  have hmb : (m : Int) * (i.bytes : Int) <= 281474976710656 := by
    have h1 : m * i.bytes <= 257 * 1000 := Nat.mul_le_mul (by omega) hb
    have h2 : ((m * i.bytes : Nat) : Int) <= ((257 * 1000 : Nat) : Int) := Int.ofNat_le.2 h1
    rw [Int.natCast_mul] at h2
    omega
  have hkm : k + m = n + 1 := hm
  have := zlb (P := P) w t tx ty e i z ht hx hi hz (some ⟨g, 0, none⟩) k n (cs.take (k * i.size)) hold m (by omega) hB (by omega) (by rw [IntKind.wrap_i64]; omega) (by omega) hmb (by rw [hkm]; exact zsj hn (by omega) _ hb)
  rw [hkm] at this
  refine ⟨_, (Builtin.zeroCells z.cells m).toList, (Builtin.zeroCells z.cells (grownCap w (n + 1) n e - (n + 1))).toList, _, this, grownCap_ge _ _ _ _, by simp [Builtin.zeroCells, hzl], ?_, ?_⟩
  . have h := RowAt.new w.drew (cs.take (k * i.size) ++ (Builtin.zeroCells z.cells m).toList ++ (Builtin.zeroCells z.cells (grownCap w (n + 1) n e - (n + 1))).toList) e
    have e1 : (cs.take (k * i.size) ++ (Builtin.zeroCells z.cells m).toList ++ (Builtin.zeroCells z.cells (grownCap w (n + 1) n e - (n + 1))).toList).toArray = (cs.take (k * i.size) ++ (Builtin.zeroCells z.cells m).toList).toArray ++ Builtin.zeroCells z.cells (grownCap w (n + 1) n e - (n + 1)) := by
      apply Array.ext'
      simp
    rw [e1] at h
    exact h
  . have h := World.grownBy_alloc w.drew (.cells ((cs.take (k * i.size) ++ (Builtin.zeroCells z.cells m).toList).toArray ++ Builtin.zeroCells z.cells (grownCap w (n + 1) n e - (n + 1))) e) none
    exact ⟨h.os, h.tape, h.output, h.size, h.block⟩

theorem z3u {P : Program} (w : World) {ops : Array Oper} {rest : List Oper} {o : Oper} {a : Act} {Q : Exit -> Act -> World -> Prop}
    (hg : o.guard = none) (s x : Operand) (ts : Array TypeId) (hop : o.op = Op.call { callee := Callee.builtin Builtin.append, args := #[s, x], argTypes := ts }) (v1 v2 : Value) (hs : a.eval s = v1) (hx : a.eval x = v2) {v : Value} {W' : World}
    (hrun : (Builtin.append_ ts o.type #[v1, v2]).run P w = .ok v W') (hK : wpList P ops Q rest (a.put o.dst v) W') : wpList P ops Q (o :: rest) a w := by
  refine wpList_plain hg fun K hK' => ?_
  unfold Oper.wp
  simp [execOp, hop, resolve, invoke, builtin, hs, hx, hrun, Result.andThen]
  exact hK' _ _ hK

theorem zpq {P : Program} {w : World} (t e ty : TypeId) (i : TypeInfo) (z : Value) (ht : P.underlying t = some (.slice e)) (hi : P.info? e = some i) (hz : i.zero = some z) (g o n c : Nat) (cur : List Value) (e' : TypeId) (hg : RowAt w g cur e') (hn : 0 < n)
    (hfit : o + n * z.cells.size <= cur.length) (h1 : ∀ u ∈ z.cells.toList, u.oneCell' = true) :
    (Builtin.clear_ #[t] ty #[.slice (some ⟨g, o, none⟩) n c]).run P w = .ok (.tuple #[]) (w.setRow g (cur.take o ++ (Builtin.zeroCells z.cells n).toList ++ cur.drop (o + (Builtin.zeroCells z.cells n).toList.length)).toArray) := by
  have hone : ∀ u ∈ (Builtin.zeroCells z.cells n).toList, u.oneCell' = true := by
    intro u hu
    simp only [Builtin.zeroCells, Array.toList_map, List.mem_map] at hu
    obtain ⟨j, _, rfl⟩ := hu
    rcases Nat.lt_or_ge (j % z.cells.size) z.cells.size with h | h
    . rw [getElem!_pos z.cells _ h]
      exact h1 _ (by simp)
    . rw [getElem!_neg z.cells _ (by omega)]
      rfl
  have hl : (Builtin.zeroCells z.cells n).toList.length = n * z.cells.size := by simp [Builtin.zeroCells]
  have hst := run_storeCells_at P g o e' (Builtin.zeroCells z.cells n).toList 0 cur.toArray w hg (by rw [hl]; simpa using hfit) hone
  simp only [Nat.add_zero] at hst
  obtain ⟨m, rfl⟩ : ∃ m, n = m + 1 := ⟨n - 1, by omega⟩
  simp [Builtin.clear_, run_underlying ht, zeroValue, typeInfo, hi, hz, hst]

theorem zg6 {P : Program} {w : World} {o : Oper} {a : Act} {K : Act -> World -> Prop} {Q : Exit -> Act -> World -> Prop} (s x : Operand) (ts : Array TypeId)
    (hop : o.op = Op.call { callee := Callee.builtin Builtin.append, args := #[s, x], argTypes := ts }) (v1 v2 : Value) (hs : a.eval s = v1) (hx : a.eval x = v2) {v : Value} {W' : World}
    (hrun : (Builtin.append_ ts o.type #[v1, v2]).run P w = .ok v W') (h : K (a.put o.dst v) W') : o.wp P a w K Q := by
  unfold Oper.wp
  simp [execOp, hop, resolve, invoke, builtin, hs, hx, hrun, Result.andThen]
  exact h

end
end Go.Lift
