import Derived.Deep.AppendSrc
import Derived.Laws.AppendOwn
import Derived.Test.YtnnjnkjfkaaikaaDoorLgPrRt4
import Derived.OwnWalk
import Derived.Laws.MakeOwn
import Derived.Laws.OwnMore
import Derived.Deep.AppendLies
set_option linter.all false
set_option maxRecDepth 100000
namespace Go.Lift
noncomputable section
open Go
variable {P:Program} {w:World}
def RowAt (w:World)(g:Nat)(cs:List Value)(e:TypeId):Prop:=w.heap[g]?=some (.cells cs.toArray e (0,0))
theorem RowAt.cell {g:Nat}{cs:List Value}{e i:Nat}{v:Value}(h:RowAt w g cs e)(hi:cs[i]?=some v):w.cell? ⟨g,i,none⟩=some v:=by
 unfold RowAt at h;simp[World.cell?,h,hi]
theorem RowAt.free {g:Nat}{cs:List Value}{e:TypeId}{i:Nat}(h:RowAt w g cs e):w.frozen? ⟨g,i,none⟩=false:=by
 unfold RowAt at h;simp[World.frozen?,h]
theorem RowAt.lt {g:Nat}{cs:List Value}{e:TypeId}(h:RowAt w g cs e):g<w.heap.size:=(Array.getElem?_eq_some_iff.1 h).1
theorem RowAt.drew {g:Nat}{cs:List Value}{e:TypeId}(h:RowAt w g cs e):RowAt w.drew g cs e:=h
theorem RowAt.grown {w':World}{g:Nat}{cs:List Value}{e:TypeId}{row:Option Nat}(h:RowAt w g cs e)(hg:w.grownBy w' row)(hne:some g≠row):RowAt w' g cs e:=by
 unfold RowAt at *;rw[hg.block g (Array.getElem?_eq_some_iff.1 h).1 hne];exact h
theorem RowAt.alloc {g:Nat}{cs:List Value}{e:TypeId}(h:RowAt w g cs e)(o:Obj):RowAt (w.alloc o) g cs e:=h.grown (World.grownBy_alloc w o none) (by simp)
theorem RowAt.new (w:World)(cs:List Value)(e:TypeId):RowAt (w.alloc (.cells cs.toArray e)) w.heap.size cs e:=heap_alloc_new w _
theorem RowAt.set {g:Nat}{cs:List Value}{e:TypeId}(h:RowAt w g cs e)(i:Nat)(v:Value):RowAt (w.setCell ⟨g,i,none⟩ v) g (cs.set i v) e:=by
 have:=heap_setCell_same w g i cs.toArray e v h;unfold RowAt;rw[this];simp
end
end Go.Lift
