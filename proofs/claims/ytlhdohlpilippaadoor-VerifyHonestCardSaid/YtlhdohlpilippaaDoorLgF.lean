import Derived.Test.YtlhdohlpilippaaDoorLgE
import Derived.Laws.Cells
import Derived.Laws.Entries
import Derived.Laws.Strings
set_option linter.all false
namespace Go.Lift
noncomputable section
theorem All.cells {α:Type}{R:α->List Value->Prop}{p:Value->Prop}(h:∀ x cs,R x cs->∀ v∈cs,p v):∀ (xs:List α) (cs:List Value),All R xs cs->∀ v∈cs,p v
 | [],_,e=>by simp[All] at e;simp[e]
 | x::xs,_,⟨c1,c2,e,h1,h2⟩=>fun v hv=>by
   rw[e,List.mem_append] at hv;exact hv.elim (h x c1 h1 v) (All.cells h xs c2 h2 v)
theorem RdN.ones {S:Hp}:∀ (x:Tree) (cs:List Value),RdN S x cs->∀ v∈cs,v.oneCell'=true
 | .mk k st ks lo hi,cs,hr=>by
   rw[RdN] at hr;obtain⟨a,cap,e,_⟩:=hr;intro v hv;rw[e] at hv;simp only[List.mem_cons,List.mem_append,List.mem_map,List.not_mem_nil,or_false] at hv;rcases hv with rfl|⟨x,_,rfl⟩|rfl|rfl|rfl<;>rfl
theorem Rd.ones {S:Hp}:∀ (t:T) (x:t.den) (cs:List Value),Rd S t x cs->∀ v∈cs,v.oneCell'=true
 | .int _,_,_,e=>by simp[Rd] at e;simp[e,Value.oneCell']
 | .bool,_,_,e=>by simp[Rd] at e;simp[e,Value.oneCell']
 | .str,_,_,e=>by simp[Rd] at e;simp[e,Value.oneCell']
 | .opq,_,_,e=>by simp[Rd] at e;simp[e]
 | .unit,_,_,e=>by simp[Rd] at e;simp[e]
 | .pair a b,_,_,⟨c1,c2,e,h1,h2⟩=>fun v hv=>by
   rw[e,List.mem_append] at hv;exact hv.elim (Rd.ones a _ _ h1 v) (Rd.ones b _ _ h2 v)
 | .arr n t,xs,_,⟨e,h1⟩=>All.cells (Rd.ones t) _ _ h1
 | .sl t,_,_,⟨a,cap,e,_⟩=>by simp[e,Value.oneCell']
 | .ptr t,_,_,⟨b,off,c1,e,_⟩=>by simp[e,Value.oneCell']
 | .own _,_,_,e=>e.elim
 | .self _,_,_,e=>e.elim
 | .any,_,_,⟨u,e,h⟩=>by simp[e,h]
 | .byt _,_,_,e=>by rw[show _=[_] from e];simp[Value.oneCell']
 | .fn _ _,_,_,⟨l,e,_⟩=>by simp[e,Value.oneCell']
 | .mp _ _,_,_,e=>e.elim
 | .nb _,_,_,e=>e.elim
 | .ifc _ _,_,_,e=>by rcases e with⟨_,e⟩|⟨_,_,_,e,_⟩<;>simp[e,Value.oneCell']
 | .nod,x,cs,e=>RdN.ones x cs e
theorem z8r {w:World}{b off:Nat}{c1:List Value}(h:Lies (hp w) b off c1){j:Nat}{v:Value}(hj:c1[j]?=some v) :
 w.cell? ⟨b,off+j,none⟩=some v:=by
 obtain⟨all,E,fr,c0,c2,e,e1,e2⟩:=h;have hlt:j<c1.length:=by
  rcases Nat.lt_or_ge j c1.length with h|h
  . exact h
  . simp[List.getElem?_eq_none h] at hj
 have:all[off+j]?=some v:=by
  rw[<- Array.getElem?_toList,e1,List.getElem?_append_right (by omega),List.getElem?_append_left (by omega),<- hj];congr 1;omega
 simp only[hp] at e;simp[World.cell?,e,this]
theorem z65 (b off j:Nat):(⟨b,off,none⟩:Addr).add j=⟨b,off+j,none⟩:=by
 unfold Addr.add;split
 . rename_i h;subst h;rfl
 . rfl
section
variable {P:Program} {w:World}
theorem z2g {b off:Nat}{c1:List Value}(h:Lies (hp w) b off c1):(loadCells ⟨b,off,none⟩ c1.length).run P w=.ok c1.toArray w :=
 run_loadCells_list (P:=P) (w:=w) (a:=⟨b,off,none⟩) (cs:=c1) fun j v hj=>by rw[z65];exact z8r h hj
def z19 (w:World)(b:Nat)(o:Obj):World:={ w with heap:=w.heap.setIfInBounds b o }
theorem z1y {b:Nat}{o o':Obj}(h:hp w b=some o'):hp (z19 w b o) b=some o:=by
 simp only[hp] at h;have:b<w.heap.size:=by
  rcases Nat.lt_or_ge b w.heap.size with h'|h'
  . exact h'
  . simp[Array.getElem?_eq_none h'] at h
 simp[hp,z19,this]
theorem zo {b b':Nat}{o:Obj}(h:b'≠b):hp (z19 w b o) b'=hp w b':=by
 simp[hp,z19,Array.getElem?_setIfInBounds_ne (Ne.symm h)]
theorem zk8 {b:Nat}{o:Obj}(h:hp w b=some o):b<w.heap.size:=by
 simp only[hp] at h;rcases Nat.lt_or_ge b w.heap.size with h'|h'
 . exact h'
 . simp[Array.getElem?_eq_none h'] at h
theorem zhy {b off:Nat}{cs:Array Value}{E:TypeId}{fr:Nat×Nat}(v:Value)(h:hp w b=some (.cells cs E fr)) :
 w.setCell ⟨b,off,none⟩ v=z19 w b (.cells (cs.setIfInBounds off v) E fr):=by
 have hlt:=zk8 h;simp only[hp] at h;simp only[World.setCell,z19];congr 1;apply Array.ext_getElem?;intro i;rw[Array.getElem?_modify];by_cases hi:b=i
 . subst hi;rw[if_pos rfl,h,Array.getElem?_setIfInBounds_self_of_lt hlt];rfl
 . rw[if_neg hi,Array.getElem?_setIfInBounds_ne hi]
theorem zoq {b:Nat}{o o':Obj}:z19 (z19 w b o) b o'=z19 w b o':=by
 simp[z19]
theorem z2w {b:Nat}{E:TypeId}{fr:Nat×Nat}:∀ (d:List Value) (i off:Nat) (cs:Array Value) (w:World) (c0 c1 c2:List Value),
 hp w b=some (.cells cs E fr)->Free cs fr->cs.toList=c0++(c1++c2)->c0.length=off+i->c1.length=d.length->(∀ v∈d,v.oneCell'=true) →
 ∃ w' cs',(storeCells ⟨b,off,none⟩ d i).run P w=.ok () w'/\cs'.toList=c0++(d++c2)/\w'=z19 w b (.cells cs' E fr)
 | [],i,off,cs,w,c0,c1,c2,h,hf,e,h0,h1,ho=>by
   have:c1=[]:=by cases c1<;>simp_all
   subst this;refine⟨w,cs,rfl,e,?_⟩;have hlt:=zk8 h;simp only[hp] at h;simp only[z19];have:w.heap.setIfInBounds b (.cells cs E fr)=w.heap:=by
    apply Array.ext_getElem?;intro j;by_cases hj:b=j
    . subst hj;rw[Array.getElem?_setIfInBounds_self_of_lt hlt,h]
    . rw[Array.getElem?_setIfInBounds_ne hj]
   rw[this]
 | v :: d,i,off,cs,w,c0,c1,c2,h,hf,e,h0,h1,ho=>by
   obtain⟨x,c1,rfl⟩:∃ x c1',c1=x::c1':=by cases c1<;>simp_all
   have hsz:off+i<cs.size:=by
    have:=congrArg List.length e;simp at this;omega
   have hcell:w.cell? ⟨b,off+i,none⟩=some x:=z8r (c1:=x::c1) (j:=0) ⟨cs,E,fr,c0,c2,h,e,h0⟩ rfl;have hfr:w.frozen? ⟨b,off+i,none⟩=false:=by
    simp only[hp] at h;have:=hf.2 (off+i) hsz;simp only[World.frozen?,h];rw[Bool.and_eq_false_iff];simp only[decide_eq_false_iff_not];omega
   have hset:(cs.setIfInBounds (off+i) v).toList=(c0++[v])++(c1++c2):=by
    rw[Array.toList_setIfInBounds,e,<- h0,List.set_append_right _ _ (Nat.le_refl _)];simp
   have hw':hp (z19 w b (.cells (cs.setIfInBounds (off+i) v) E fr)) b=some (.cells (cs.setIfInBounds (off+i) v) E fr):=z1y h;obtain⟨w',cs',hrun,hcs,hw⟩:=z2w d (i+1) off _ _ (c0++[v]) c1 c2 hw' ⟨hf.1,by intro j hj;exact hf.2 j (by simpa using hj)⟩ hset (by simp;omega) (by simpa using h1) (fun u hu=>ho u (by simp[hu]));refine⟨w',cs',?_,by simpa using hcs,by rw[hw,zoq]⟩;simp only[storeCells,Sem.run_bind,z65];rw[run_store P w _ v .plain (ho v (by simp)),hcell];simp only[hfr,Bool.false_eq_true,if_false,Result.andThen_ok];rw[zhy v h];exact hrun
theorem z40 {i:TypeId}{inf:TypeInfo}(h:P.info? i=some inf):(typeInfo i).run P w=.ok inf w:=by
 simp[typeInfo,h]
theorem z13 {i:TypeId}{e:TyI}(h:TyOk P i e):(sizeOf i).run P w=.ok e.size w:=by
 obtain⟨inf,hi,hs,_⟩:=h.info;simp[sizeOf,z40 hi,hs]
theorem z5u {i:TypeId}{e:TyI}(h:TyOk P i e):(isAgg i).run P w=.ok e.t.isAgg w:=by
 rw[<- h.agg];simp only[isAgg,Sem.run_bind,run_underlying h.und,Result.andThen_ok];cases e.desc<;>rfl
theorem z58 {i:TypeId}{e:TyI}(h:TyOk P i e):∃ z,(zeroValue i).run P w=.ok z w/\VR z1a5 e.t e.zero z:=by
 obtain⟨inf,hi,hs,hb,z,hz,hv⟩:=h.info;exact⟨z,by simp[zeroValue,z40 hi,hz],hv⟩
theorem zc3 (S:Hp):Sub z1a5 S:=fun _ _ h=>by simp[z1a5] at h
theorem zfv {i:TypeId}{e:TyI}(h:TyOk P i e){S:Hp}{b off:Nat}{c1:List Value}{x:e.t.den}(hl:Lies (hp w) b off c1)(hr:Rd S e.t x c1) :
 ∃ v,(loadVar i ⟨b,off,none⟩).run P w=.ok v w/\VR S e.t x v:=by
 have hlen:=hr.length;cases ha:e.t.isAgg with
 | true =>
   refine⟨.agg c1.toArray,?_,VR.of_agg ha (by simpa using hr)⟩;simp only[loadVar,Sem.run_bind,z5u h,ha,Result.andThen_ok,if_true,z13 h];rw[<- h.size,<- hlen,z2g hl];rfl
 | false =>
   have hsz:e.t.size=1:=by cases ht:e.t<;>simp_all [T.isAgg,T.size]
   obtain⟨v,rfl⟩:∃ v,c1=[v]:=by
    match c1,hlen with
    | [v],_=>exact⟨v,rfl⟩
    | [],hl=>simp[hsz] at hl
    | _::_::_,hl=>simp[hsz] at hl
   refine⟨v,?_,VR.of_one ha hr⟩;have:=z8r hl (j:=0) rfl;simp only[loadVar,Sem.run_bind,z5u h,ha,Result.andThen_ok,Bool.false_eq_true,if_false,run_load];rw[show (⟨b,off,none⟩:Addr)=⟨b,off+0,none⟩ from rfl,this]
theorem ziv {i:TypeId}{e:TyI}(h:TyOk P i e){S:Hp}{b off:Nat}{cs:Array Value}{E:TypeId}{fr:Nat×Nat}{c0 c1 c2:List Value}{x:e.t.den}{v:Value}
 (hb:hp w b=some (.cells cs E fr)) (hf:Free cs fr) (hc:cs.toList=c0++(c1++c2)) (h0:c0.length=off) (h1:c1.length=e.t.size) (hv:VR S e.t x v) :
 ∃ w' cs',(storeVar i ⟨b,off,none⟩ v).run P w=.ok () w'/\cs'.toList=c0++(v.cells.toList++c2)/\w'=z19 w b (.cells cs' E fr):=by
 have hr:=hv.cells;have hlen:=hr.length;obtain⟨w',cs',hrun,hcs,hw⟩:=z2w (P:=P) v.cells.toList 0 off cs w c0 c1 c2 hb hf hc (by simpa using h0) (by rw[h1,hlen]) hr.ones;refine⟨w',cs',?_,hcs,hw⟩;have:v.cells.size=e.size:=by rw[<- h.size,<- hlen];simp
 simp only[storeVar,Sem.run_bind,z13 h,Result.andThen_ok,this,ne_eq,not_true_eq_false,if_false];exact hrun
end
end
end Go.Lift
