import Derived.Test.YthgcpalmjcomlaaDoorLgPrRb4
set_option linter.all false
set_option maxRecDepth 100000
namespace Go.Lift
noncomputable section
structure NSt (w0:World) (S0:Hp) (w:World) (S:Hp) (L:List (Nat×Array Value×Nat)):Prop where
 wf:WF w0 (fun _=>False) w
 sub:Sub S0 S
 inw:Sub S (hp w)
 new:∀ k,S k≠none->S0 k≠none\/w0.heap.size<=k
 own:∀ p∈L,S p.1=none/\w0.heap.size<=p.1/\w.heap[p.1]?=some (.cells p.2.1 p.2.2 (0,0))
variable {P:Program} {glob:Nat->Option Dat} {w0 w:World} {S0 S:Hp} {L:List (Nat×Array Value×Nat)}
theorem NSt.start (hS:Sub S0 (hp w)):NSt w S0 w S0 []:=⟨WF.refl _ _,Sub.refl _,hS,fun _ h=>.inl h,fun p hp=>by cases hp⟩
theorem NSt.lt (h:NSt w0 S0 w S L):∀ p∈L,p.1<w.heap.size:=fun p hp=>(Array.getElem?_eq_some_iff.1 (h.own p hp).2.2).1
theorem NSt.drew (h:NSt w0 S0 w S L):NSt w0 S0 w.drew S L:=⟨⟨h.wf.size,h.wf.same,h.wf.tape,h.wf.os,h.wf.output⟩,h.sub,h.inw,h.new,h.own⟩
theorem NSt.swap {L':List (Nat×Array Value×Nat)}(h:NSt w0 S0 w S L)(hm:∀ p∈L',p∈L):NSt w0 S0 w S L':=⟨h.wf,h.sub,h.inw,h.new,fun p hp=>h.own p (hm p hp)⟩
theorem NSt.cell (h:NSt w0 S0 w S L){p:Nat}{cs:Array Value}{E i:Nat}{v:Value}(hm:(p,cs,E)∈L)(hi:cs[i]?=some v):w.cell? ⟨p,i,none⟩=some v:=by
 have:=(h.own _ hm).2.2;simp only at this;simp[World.cell?,this,hi]
theorem NSt.free (h:NSt w0 S0 w S L){p:Nat}{cs:Array Value}{E i:Nat}(hm:(p,cs,E)∈L):w.frozen? ⟨p,i,none⟩=false:=by
 have:=(h.own _ hm).2.2;simp only at this;simp[World.frozen?,this]
theorem NSt.alloc (h:NSt w0 S0 w S L) (cs:Array Value) (E:Nat):NSt w0 S0 (w.alloc (.cells cs E)) S ((w.heap.size,cs,E)::L):=by
 have hlt:=h.lt;have hh:(w.alloc (.cells cs E)).heap=w.heap.push (.cells cs E (0,0)):=rfl;have hk:∀ k,k<w.heap.size->(w.alloc (.cells cs E)).heap[k]?=w.heap[k]?:=fun k hk=>by
  rw[hh,Array.getElem?_push,if_neg (by omega)]
 refine⟨⟨by rw[hh,Array.size_push];have:=h.wf.size;omega,fun k h1' h2'=>by rw[hk k (by have:=h.wf.size;omega)];exact h.wf.same k h1' h2',h.wf.tape,h.wf.os,h.wf.output⟩,h.sub,fun k q ho=>?_,h.new,fun p hpm=>?_⟩
 . have:=h.inw k q ho;simp only[hp] at this ⊢;rw[hk k (Array.getElem?_eq_some_iff.1 this).1];exact this
 . rcases List.mem_cons.1 hpm with rfl|hpm
   . refine⟨?_,h.wf.size,?_⟩
     . cases hs:S w.heap.size with
       | none=>rfl
       | some q =>
         have:=h.inw _ _ hs;simp only[hp] at this;have:=(Array.getElem?_eq_some_iff.1 this).1;omega
     . simp only;rw[hh,Array.getElem?_push,if_pos rfl]
   . obtain⟨p1,p3,p4⟩:=h.own p hpm;exact⟨p1,p3,by rw[hk p.1 (hlt p hpm)];exact p4⟩
theorem NSt.set {p:Nat}{cs:Array Value}{E:Nat}(h:NSt w0 S0 w S ((p,cs,E)::L))(hd:∀ q∈L,q.1≠p)(i:Nat)(v:Value) :
 NSt w0 S0 (w.setCell ⟨p,i,none⟩ v) S ((p,cs.setIfInBounds i v,E)::L):=by
 obtain⟨q1,q3,q4⟩:=h.own (p,cs,E) (List.mem_cons_self ..);simp only at q1 q3 q4;have hw:=zkl (off:=i) v (show hp w p=some (.cells cs E (0,0)) from q4);obtain⟨w',hw'⟩:∃ w',w'=w.setCell ⟨p,i,none⟩ v:=⟨_,rfl⟩
 rw[<- hw'] at hw ⊢;have hne:∀ k,k≠p->w'.heap[k]?=w.heap[k]?:=fun k hk=>by
  have:=zj (w:=w) (o:=.cells (cs.setIfInBounds i v) E (0,0)) hk;rw[hw];exact this
 have hsz:w'.heap.size=w.heap.size:=by rw[hw];simp[z1h]
 refine⟨⟨by rw[hsz];exact h.wf.size,fun k h1' h2'=>by rw[hne k (by omega)];exact h.wf.same k h1' h2',by rw[hw];exact h.wf.tape,by rw[hw];exact h.wf.os,by rw[hw];exact h.wf.output⟩,h.sub,fun k q ho=>?_,h.new,fun u hu=>?_⟩
 . have hk:k≠p:=fun e=>by rw[e,q1] at ho;cases ho
   have:=h.inw k q ho;simp only[hp] at this ⊢;rw[hne k hk];exact this
 . rcases List.mem_cons.1 hu with rfl|hu
   . refine⟨q1,q3,?_⟩;rw[hw];exact z2m q4
   . obtain⟨p1,p3,p4⟩:=h.own u (List.mem_cons_of_mem _ hu);exact⟨p1,p3,by rw[hne u.1 (hd u hu)];exact p4⟩
theorem NSt.plain {f:FuncId}{g:List A->Res}(ct:Contract P glob f g)(hg:GlobOk glob S)(h:NSt w0 S0 w S L){args:List A}{vals:List Value}
 (hrel:ArgsRel (hp w) S args vals (fun _=>[])) {y:(g args).X} (hy:(g args).val=some y) :
 Calls P f vals.toArray w fun e w'=>∃ v S' o',e=.returned v/\ARel (hp w') S' (fun _=>undef) ((g args).out y).1 v o'/\Sub S S'/\NSt w0 S0 w' S' L:=by
 refine ((ct.2 w S args vals _ hrel h.inw hg y hy)).mono ?_;rintro e w' ⟨v,S',q,ob',rfl,hwf,hSS,hSw,hnew,⟨hr,_⟩,_⟩;refine⟨v,S',q,rfl,hr,hSS,?_⟩;have hwf':WF w (fun _=>False) w':=⟨hwf.size,fun k hk _=>hwf.same k hk (by rintro⟨i,hi⟩;cases hi),hwf.tape,hwf.os,hwf.output⟩
 have hnw:∀ k,k<w.heap.size->S' k≠none->S k≠none:=fun k hk hs=>by
  rcases hnew k hs with h|⟨i,hi⟩|h
  . exact h
  . cases hi
  . omega
 refine⟨h.wf.trans hwf' (fun _ h=>h.elim),h.sub.trans hSS,hSw,fun k hk=>?_,fun p hp=>?_⟩
 . rcases hnew k hk with h'|⟨i,hi⟩|h'
   . exact h.new k h'
   . cases hi
   . exact .inr (Nat.le_trans h.wf.size h')
 . obtain⟨p1,p3,p4⟩:=h.own p hp;have hl:=(Array.getElem?_eq_some_iff.1 p4).1;refine⟨?_,p3,?_⟩
   . cases hs:S' p.1 with
     | none=>rfl
     | some q=>exact absurd p1 (hnw _ hl (by rw[hs];simp))
   . rw[hwf'.same p.1 hl (fun h=>h)];exact p4
theorem NSt.ends {args outs:List A}{vals:List Value}{ob:Nat->List Nat}{r:A}{v:Value}(h:NSt w0 S0 w S L)(hob:∀ i,ob i=[])(hargs:∀ y∈args,zbm y=false)
 (hr:ARel (hp w) S (fun _=>undef) r v []) (hrr:r.refs=[]):Ends w0 S0 args vals ob r outs (.returned v) w:=by
 refine⟨v,S,[],fun _=>[],rfl,⟨h.wf.size,fun k hk _=>h.wf.same k hk (fun h=>h),h.wf.tape,h.wf.os,h.wf.output⟩,h.sub,h.inw,fun k hk=>?_,⟨hr,hrr⟩,(fun k hk=>by cases hk),.nil,fun i y hy hbx=>?_,(fun i k hk=>by cases hk),(fun i j k hi=>by cases hi),fun i=>.nil,fun i hi=>rfl⟩
 . rcases h.new k hk with h|h
   . exact .inl h
   . exact .inr (.inr h)
 . have:=hargs y (List.mem_of_getElem? hy);rw[hbx] at this;cases this
end
end Go.Lift
