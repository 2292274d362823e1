import Derived.Test.YtlhdohlpilippaaDoorLgMb
import Derived.Test.YtlhdohlpilippaaDoorLgMa
set_option linter.unusedSimpArgs false
set_option linter.unusedVariables false
set_option linter.all false
namespace Go.Lift
noncomputable section
section
variable {P:Program} {E:Env} {c:Ctx} {st st':List A} {fp fp':FP} {a:Act} {w w':World} {S:Hp} {ob:Nat->List Nat} {o:Oper}
theorem z68 {b:List (Nat×Nat)}{ob:Nat->List Nat}{i k:Nat}(h:k∈obA b ob i):∃ p∈b,p.2=i/\k∈ob p.1:=by
 unfold obA at h;cases hf:b.find? (fun p=>Nat.beq p.2 i) with
 | none=>rw[hf] at h;simp at h
 | some p =>
   rw[hf] at h;exact⟨p,List.mem_of_find?_eq_some hf,z3x (by simpa using List.find?_some (p:=fun (p:Nat×Nat)=>Nat.beq p.2 i) hf),h⟩
theorem z12f {b:List (Nat×Nat)}{ob:Nat->List Nat}{i:Nat}(h:b.find? (fun p=>Nat.beq p.2 i)=none):obA b ob i=[]:=by unfold obA;rw[h]
theorem zc0:∀ {b:List (Nat×Nat)} {p q:Nat×Nat},b.Pairwise (fun p q=>p.1≠q.1)->p∈b->q∈b->p.1=q.1->p=q
 | [],_,_,_,h,_,_=>by cases h
 | x :: b,p,q,.cons hx hb,hp,hq,e=>by
   rcases List.mem_cons.1 hp with hpx|hpb
   . rcases List.mem_cons.1 hq with hqx|hqb
     . rw[hpx,hqx]
     . rw[hpx] at e;exact absurd e (hx q hqb)
   . rcases List.mem_cons.1 hq with hqx|hqb
     . rw[hqx] at e;exact absurd e.symm (hx p hpb)
     . exact zc0 hb hpb hqb e
theorem zz2 {b:List (Nat×Nat)}(hnd:b.Pairwise (fun p q=>p.1≠q.1)){p:Nat×Nat}(hp:p∈b)(ob' ob:Nat->List Nat):obB b ob' ob p.1=ob' p.2:=by
 unfold obB;cases hf:b.find? (fun q=>Nat.beq q.1 p.1) with
 | none =>
   rw[List.find?_eq_none] at hf;have:=hf p hp;simp[Nat.beq_refl] at this
 | some q =>
   have hq:=List.mem_of_find?_eq_some hf;have hqe:q.1=p.1:=z3x (by simpa using List.find?_some (p:=fun (q:Nat×Nat)=>Nat.beq q.1 p.1) hf);have:=zc0 hnd hq hp hqe;subst this;rfl
theorem zgy {b:List (Nat×Nat)}{i:Nat}(hi:∀ p∈b,p.1≠i)(ob' ob:Nat->List Nat):obB b ob' ob i=ob i:=by
 unfold obB;have hf:b.find? (fun q=>Nat.beq q.1 i)=none:=by
  rw[List.find?_eq_none];intro q hq h;exact hi q hq (z3x (by simpa using h))
 rw[hf]
theorem zm2 {f:FuncId} {xs:List Operand} {xt:List Nat} {xa:List A} {cs:List Value} {X:(Ending->World->Prop)->Prop} (hX:∀ R R':Ending->World->Prop,(∀ e w',R e w'->R' e w')->X R->X R')
 (hxa:∀ st S' j,Sub S S'->ArgsL a st S' j xa cs [])
 (hcon:∀ (S1:Hp) (l:List A) (ob1:Nat->List Nat),ArgsRel (hp w) S1 l ((xs.map a.eval++xt.map (tv a))++cs) ob1->Sub S1 (hp w)->GlobOk E.glob S1->∀ y,(E.fn f l).val=some y →
  X fun e w'=>Ends w S1 l ((xs.map a.eval++xt.map (tv a))++cs) ob1 ((E.fn f l).out y).1 ((E.fn f l).out y).2 e w')
 (h:zn E (zm3 E f xs xt xa o.dst) st fp=some ((),st',fp')) (hb:Base P E c) (hs:SimD c st a w S ob):X fun e w'=>∃ v,e=.returned v/\Sim c st' (a.put o.dst v) w':=by
 unfold zm3 at h;obtain⟨l0,b,st1,fp1,S1,ob1,h1,hs1,hev,hl0⟩:=zhn hb xt _ _ _ _ _ _ _ h hs;clear h;have hl:=hl0.append (fun j=>hxa st1 S1 j hev);have eapp:l0.append xa=l0++xa:=rfl;rw[eapp] at h1;generalize l0++xa=l at h1 hl;generalize (xs.map a.eval++xt.map (tv a))++cs=vals at hl hcon;split at h1
 . rename_i hnd;obtain⟨y,hy,h2⟩:=z5z h1;clear h1;split at h2
   . rename_i hres;obtain⟨fp2,h3,hbox⟩:=zs1 b _ _ _ h2;clear h2;have hnd':=zll hnd;obtain⟨hlen,hpl,hrel,hback⟩:=hl.places
     -- the arguments fit the contract
     have hargs:ArgsRel (hp w) S1 l vals (obA b ob1):=by
      refine⟨hlen,?_,?_,?_,?_,?_⟩
      . intro i x hx;obtain⟨v,hv,hxr,hcase⟩:=hrel i x hx;refine⟨⟨v,hv,?_⟩,hxr⟩;rw[Nat.zero_add] at hcase;rcases hcase with⟨s,t,z,rfl,rfl,hst,hfind⟩|⟨_,hfind,har⟩
        . have e:obA b ob1 i=ob1 s:=by unfold obA;rw[hfind]
          rw[e];exact (hs1.rel s _ hst).mono (Sub.refl _) (fun _ _=>rfl) (fun r hr=>by simp[A.refs] at hr)
        . rw[z12f hfind];exact har _ _
      . intro i hi;cases ho:obA b ob1 i with
        | nil=>rfl
        | cons k ks =>
          obtain⟨p,hp',hpi,_⟩:=z68 (b:=b) (ob:=ob1) (i:=i) (k:=k) (by rw[ho];simp);have:=(hpl p hp').2;omega
      . intro i j k hi hj;obtain⟨p,hp',hpi,hpk⟩:=z68 hi;obtain⟨q,hq',hqj,hqk⟩:=z68 hj;have hpq:=hs1.inj _ _ _ hpk hqk;have:p=q:=zc0 hnd' hp' hq' hpq;rw[<- hpi,<- hqj,this]
      . intro i;unfold obA;split
        . exact hs1.nd _
        . exact .nil
      . intro i k hi;obtain⟨p,hp',hpi,hpk⟩:=z68 hi;exact hs1.hid _ _ hpk
     have hcalls:=hcon S1 l (obA b ob1) hargs hs1.sub (hb.globS hs1) y hy;refine hX _ _ ?_ hcalls;rintro e w' ⟨v,S2,o',ob',rfl,hwf,hS12,hS2w,hnew,⟨hres1,hres2⟩,hfresh,hnd0,houts,hob',hinj',hnd2,_⟩;refine⟨v,rfl,?_⟩
     -- the callee's boxes hold what it says;all else is as it was
     have hob_lt:∀ {i k:Nat},k∈ob1 i->k<w.heap.size:=fun hk=>by
      obtain⟨_,_,o2,ho2⟩:=hs1.ob_some hk;exact z5w ho2
     have hlow:∀ {k:Nat},k∈(∅:List Nat)->False:=fun h=>by cases h
     have hA1:∀ {j k:Nat},k∈obA b ob1 j->∃ p∈b,p.2=j/\k∈ob1 p.1:=fun h=>z68 h
     -- what no handed box has is as it was
     have hsame:∀ k,k<w.heap.size->(∀ p∈b,k∉ob1 p.1)->hp w' k=hp w k:=by
      intro k hk hno;have:=hwf.same k hk (by rintro⟨j,hj⟩;obtain⟨p,hp',_,hpk⟩:=z68 hj;exact hno p hp' hpk);simpa[hp] using this
     have hnotS:∀ k,k<w.heap.size->S1 k=none->(∀ p∈b,k∉ob1 p.1)->S2 k=none:=by
      intro k hk h0 hno;cases hS2:S2 k with
      | none=>rfl
      | some o2 =>
        rcases hnew k (by rw[hS2];simp) with h|⟨j,hj⟩|h
        . exact absurd h0 h
        . obtain⟨p,hp',_,hpk⟩:=z68 hj;exact absurd hpk (hno p hp')
        . omega
     have hcase:∀ i,(∃ p∈b,p.1=i)\/∀ p∈b,p.1≠i:=fun i=>by
      by_cases h:∃ p∈b,p.1=i
      . exact .inl h
      . exact .inr fun p hp' e=>h ⟨p,hp',e⟩
     have hoth:∀ i,(∀ p∈b,p.1≠i)->∀ k∈ob1 i,∀ p∈b,k∉ob1 p.1:=fun i hi k hk p hp' hpk=>hi p hp' (hs1.inj _ _ _ hpk hk)
     have hmemB:∀ i k,k∈obB b ob' ob1 i->(∃ p∈b,p.1=i/\k∈ob' p.2)\/((∀ p∈b,p.1≠i)/\k∈ob1 i):=by
      intro i k hk;rcases hcase i with⟨p,hp',rfl⟩|hi
      . rw[zz2 hnd' hp'] at hk;exact .inl ⟨p,hp',rfl,hk⟩
      . rw[zgy hi] at hk;exact .inr ⟨hi,hk⟩
     have hltb:∀ p∈b,p.1<st1.length:=by
      intro p hp';obtain⟨t,z,hst,_,_⟩:=hback p hp';rcases Nat.lt_or_ge p.1 st1.length with h|h
      . exact h
      . simp[List.getElem?_eq_none h] at hst
     -- two entries of one place
     have hplace:∀ (i:Nat) (l:List A) (vs:List Value) (b:List (Nat×Nat)),ArgsL a st1 S1 i l vs b->∀ q∈b,∀ q'∈b,q.2=q'.2->q=q':=by
      intro i l vs b hA
      induction hA with
      | nil=>intro q hq;cases hq
      | v _ _ ih=>exact ih
      | nilsl _ ih=>exact ih
      | @box i s t x l vs b hs' hA' ih =>
        intro q hq q' hq' e;have hpl3:=hA'.places.2.1;rcases List.mem_cons.1 hq with rfl|hq
        . rcases List.mem_cons.1 hq' with rfl|hq'
          . rfl
          . have:=hpl3 q' hq';simp at e;omega
        . rcases List.mem_cons.1 hq' with rfl|hq'
          . have:=hpl3 q hq;simp at e;omega
          . exact ih q hq q' hq' e
     have hsim : SimD c (z3y ((E.fn f l).out y).2 b st1) a w' S2 (obB b ob' ob1):=by
      refine⟨hs1.defers.turn fun D h1 h2 h3 h4=>⟨?_,?_,fun i hi=>?_⟩,by rw[z4g];exact hs1.size,?_,?_,fun i hi=>?_,?_,fun i=>?_,?_,hS2w,hs1.mono.trans hS12,?_,?_,hs1.lent,hs1.frame.trans hwf ?_⟩
      . rw[hsame D (z5w h1) (fun p _=>h3 p.1)];exact h1
      . exact hnotS D (z5w h1) h2 (fun p _=>h3 p.1)
      . rcases hmemB i D hi with⟨p,hp',_,hk⟩|⟨_,hk⟩
        . rcases (hob' p.2 D hk).1 with⟨_,h⟩|h
          . obtain⟨q,_,_,hq⟩:=z68 h;exact h3 _ hq
          . have:=z5w h1;omega
        . exact h3 i hk
      . intro i x hx;rcases hcase i with⟨p,hp',rfl⟩|hi
        . obtain⟨t,z,hst,hlp,hvp⟩:=hback p hp';rw[za9 _ _ _ _ hnd' hp' (hltb p hp') hbox] at hx;simp only[Option.some.injEq] at hx;rw[Nat.sub_zero] at hlp hvp;obtain⟨x',v',hx',hv',_,hrel'⟩:=houts p.2 _ hlp rfl;rw[hvp] at hv';simp only[Option.some.injEq] at hv';subst hv';have:((E.fn f l).out y).2.getD p.2 .dead=x':=by simp[List.getD,hx']
          rw[this] at hx;subst hx;rw[zz2 hnd' hp'];obtain⟨t',z',hbx⟩:=hbox p hp';rw[this] at hbx;subst hbx;exact hrel'.mono (Sub.refl _) (fun _ _=>rfl) (fun r hr=>by simp[A.refs] at hr)
        . rw[zgy hi];rcases z50 _ _ _ _ _ hi hx with⟨hx,hcel⟩|⟨rfl,z,hz,hzo⟩
          . refine (hs1.rel i x hx).mono hS12 (fun k hk=>hsame k (hob_lt hk) (hoth i hi k hk)) (fun _ _=>rfl) (fun r hr k hk=>?_);have hm:=hs1.main hx (A.cell_refs hr) hk;exact hsame k (hob_lt hm) (hoth r (fun p hp' e=>hcel p hp' (by rw[e];exact hr)) k hm)
          . exact (hs1.rel i z hz).nil_of_not_own hzo
      . intro i x r hx hr;have hown:∀ r:Nat,(∃ z:A,st1[r]?=some z/\z.own=true)->∃ z:A,(z3y ((E.fn f l).out y).2 b st1)[r]?=some z/\z.own=true:=by
         intro r ⟨z,hz,hzo⟩;rcases hcase r with⟨p,hp',rfl⟩|hi
         . obtain⟨t',z',hbx⟩:=hbox p hp';exact⟨_,za9 _ _ _ _ hnd' hp' (hltb p hp') hbox,by rw[hbx];rfl⟩
         . have hlt:r<(z3y ((E.fn f l).out y).2 b st1).length:=by
            rw[z4g];rcases Nat.lt_or_ge r st1.length with h|h
            . exact h
            . simp[List.getElem?_eq_none h] at hz
           have hat:=List.getElem?_eq_getElem hlt;rcases z50 _ _ _ _ _ hi hat with⟨h1,_⟩|⟨_,z',hz',hzo'⟩
           . rw[hz] at h1;exact⟨_,hat,by rw[<- Option.some.inj h1];exact hzo⟩
           . rw[hz] at hz';cases hz';rw[hzo] at hzo';cases hzo'
        rcases hcase i with⟨p,hp',rfl⟩|hi
        . rw[za9 _ _ _ _ hnd' hp' (hltb p hp') hbox] at hx;obtain⟨t',z',hbx⟩:=hbox p hp';rw[hbx] at hx;simp at hx;subst hx;simp[A.refs] at hr
        . rcases z50 _ _ _ _ _ hi hx with⟨hx,_⟩|⟨rfl,_⟩
          . exact hown r (hs1.refs i x r hx hr)
          . simp[A.refs] at hr
      . rw[z4g] at hi;rcases hcase i with⟨p,hp',rfl⟩|hi'
        . have:=hltb p hp';omega
        . rw[zgy hi'];exact hs1.out i hi
      . intro i j k hi hj;rcases hmemB i k hi with⟨p,hp',rfl,hk⟩|⟨hni,hk⟩<;>rcases hmemB j k hj with⟨q,hq',rfl,hk2⟩|⟨hnj,hk2⟩
        . have:=hinj' _ _ _ hk hk2;rw[hplace _ _ _ _ hl p hp' q hq' this]
        . rcases (hob' p.2 k hk).1 with⟨_,h⟩|h
          . obtain⟨q,hq',_,hqk⟩:=z68 h;exact absurd hqk (hoth j hnj k hk2 q hq')
          . have:=hob_lt hk2;omega
        . rcases (hob' q.2 k hk2).1 with⟨_,h⟩|h
          . obtain⟨p,hp',_,hpk⟩:=z68 h;exact absurd hpk (hoth i hni k hk p hp')
          . have:=hob_lt hk;omega
        . exact hs1.inj i j k hk hk2
      . rcases hcase i with⟨p,hp',rfl⟩|hi
        . rw[zz2 hnd' hp'];exact hnd2 _
        . rw[zgy hi];exact hs1.nd i
      . intro i k hk;rcases hmemB i k hk with⟨p,hp',_,hk⟩|⟨hi,hk⟩
        . exact (hob' p.2 k hk).2.1
        . exact hnotS k (hob_lt hk) (hs1.hid i k hk) (hoth i hi k hk)
      . intro i k hk;rcases hmemB i k hk with⟨p,hp',_,hk⟩|⟨hi,hk⟩
        . rcases (hob' p.2 k hk).1 with⟨_,h⟩|h
          . obtain⟨q,_,_,hq⟩:=z68 h;exact hs1.fresh _ _ hq
          . exact .inr (Nat.le_trans hs1.frame.size h)
        . exact hs1.fresh i k hk
      . intro k hk;rcases hnew k hk with h|⟨j,hj⟩|h
        . exact hs1.newS k h
        . obtain⟨p,_,_,hpk⟩:=z68 hj;exact .inr (hs1.fresh _ _ hpk)
        . exact .inr (.inr (Nat.le_trans hs1.frame.size h))
      . rintro k ⟨j,hj⟩;obtain⟨p,_,_,hpk⟩:=z68 hj;exact hs1.fresh _ _ hpk
     refine z11 h3 hb hsim (hres1.mono (Sub.refl _) (fun _ _=>rfl) (fun r hr=>by rw[hres2] at hr;cases hr) (fun r hr=>by have:=A.cell_refs hr;rw[hres2] at this;cases this)) (fun k hk=>⟨fun i hi=>?_,(hfresh k hk).1,?_⟩) hnd0
     rotate_left
     . rcases (hfresh k hk).2 with⟨j,hj⟩|h
       . obtain⟨p,_,_,hpk⟩:=z68 hj;exact hs1.fresh _ _ hpk
       . exact .inr (Nat.le_trans hs1.frame.size h)
     rcases hmemB i k hi with⟨p,hp',_,hk2⟩|⟨hni,hk2⟩
     . exact (hob' p.2 k hk2).2.2 hk
     . rcases (hfresh k hk).2 with⟨j,hj⟩|h
       . obtain⟨q,hq',_,hqk⟩:=z68 hj;exact hoth i (by assumption) k hk2 q hq' hqk
       . have:=hob_lt hk2;omega
   . exact (z6 h2).elim
 . exact (z6 h1).elim
theorem zch {f:FuncId}{xs:List Operand}{xt:List Nat}{xa:List A}{cs:List Value}(hxa:∀ st S' j,Sub S S'->ArgsL a st S' j xa cs [])
 (hrun' : (∃ fn, P.funcs[f]? = some fn /\ fn.body.isSome = true /\ fn.name ≠ "runtime.NumGoroutine") -> (execOp a.eval o).run P w = .ok (.enter f ((xs.map a.eval ++ xt.map (tv a)) ++ cs).toArray) w)
 (h:zn E (zm3 E f xs xt xa o.dst) st fp=some ((),st',fp')) (hb:Base P E c) (hs:SimD c st a w S ob):Good P c o a w st':=by
 rcases hb.env.fn f with hno|⟨hfn,hcon⟩
 . have:=zm2 (X:=fun _=>False) (fun _ _ _ h=>h) hxa (fun S1 l ob1 _ _ _ y hy=>by rw[hno] at hy;cases hy) h hb hs;exact this.elim
 . intro Q;simp only[Oper.wp,hrun' hfn,Oper.upon_enter];have:=zm2 (X:=fun R=>Calls P f ((xs.map a.eval++xt.map (tv a))++cs).toArray w R) (fun R R' hr hc=>hc.mono hr) hxa (fun S1 l ob1 h1 h2 h3 y hy=>hcon w S1 l _ ob1 h1 h2 h3 y hy) h hb hs;refine this.mono ?_;rintro e w' ⟨v,rfl,hsim⟩;exact hsim
theorem zte {t:T}(h:zp8 t=true){S S0:Hp}{x:t.den}{v:Value}(hv:VR S t x v):VR S0 t x v:=by
 cases t with
 | arr n u =>
   cases u with
   | int k=>exact hv
   | _=>simp[zp8] at h
 | _=>simp[zp8] at h<;>exact hv
theorem zvo {S S0:Hp}:∀ {l:List Dat} {vs:List Value},(l.all fun d=>zp8 d.1)=true->TupRel S l vs->TupRel S0 l vs
 | [],_,_,.nil=>.nil
 | d::l,_,h,.cons hv hs=>by
   simp only[List.all_cons,Bool.and_eq_true] at h;exact .cons (zte h.1 hv) (zvo h.2 hs)
theorem zle {α:Type}{r:α×List A×FP}(hb:Base P E c)(hs:SimD c st a w S ob):∀ (xs:List Operand) (i:Nat) (k:List A->Cmd α) (fp:FP),zn E (zwm E xs k) st fp=some r →
 ∃ l fp',zn E (k l) st fp'=some r/\ArgsL a st (hp w) i l (xs.map a.eval) []
 | [],i,k,fp,h=>⟨[],fp,h,.nil⟩
 | x :: xs,i,k,fp,h=>by
   simp only[zwm] at h;obtain⟨A,fp1,h1,hA,hAo,hAd,hAr⟩:=zw h hs (hb.globS hs);have zj8:∀ k':Dat->Cmd α,zn E (zr0 A k') st fp1=some r->(∀ d,k' d=zwm E xs fun l=>k (.v d.1 d.2::l))->∃ l fp',zn E (k l) st fp'=some r/\ArgsL a st (hp w) i l ((x::xs).map a.eval) []:=by
    intro k' h2 he;obtain⟨d,fp2,h3,hv⟩:=zlq h2 hs hA;rw[he] at h3;obtain⟨l,fp3,h4,hl⟩:=zle hb hs xs (i+1) _ _ h3;exact⟨_,fp3,h4,.v hv hl⟩
   split at h1
   . obtain⟨l,fp3,h4,hl⟩:=zle hb hs xs (i+1) _ _ h1;refine⟨_,fp3,h4,?_⟩;rw[List.map_cons,hA.1];exact .nilsl hl
   . exact zj8 _ h1 fun _=>rfl
theorem zyt {f : FuncId} {xs : List Operand} (henter : (∃ fn, P.funcs[f]? = some fn /\ fn.body.isSome = true /\ fn.name ≠ "runtime.NumGoroutine") -> (execOp a.eval o).run P w = .ok (.enter f (xs.map a.eval).toArray) w)
 (h:zn E (zou E f xs o.dst) st fp=some ((),st',fp')) (hb:Base P E c) (hs:SimD c st a w S ob):Good P c o a w st':=by
 unfold zou at h;obtain⟨l,fp1,h1,hl⟩:=zle hb hs _ 0 _ _ h;obtain⟨y,hy,h2⟩:=z5z h1;split at h2
 . rename_i hf;rcases hb.env.fn f with hno|⟨hfn,hcon⟩
   . rw[hno] at hy;cases hy
   obtain⟨hlen,_,hrel,_⟩:=hl.places;have hargs:ArgsRel (hp w) (hp w) l (xs.map a.eval) (fun _=>[]):=by
    refine⟨hlen,?_,fun _ _=>rfl,fun i j b hi=>(by cases hi),fun _=>.nil,fun i b hi=>(by cases hi)⟩;intro i x hx;obtain⟨v,hv,hxr,hcase⟩:=hrel i x hx;refine⟨⟨v,hv,?_⟩,hxr⟩;rcases hcase with⟨s,t,z,rfl,rfl,hst,hfind⟩|⟨_,hfind,har⟩
    . simp at hfind
    . exact har _ _
   intro Q;simp only[Oper.wp,henter hfn,Oper.upon_enter];refine (hcon w (hp w) l _ (fun _=>[]) hargs (Sub.refl _) ((hb.globS hs).mono hs.sub) y hy).mono ?_;rintro e w' ⟨v,S2,o',ob',rfl,hwf,hS12,hS2w,hnew,⟨hres1,hres2⟩,_⟩;have hs':SimD c st a w' S ob:=hs.world (hS12.trans hS2w) (hs.frame.trans hwf fun b ⟨i,hi⟩=>by cases hi);generalize ((E.fn f l).out y).1=X at *;have hx:ARel (hp w') S (tv a) X v []:=by
    cases X<;>simp[z1gs] at hf
    case v t x=>exact⟨zte hf hres1.1,rfl⟩
    case tup l =>
     obtain⟨_,vs,e,ht⟩:=hres1;exact⟨rfl,vs,e,zvo (by simpa using hf) ht⟩
   exact z11 h2 hb hs' hx (fun b e=>by cases e)
 . exact (z6 h2).elim
theorem z7f {α:Type} {r:α×List A×FP} (hb:Base P E c):∀ (xs:List Operand) (k:Cmd α) (st:List A) (fp:FP) (S:Hp) (ob:Nat->List Nat),zn E (zdm E xs k) st fp=some r->SimD c st a w S ob →
 ∃ st' fp' S' ob',zn E k st' fp'=some r/\SimD c st' a w S' ob'
 | [],k,st,fp,S,ob,h,hs=>⟨st,fp,S,ob,h,hs⟩
 | x :: xs,k,st,fp,S,ob,h,hs=>by
   simp only[zdm] at h;obtain⟨A,fp1,h1,hA,hAo,hAd,hAr⟩:=zw h hs (hb.globS hs);clear hAo hAd hAr;split at h1
   . rename_i s;obtain⟨fp2,h2⟩:=zy h1;split at h2
     . rename_i t m hz;split at h2
       . rename_i u m;have hlt:=z89 hz (by simp);rcases z5y h2 with⟨hm,h3⟩|⟨hm,h3⟩
         . obtain⟨_,fp4,h4⟩:=z1b h3;obtain⟨ad,hv,hs1⟩:=hs.nb_some hz hm;exact z7f hb xs k _ _ _ _ h4 hs1
         . obtain⟨_,fp4,h4⟩:=z1b h3;obtain⟨fp5,h5⟩:=z3k h4;obtain⟨hv,hs1⟩:=hs.nb_none hz hm;obtain⟨S',t1,z1,hS,_,_,hs2⟩:=hs1.retire (r:=s) (x:=.ov (.nb u) none) (y:=.v .opq (.pointer none)) (z3w _ _ _ hlt) rfl;exact z7f hb xs k _ _ _ _ h5 hs2
       . exact z7f hb xs k _ _ _ _ h2 hs
     . exact z7f hb xs k _ _ _ _ h2 hs
   . exact z7f hb xs k _ _ _ _ h1 hs
theorem z10n {k:Call} (ho:o.op=.call k) (h:zn E (z1x E o) st fp=some ((),st',fp')) (hb:Base P E c) (hs:SimD c st a w S ob):Good P c o a w st':=by
 simp only[z1x,ho] at h;unfold z10o at h;have henter : ∀ {f : FuncId} {fv : Operand} {caps : Array Value}, k.callee = .value fv -> a.eval fv = .func (.func f) #[] caps -> (∃ fn, P.funcs[f]? = some fn /\ fn.body.isSome = true /\ fn.name ≠ "runtime.NumGoroutine") →
  (execOp a.eval o).run P w=.ok (.enter f (k.args.toList.map a.eval++caps.toList).toArray) w:=by
  intro f fv caps hc hv ⟨fn,hf,hbody,hname⟩;have hargs:k.args.map a.eval++caps=(k.args.toList.map a.eval++caps.toList).toArray:=by apply Array.toList_inj.1;simp
  have hbn:fn.body≠none:=by intro e;rw[e] at hbody;simp at hbody
  simp[execOp,ho,resolve,hc,hv,Deferred.ofValue,invoke,callFunc,hf,hbn,hname,hargs]
 split at h
 . rename_i f hc;split at h
   . exact zyt (fun hf=>by simpa using henter hc rfl hf) h hb hs
   . obtain⟨st1,fp1,S1,ob1,h1,hs1⟩:=z7f hb _ _ _ _ _ _ h hs;exact zch (cs:=[]) (xt:=[]) (fun _ _ _ _=>.nil) (fun hf=>by simpa using henter hc rfl hf) h1 hb hs1
 . rename_i fv hne hc;obtain⟨A,fp1,h1,hA,hAo,hAd,hAr⟩:=zw h hs (hb.globS hs);clear h;split at h1
   . rename_i f first captured
     split at h1
     . rename_i hck;obtain⟨h2,h3⟩:=z7 hck;have e1:first=#[]:=by simpa using h2
       have e2:captured=#[]:=by simpa using h3
       subst e1;subst e2;exact zch (cs:=[]) (fun _ _ _ _=>.nil) (fun hf=>by simpa using henter hc hA.1.opq_inv hf) h1 hb hs
     . exact (z6 h1).elim
   . rename_i f rs;obtain⟨_,l,ev,el⟩:=hA;exact zch (cs:=[]) (fun _ _ _ _=>.nil) (fun hf=>by have:=henter hc ev hf;rw[el] at this;simpa using this) h1 hb hs
   . rename_i f t x;split at h1
     . rename_i l hl;have hv:=hA.1;unfold VR at hv;simp only[T.isAgg,Bool.false_eq_true,if_false] at hv;obtain⟨caps,ev,hrd⟩:=hv;simp only[List.cons.injEq,and_true] at ev;exact zch (cs:=caps.toList) (fun _ S' j hS=>zo3 t x l _ j hl (hrd.mono hS)) (fun hf=>by simpa using henter hc ev hf) h1 hb hs
     . exact (z6 h1).elim
   . exact (z6 h1).elim
 . rename_i bi hc;have hk:∀ {xs:List Operand} {ts:List TypeId},k.args.toList=xs->k.argTypes.toList=ts->o.op=.call { callee:=.builtin bi,args:=xs.toArray,argTypes:=ts.toArray }:=by
    intro xs ts h1 h2;rw[ho];obtain⟨kc,ka,kt⟩:=k;dsimp only at hc h1 h2;subst hc;subst h1;subst h2;simp
   split at h
   . rename_i x t h1 h2;exact z12n (hk h1 h2) h hb hs
   . rename_i s x t u h1 h2;exact zud (hk h1 h2) h hb hs
   . rename_i x y t l h1 h2;exact z10f (hk h1 h2) h hb hs
   . rename_i x y h1;exact zln (mx:=false) (hk h1 rfl) h hb hs
   . rename_i x y h1;exact zln (mx:=true) (hk h1 rfl) h hb hs
   . rename_i x y t l h1 h2;exact ztj (hk h1 h2) (by simp) h hb hs
   . rename_i x t h1 h2;exact zxa (hk h1 h2) h hb hs
   . exact (z6 h).elim
 . exact (z6 h).elim
theorem zsx (h:zn E (z1x E o) st fp=some ((),st',fp')) (hb:Base P E c) (hs:SimD c st a w S ob):Good P c o a w st':=by
 cases ho:o.op with
 | move x=>exact zza ho h hb hs
 | assign x=>exact z13c ho h hb hs
 | pick x y z=>exact zyq ho h hb hs
 | alloc el=>exact zxk ho h hb hs
 | box el x=>exact z136 ho h hb hs
 | build t ps=>exact zxe ho h hb hs
 | buildSlice t n ps=>exact zma ho h hb hs
 | load t x=>exact zzi ho h hb hs
 | store t x y=>exact zwc ho h hb hs
 | nilCheck x=>exact zoy ho h hb hs
 | binOp op t x y u=>exact z139 ho h hb hs
 | unOp op t x=>exact z14r ho h hb hs
 | convert s t x=>exact z10g ho h hb hs
 | makeInterface t x=>exact zwr ho h hb hs
 | makeSlice t l k=>exact zmv ho h hb hs
 | slice t x l k m=>exact zwe ho h hb hs
 | fieldAddr s x f=>exact zn3 ho h hb hs
 | field s x f=>exact zx4 ho h hb hs
 | indexAddr t x i=>exact zmy ho h hb hs
 | index t x i=>exact zwz ho h hb hs
 | range t x=>exact zwk ho h hb hs
 | next x i=>exact zz6 ho h hb hs
 | extract x i=>exact zre ho h hb hs
 | call k=>exact z10n ho h hb hs
 | makeMap t i=>exact zqy ho h hb hs
 | lookup t x i k=>exact zt1 ho h hb hs
 | mapUpdate t x i y=>exact zmu ho h hb hs
 | makeFunc f first captured =>
   cases f with
   | func f =>
     simp only[z1x,ho] at h;split at h
     . rename_i hfi;have e1:first=#[]:=by simpa using hfi
       subst e1;have key:∀ (l:List Operand) (rs:List Nat) (st:List A) (fp:FP),zn E (z12l E f l rs o.dst) st fp=some ((),st',fp')->SimD c st a w S ob->(∀ r∈rs,∃ y:A,st[r]?=some y/\y.own=true) →
        ∃ fp1 rs',zn E (lay o.dst (.clo f rs')) st fp1=some ((),st',fp')/\(∀ r∈rs',∃ y:A,st[r]?=some y/\y.own=true)/\rs'.map (tv a)=rs.reverse.map (tv a)++l.map a.eval:=by
        intro l
        induction l with
        | nil =>
          intro rs st fp h hs hr;exact⟨fp,rs.reverse,h,fun r hr'=>hr r (by simpa using hr'),by simp⟩
        | cons x l ih =>
          intro rs st fp h hs hr;simp only[z12l] at h;obtain⟨A,fp1,h1,hA,hAo,hAd,hAr⟩:=zw h hs (hb.globS hs);split at h1
          . rename_i r;obtain⟨fp2,h2⟩:=zy h1;split at h2
            . obtain⟨fp3,rs',h3,h4,h5⟩:=ih (r::rs) st fp2 h2 hs (fun s hs'=>by
               rcases List.mem_cons.1 hs' with rfl|hs'
               . exact hAr s (by simp[A.refs])
               . exact hr s hs')
              refine⟨fp3,rs',h3,h4,?_⟩;have hA1:=hA.1;rw[h5];simp[hA1]
            . exact (z6 h2).elim
          . exact (z6 h1).elim
       obtain⟨fp1,rs',h3,h4,h5⟩:=key _ _ _ _ h hs (fun r hr=>by cases hr);refine zb (v:=.func (.func f) #[] (captured.map a.eval)) (w':=w) (by simp[execOp,ho,Instr.makeFunc]) (z11 h3 hb hs (o':=[]) ⟨rfl,_,rfl,by rw[h5];simp⟩ (fun b e=>by cases e))
     . exact (z6 h).elim
   | _=>simp only[z1x,ho] at h;exact (z6 h).elim
 | _=>simp only[z1x,ho] at h;exact (z6 h).elim
end
end
end Go.Lift
