import Derived.Test.YthdblfmolchhpaaGreatDoorLgI
set_option linter.all false
namespace Go.Lift
noncomputable section
section
variable {P:Program} {E:Env} {c:Ctx} {st st':List A} {fp fp':FP} {a:Act} {w w':World} {S:Hp} {ob:Nat->List Nat} {o:Oper}
theorem zlb:∀ (p:List Step) (s:Step),z19l p s=p++[s]
 | [],_=>rfl
 | a::p,s=>by rw[z19l,zlb p s];rfl
theorem z8j:∀ (t:T) (p:List Step) (q:List Step) (u:T),z1f t p=some u->z18 t (p++q)=z18 t p+z18 u q
 | .pair a b,.fld 0::p,q,u,h=>by simpa[z18] using z8j a p q u (by simpa[z1f] using h)
 | .pair a b,.fld (i+1)::p,q,u,h=>by
   have:=z8j b (.fld i::p) q u (by simpa[z1f] using h);simp only[List.cons_append] at this;simp only[z18,List.cons_append,this];omega
 | .pair a b,.idx i::p,q,u,h=>by simp[z1f] at h
 | .arr n t,.idx i::p,q,u,h=>by
   have:=z8j t p q u (by simpa[z1f] using h);simp only[z18,List.cons_append,this];omega
 | .arr n t,.fld i::p,q,u,h=>by simp[z1f] at h
 | .pair a b,[],q,u,h=>by simp[z1f] at h;subst h;simp[z18]
 | .arr n t,[],q,u,h=>by simp[z1f] at h;subst h;simp[z18]
 | .int _,[],q,u,h=>by simp[z1f] at h;subst h;simp[z18]
 | .bool,[],q,u,h=>by simp[z1f] at h;subst h;simp[z18]
 | .str,[],q,u,h=>by simp[z1f] at h;subst h;simp[z18]
 | .opq,[],q,u,h=>by simp[z1f] at h;subst h;simp[z18]
 | .unit,[],q,u,h=>by simp[z1f] at h;subst h;simp[z18]
 | .sl _,[],q,u,h=>by simp[z1f] at h;subst h;simp[z18]
 | .mp _ _,[],q,u,h=>by simp[z1f] at h;subst h;simp[z18]
 | .mp _ _,s::p,q,u,h=>by simp[z1f] at h
 | .nb _,[],q,u,h=>by simp[z1f] at h;subst h;simp[z18]
 | .nb _,s::p,q,u,h=>by simp[z1f] at h
 | .ifc _ _,[],q,u,h=>by simp[z1f] at h;subst h;simp[z18]
 | .nod,[],q,u,h=>by simp[z1f] at h;subst h;simp[z18]
 | .ifc _ _,s::p,q,u,h=>by simp[z1f] at h
 | .nod,s::p,q,u,h=>by simp[z1f] at h
 | .ptr _,[],q,u,h=>by simp[z1f] at h;subst h;simp[z18]
 | .own _,[],q,u,h=>by simp[z1f] at h;subst h;simp[z18]
 | .any,[],q,u,h=>by simp[z1f] at h;subst h;simp[z18]
 | .byt _,[],q,u,h=>by simp[z1f] at h;subst h;simp[z18]
 | .self _,[],q,u,h=>by simp[z1f] at h;subst h;simp[z18]
 | .fn _ _,[],q,u,h=>by simp[z1f] at h;subst h;simp[z18]
 | .int _,s::p,q,u,h=>by simp[z1f] at h
 | .bool,s::p,q,u,h=>by simp[z1f] at h
 | .str,s::p,q,u,h=>by simp[z1f] at h
 | .opq,s::p,q,u,h=>by simp[z1f] at h
 | .unit,s::p,q,u,h=>by simp[z1f] at h
 | .sl _,s::p,q,u,h=>by simp[z1f] at h
 | .ptr _,s::p,q,u,h=>by simp[z1f] at h
 | .own _,s::p,q,u,h=>by simp[z1f] at h
 | .any,s::p,q,u,h=>by simp[z1f] at h
 | .byt _,s::p,q,u,h=>by simp[z1f] at h
 | .self _,s::p,q,u,h=>by simp[z1f] at h
 | .fn _ _,s::p,q,u,h=>by simp[z1f] at h
theorem zbi {S:Hp}{b off:Nat}{c1 d0 d1 d2:List Value}(h:Lies S b off c1)(e:c1=d0++(d1++d2)):Lies S b (off+d0.length) d1:=by
 obtain⟨all,E,fr,c0,c2,h1,h2,h3⟩:=h;exact⟨all,E,fr,c0++d0,d2++c2,h1,by rw[h2,e];simp,by simp[h3]⟩
theorem znn {g:Field}{eg:TyI}(hg:TyOk P g.type eg)(hsz:eg.size≠0)(b off:Nat):(fieldPlace ⟨b,off,none⟩ g).run P w=.ok ⟨b,off+g.offset,none⟩ w:=by
 simp[fieldPlace,z16 hg,hsz,z50]
theorem znx {s:TypeId} {x:Operand} {f:Nat} (ho:o.op=.fieldAddr s x f) (h:zy E (z1r E o) st fp=some ((),st',fp')) (hb:Base P E c) (hs:SimD c st a w S ob):Good P c o a w st':=by
 simp only[z1r,ho,zk4] at h;obtain⟨e,he,h0⟩:=z1y h;clear h;split at h0
 . exact (z6 h0).elim
 . rename_i hf;obtain⟨A,fp1,h1,hA,hAo,hAd,hr⟩:=zz h0 hs (hb.globS hs);clear h0;obtain⟨fs,g,eg,hd,hg,heg,hoff,hsz,hty⟩:=z39 hf;have hrun:∀ {b off:Nat},a.eval x=.pointer (some ⟨b,off,none⟩)->(execOp a.eval o).run P w=.ok (.value (.pointer (some ⟨b,off+g.offset,none⟩))) w:=by
    intro b off ex;simp[execOp,ho,Instr.fieldAt,run_underlying ((hb.tyOk he).und.trans (by rw[hd])),hg,ex,Instr.sureAddr,znn (hb.tyOk heg) hsz]
   split at h1
   . rename_i t y;split at h1
     . rename_i y' hy;obtain⟨b,off,c1,ex,hl,hrd⟩:=VR.ptr_inv hA.1;have hrd':Rd S e.t y' c1:=z12n hy hrd;obtain⟨hfoc,hin⟩:=zag e.t y' f eg.t hty;obtain⟨d0,d1,d2,hc,hl0,hr0,_⟩:=z17b e.t y' [.fld f] _ hrd' hin;refine za (hrun ex) (zl h1 hb hs ?_);rw[<- hoff,<- hl0];exact VR.ptr_mk (zbi hl hc) hr0
     . exact (z6 h1).elim
   . rename_i r;obtain⟨fp2,h2⟩:=z10 h1;clear h1;split at h2
     . rename_i t y hy;split at h2
       . rename_i ht;obtain⟨b,cs,E',fr,bs,hob,hv,hcs,hfr,hrd⟩:=hs.rel r _ (zo hy (by simp));refine za (hrun (b:=b) (off:=0) (by rw[hA.1,hv])) (z12 h2 hb hs (o':=[]) ⟨rfl,b,by rw[hv];rfl,?_⟩ (fun b e=>by cases e));rw[zks _ ht hty,hoff,Nat.zero_add]
       . exact (z6 h2).elim
     . exact (z6 h2).elim
   . rename_i r t p;split at h1
     . rename_i u hu;split at h1
       . rename_i htu;obtain⟨_,b,hbl,ex⟩:=hA;refine za (hrun ex) (z12 h1 hb hs (o':=[]) ⟨rfl,b,hbl,?_⟩ (fun b e=>by cases e));rw[zlb,z8j t p _ _ hu,zks _ htu hty,hoff]
       . exact (z6 h1).elim
     . exact (z6 h1).elim
   . rename_i r n p u q;split at h1
     . rename_i v hv;split at h1
       . rename_i htv;have htv:=zcz htv;obtain⟨_,b,cs,E',fr,b',len,cap,h2,h3,h4,ex⟩:=hA;refine za (hrun ex) (z12 h1 hb hs (o':=[]) ⟨rfl,b,cs,E',fr,b',len,cap,h2,h3,h4,?_⟩ (fun b e=>by cases e));rw[zlb,z8j (.arr 0 u) q _ _ hv,htv,hoff]
       . exact (z6 h1).elim
     . exact (z6 h1).elim
   . exact (z6 h1).elim
theorem z55 {m n:Nat}(h:Nat.beq m n=true):m=n:=by simpa using h
theorem znt {t:TypeId} {x ix:Operand} (ho:o.op=.indexAddr t x ix) (h:zy E (z1r E o) st fp=some ((),st',fp')) (hb:Base P E c) (hs:SimD c st a w S ob):Good P c o a w st':=by
 simp only[z1r,ho,zk2] at h;obtain⟨e,he,h0⟩:=z1y h;obtain⟨I,fp0,h1,hI,hIo,hId,hrI⟩:=zz h0 hs (hb.globS hs);obtain⟨k,n,h2,hi⟩:=zkz h1 hI;obtain⟨A,fp1,h3,hA,hAo,hAd,hr⟩:=zz h2 hs (hb.globS hs);clear h h0 h1 h2;have runS:∀ {el:TypeId} {ee:TyI} {b off len cap:Nat},P.underlying t=some (.slice el)->E.ty el=some ee->a.eval x=.slice (some ⟨b,off,none⟩) len cap->inR n len=true →
  (execOp a.eval o).run P w=.ok (.value (.pointer (some ⟨b,off+n.toNat*ee.size,none⟩))) w:=by
  intro el ee b off len cap hu hee ex hc;obtain⟨h5,h6,h7⟩:=z93 hc;simp[execOp,ho,Instr.indexAt,hi,asIntOf,run_underlying hu,ex,h5,h6,z16 (hb.tyOk hee),z50]
 have runA:∀ {el:TypeId} {ee:TyI} {b off m:Nat},P.underlying t=some (.array m el)->E.ty el=some ee->a.eval x=.pointer (some ⟨b,off,none⟩)->inR n m=true →
  (execOp a.eval o).run P w=.ok (.value (.pointer (some ⟨b,off+n.toNat*ee.size,none⟩))) w:=by
  intro el ee b off m hu hee ex hc;obtain⟨h5,h6,h7⟩:=z93 hc;simp[execOp,ho,Instr.indexAt,hi,asIntOf,run_underlying hu,ex,Instr.sureAddr,h5,h6,z16 (hb.tyOk hee),z50]
 split at h3
 . -- a slice of data
   rename_i x1 x2 a0 u xs hsl;split at h3
   . rename_i hel;obtain⟨el,hd,hu⟩:=slT hb.env he hsl;obtain⟨ee,hee,het⟩:=zek hd hel;obtain⟨hc,h4⟩:=zu h3;obtain⟨h5,h6,h7⟩:=z93 hc;obtain⟨ad,cap,ex,hcap,hm⟩:=VR.sl_inv hA.1;rcases hm with hm|⟨b,off,c1,had,hl,hall⟩
     . rw[hm] at h7;simp at h7
     . subst had;obtain⟨d0,d1,d2,hd1,hl0,hr1,_,_⟩:=All.at (Rd.length u) hall h7 u.dflt;refine za (runS hu hee ex hc) (zl h4 hb hs ?_);rw[<- (hb.tyOk hee).size,het,ze8,<- hl0];exact VR.ptr_mk (zbi hl hd1) hr1.un
   . exact (z6 h3).elim
 . -- an z3h row
   rename_i x1 x2 a0 r hsl;obtain⟨fp2,h4⟩:=z10 h3;clear h3;split at h4
   . rename_i u xs hy;split at h4
     . rename_i hel;obtain⟨el,hd,hu⟩:=slT hb.env he hsl;obtain⟨ee,hee,het⟩:=zek hd hel;obtain⟨hc,h5⟩:=zu h4;obtain⟨h6,h7,h8⟩:=z93 hc;rcases hs.row_at hy with⟨hx,_,_⟩|⟨b,cap,cs,E',fr,hob,hv,hcs,hfr,hsz,hle,hall⟩
       . rw[hx] at h8;simp at h8
       . refine za (runS (off:=0) hu hee (by rw[hA.1,hv]) hc) (z12 h5 hb hs (o':=[]) ⟨rfl,b,by rw[hv];cases cap with
          | zero=>exact absurd (Nat.lt_of_lt_of_le h8 hle) (by omega)
          | succ m=>rfl,?_⟩ (fun b e=>by cases e))
         rw[<- (hb.tyOk hee).size,het,ze8];simp[z18]
     . exact (z6 h4).elim
   . exact (z6 h4).elim
 . -- an array of data
   rename_i x1 x2 a0 m m' u xs hm;split at h3
   . rename_i hck;obtain⟨hmm,hel⟩:=z7 hck;obtain⟨el,hd,hu⟩:=z1f8 hb.env he hm;obtain⟨ee,hee,het⟩:=z8q hd hel;subst het;have hmm:=z55 hmm;subst hmm;obtain⟨hc,h4⟩:=zu h3;obtain⟨h5,h6,h7⟩:=z93 hc;obtain⟨b,off,c1,ex,hl,hrd⟩:=VR.ptr_inv hA.1;obtain⟨hn,hall⟩:=hrd;obtain⟨d0,d1,d2,hd1,hl0,hr1,_,_⟩:=All.at (Rd.length ee.t) hall (by omega:n.toNat<xs.length) ee.t.dflt;refine za (runA hu hee ex hc) (zl h4 hb hs ?_);rw[<- (hb.tyOk hee).size,<- hl0];exact VR.ptr_mk (zbi hl hd1) hr1
   . exact (z6 h3).elim
 . -- an z3h array
   rename_i x1 x2 a0 m r hm x3;obtain⟨fp2,h4⟩:=z10 h3;clear h3;split at h4
   . rename_i m' u xs hy;split at h4
     . rename_i hck;obtain⟨hmm,hel⟩:=z7 hck;obtain⟨el,hd,hu⟩:=z1f8 hb.env he hm;obtain⟨ee,hee,het⟩:=z8q hd hel;subst het;have hmm:=z55 hmm;subst hmm;obtain⟨hc,h5⟩:=zu h4;obtain⟨b,cs,E',fr,bs,hob,hv,hcs,hfr,hrd⟩:=hs.rel r _ (zo hy (by simp));refine za (runA (off:=0) hu hee (by rw[hA.1,hv]) hc) (z12 h5 hb hs (o':=[]) ⟨rfl,b,by rw[hv];rfl,?_⟩ (fun b e=>by cases e));rw[<- (hb.tyOk hee).size];simp[z18]
     . exact (z6 h4).elim
   . exact (z6 h4).elim
 . -- an array inside
   rename_i x1 x2 a0 m r u p hm;split at h3
   . rename_i m' v hty;split at h3
     . rename_i hck;obtain⟨hmm,hel⟩:=z7 hck;obtain⟨el,hd,hu⟩:=z1f8 hb.env he hm;obtain⟨ee,hee,het⟩:=z8q hd hel;subst het;have hmm:=z55 hmm;subst hmm;obtain⟨hc,h5⟩:=zu h3;obtain⟨_,b,hbl,ex⟩:=hA;refine za (runA hu hee ex hc) (z12 h5 hb hs (o':=[]) ⟨rfl,b,hbl,?_⟩ (fun b e=>by cases e));rw[zlb,z8j _ p _ _ hty,<- (hb.tyOk hee).size];simp[z18]
     . exact (z6 h3).elim
   . exact (z6 h3).elim
 . -- a row inside a box
   rename_i r n0 p hsl;obtain⟨t1,y1,u,xs,fp2,h4,hy,hin,hn,hf⟩:=z5s h3;clear h3;split at h4
   . rename_i hel;obtain⟨el,hd,hu⟩:=slT hb.env he hsl;obtain⟨ee,hee,het⟩:=zek hd hel;obtain⟨hc,h5⟩:=zu h4;obtain⟨b,cs,E',fr,b0,b1,b2,c0,c2,hob,hv,hcs,hfr,hcc,hl,hrow,_⟩:=hs.cel_row hA hy hin hn hf;obtain⟨_,_,h7⟩:=z93 hc;rcases hrow with⟨e,_,_⟩|⟨b',cap,cs2,E2,fr2,e1,e2,_⟩
     . rw[e] at h7;simp at h7
     . have hcell:cs[n0]?=some (a.eval x):=by
        rw[<- Array.getElem?_toList,hcc,List.getElem?_append_right (by omega),hl,Nat.sub_self];rfl
       refine za (runS hu hee e2 hc) (z12 h5 hb hs (o':=[]) ⟨rfl,b,cs,E',fr,b',xs.length,cap,by rw[hv];rfl,hcs,by rw[hcell,e2],?_⟩ (fun b e=>by cases e));rw[<- (hb.tyOk hee).size,het,ze8];simp[z18,zm5]
   . exact (z6 h4).elim
 . -- an array inside an element
   rename_i m r n0 p u q hm;split at h3
   . rename_i m' v hty;split at h3
     . rename_i hck;obtain⟨hmm,hel⟩:=z7 hck;obtain⟨el,hd,hu⟩:=z1f8 hb.env he hm;obtain⟨ee,hee,het⟩:=z8q hd hel;subst het;have hmm:=z55 hmm;subst hmm;obtain⟨hc,h5⟩:=zu h3;obtain⟨_,b,cs,E',fr,b',len,cap,e2,e3,e4,ex⟩:=hA;refine za (runA hu hee ex hc) (z12 h5 hb hs (o':=[]) ⟨rfl,b,cs,E',fr,b',len,cap,e2,e3,e4,?_⟩ (fun b e=>by cases e));rw[zlb,z8j _ q _ _ hty,<- (hb.tyOk hee).size];simp[z18]
     . exact (z6 h3).elim
   . exact (z6 h3).elim
 . exact (z6 h3).elim
end
end
end Go.Lift
