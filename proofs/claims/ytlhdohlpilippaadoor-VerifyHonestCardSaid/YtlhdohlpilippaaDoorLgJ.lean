import Derived.Test.YtlhdohlpilippaaDoorLgI
set_option linter.all false
namespace Go.Lift
noncomputable section
section
variable {P:Program} {E:Env} {c:Ctx} {st st':List A} {fp fp':FP} {a:Act} {w w':World} {S:Hp} {ob:Nat->List Nat} {o:Oper}
theorem zkp:∀ (p:List Step) (s:Step),z15q p s=p++[s]
 | [],_=>rfl
 | a::p,s=>by rw[z15q,zkp p s];rfl
theorem z9b:∀ (t:T) (p:List Step) (q:List Step) (u:T),z1d t p=some u->z16 t (p++q)=z16 t p+z16 u q
 | .pair a b,.fld 0::p,q,u,h=>by simpa[z16] using z9b a p q u (by simpa[z1d] using h)
 | .pair a b,.fld (i+1)::p,q,u,h=>by
   have:=z9b b (.fld i::p) q u (by simpa[z1d] using h);simp only[List.cons_append] at this;simp only[z16,List.cons_append,this];omega
 | .pair a b,.idx i::p,q,u,h=>by simp[z1d] at h
 | .arr n t,.idx i::p,q,u,h=>by
   have:=z9b t p q u (by simpa[z1d] using h);simp only[z16,List.cons_append,this];omega
 | .arr n t,.fld i::p,q,u,h=>by simp[z1d] at h
 | .pair a b,[],q,u,h=>by simp[z1d] at h;subst h;simp[z16]
 | .arr n t,[],q,u,h=>by simp[z1d] at h;subst h;simp[z16]
 | .int _,[],q,u,h=>by simp[z1d] at h;subst h;simp[z16]
 | .bool,[],q,u,h=>by simp[z1d] at h;subst h;simp[z16]
 | .str,[],q,u,h=>by simp[z1d] at h;subst h;simp[z16]
 | .opq,[],q,u,h=>by simp[z1d] at h;subst h;simp[z16]
 | .unit,[],q,u,h=>by simp[z1d] at h;subst h;simp[z16]
 | .sl _,[],q,u,h=>by simp[z1d] at h;subst h;simp[z16]
 | .mp _ _,[],q,u,h=>by simp[z1d] at h;subst h;simp[z16]
 | .mp _ _,s::p,q,u,h=>by simp[z1d] at h
 | .nb _,[],q,u,h=>by simp[z1d] at h;subst h;simp[z16]
 | .nb _,s::p,q,u,h=>by simp[z1d] at h
 | .ifc _ _,[],q,u,h=>by simp[z1d] at h;subst h;simp[z16]
 | .nod,[],q,u,h=>by simp[z1d] at h;subst h;simp[z16]
 | .ifc _ _,s::p,q,u,h=>by simp[z1d] at h
 | .nod,s::p,q,u,h=>by simp[z1d] at h
 | .ptr _,[],q,u,h=>by simp[z1d] at h;subst h;simp[z16]
 | .own _,[],q,u,h=>by simp[z1d] at h;subst h;simp[z16]
 | .any,[],q,u,h=>by simp[z1d] at h;subst h;simp[z16]
 | .byt _,[],q,u,h=>by simp[z1d] at h;subst h;simp[z16]
 | .self _,[],q,u,h=>by simp[z1d] at h;subst h;simp[z16]
 | .fn _ _,[],q,u,h=>by simp[z1d] at h;subst h;simp[z16]
 | .int _,s::p,q,u,h=>by simp[z1d] at h
 | .bool,s::p,q,u,h=>by simp[z1d] at h
 | .str,s::p,q,u,h=>by simp[z1d] at h
 | .opq,s::p,q,u,h=>by simp[z1d] at h
 | .unit,s::p,q,u,h=>by simp[z1d] at h
 | .sl _,s::p,q,u,h=>by simp[z1d] at h
 | .ptr _,s::p,q,u,h=>by simp[z1d] at h
 | .own _,s::p,q,u,h=>by simp[z1d] at h
 | .any,s::p,q,u,h=>by simp[z1d] at h
 | .byt _,s::p,q,u,h=>by simp[z1d] at h
 | .self _,s::p,q,u,h=>by simp[z1d] at h
 | .fn _ _,s::p,q,u,h=>by simp[z1d] at h
theorem zc7 {S:Hp}{b off:Nat}{c1 d0 d1 d2:List Value}(h:Lies S b off c1)(e:c1=d0++(d1++d2)):Lies S b (off+d0.length) d1:=by
 obtain⟨all,E,fr,c0,c2,h1,h2,h3⟩:=h;exact⟨all,E,fr,c0++d0,d2++c2,h1,by rw[h2,e];simp,by simp[h3]⟩
theorem zms {g:Field}{eg:TyI}(hg:TyOk P g.type eg)(hsz:eg.size≠0)(b off:Nat):(fieldPlace ⟨b,off,none⟩ g).run P w=.ok ⟨b,off+g.offset,none⟩ w:=by
 simp[fieldPlace,z13 hg,hsz,z65]
theorem zn3 {s:TypeId} {x:Operand} {f:Nat} (ho:o.op=.fieldAddr s x f) (h:zn E (z1x E o) st fp=some ((),st',fp')) (hb:Base P E c) (hs:SimD c st a w S ob):Good P c o a w st':=by
 simp only[z1x,ho,zjf] at h;obtain⟨e,he,h0⟩:=z25 h;clear h;split at h0
 . exact (z6 h0).elim
 . rename_i hf;obtain⟨A,fp1,h1,hA,hAo,hAd,hr⟩:=zw h0 hs (hb.globS hs);clear h0;obtain⟨fs,g,eg,hd,hg,heg,hoff,hsz,hty⟩:=z49 hf;have hrun:∀ {b off:Nat},a.eval x=.pointer (some ⟨b,off,none⟩)->(execOp a.eval o).run P w=.ok (.value (.pointer (some ⟨b,off+g.offset,none⟩))) w:=by
    intro b off ex;simp[execOp,ho,Instr.fieldAt,run_underlying ((hb.tyOk he).und.trans (by rw[hd])),hg,ex,Instr.sureAddr,zms (hb.tyOk heg) hsz]
   split at h1
   . rename_i t y;split at h1
     . rename_i y' hy;obtain⟨b,off,c1,ex,hl,hrd⟩:=VR.ptr_inv hA.1;have hrd':Rd S e.t y' c1:=z10m hy hrd;obtain⟨hfoc,hin⟩:=zbg e.t y' f eg.t hty;obtain⟨d0,d1,d2,hc,hl0,hr0,_⟩:=z13z e.t y' [.fld f] _ hrd' hin;refine zb (hrun ex) (zk h1 hb hs ?_);rw[<- hoff,<- hl0];exact VR.ptr_mk (zc7 hl hc) hr0
     . exact (z6 h1).elim
   . rename_i r;obtain⟨fp2,h2⟩:=zy h1;clear h1;split at h2
     . rename_i t y hy;split at h2
       . rename_i ht;obtain⟨b,cs,E',fr,bs,hob,hv,hcs,hfr,hrd⟩:=hs.rel r _ (zm hy (by simp));refine zb (hrun (b:=b) (off:=0) (by rw[hA.1,hv])) (z11 h2 hb hs (o':=[]) ⟨rfl,b,by rw[hv];rfl,?_⟩ (fun b e=>by cases e));rw[zk3 _ ht hty,hoff,Nat.zero_add]
       . exact (z6 h2).elim
     . exact (z6 h2).elim
   . rename_i r t p;split at h1
     . rename_i u hu;split at h1
       . rename_i htu;obtain⟨_,b,hbl,ex⟩:=hA;refine zb (hrun ex) (z11 h1 hb hs (o':=[]) ⟨rfl,b,hbl,?_⟩ (fun b e=>by cases e));rw[zkp,z9b t p _ _ hu,zk3 _ htu hty,hoff]
       . exact (z6 h1).elim
     . exact (z6 h1).elim
   . rename_i r n p u q;split at h1
     . rename_i v hv;split at h1
       . rename_i htv;have htv:=zdd htv;obtain⟨_,b,cs,E',fr,b',len,cap,h2,h3,h4,ex⟩:=hA;refine zb (hrun ex) (z11 h1 hb hs (o':=[]) ⟨rfl,b,cs,E',fr,b',len,cap,h2,h3,h4,?_⟩ (fun b e=>by cases e));rw[zkp,z9b (.arr 0 u) q _ _ hv,htv,hoff]
       . exact (z6 h1).elim
     . exact (z6 h1).elim
   . exact (z6 h1).elim
theorem z3x {m n:Nat}(h:Nat.beq m n=true):m=n:=by simpa using h
theorem zmy {t:TypeId} {x ix:Operand} (ho:o.op=.indexAddr t x ix) (h:zn E (z1x E o) st fp=some ((),st',fp')) (hb:Base P E c) (hs:SimD c st a w S ob):Good P c o a w st':=by
 simp only[z1x,ho,zjc] at h;obtain⟨e,he,h0⟩:=z25 h;obtain⟨I,fp0,h1,hI,hIo,hId,hrI⟩:=zw h0 hs (hb.globS hs);obtain⟨k,n,h2,hi⟩:=zkb h1 hI;obtain⟨A,fp1,h3,hA,hAo,hAd,hr⟩:=zw h2 hs (hb.globS hs);clear h h0 h1 h2;have runS:∀ {el:TypeId} {ee:TyI} {b off len cap:Nat},P.underlying t=some (.slice el)->E.ty el=some ee->a.eval x=.slice (some ⟨b,off,none⟩) len cap->inR n len=true →
  (execOp a.eval o).run P w=.ok (.value (.pointer (some ⟨b,off+n.toNat*ee.size,none⟩))) w:=by
  intro el ee b off len cap hu hee ex hc;obtain⟨h5,h6,h7⟩:=za3 hc;simp[execOp,ho,Instr.indexAt,hi,asIntOf,run_underlying hu,ex,h5,h6,z13 (hb.tyOk hee),z65]
 have runA:∀ {el:TypeId} {ee:TyI} {b off m:Nat},P.underlying t=some (.array m el)->E.ty el=some ee->a.eval x=.pointer (some ⟨b,off,none⟩)->inR n m=true →
  (execOp a.eval o).run P w=.ok (.value (.pointer (some ⟨b,off+n.toNat*ee.size,none⟩))) w:=by
  intro el ee b off m hu hee ex hc;obtain⟨h5,h6,h7⟩:=za3 hc;simp[execOp,ho,Instr.indexAt,hi,asIntOf,run_underlying hu,ex,Instr.sureAddr,h5,h6,z13 (hb.tyOk hee),z65]
 split at h3
 . -- a slice of data
   rename_i x1 x2 a0 u xs hsl;split at h3
   . rename_i hel;obtain⟨el,hd,hu⟩:=slT hb.env he hsl;obtain⟨ee,hee,het⟩:=zet hd hel;obtain⟨hc,h4⟩:=zr h3;obtain⟨h5,h6,h7⟩:=za3 hc;obtain⟨ad,cap,ex,hcap,hm⟩:=VR.sl_inv hA.1;rcases hm with hm|⟨b,off,c1,had,hl,hall⟩
     . rw[hm] at h7;simp at h7
     . subst had;obtain⟨d0,d1,d2,hd1,hl0,hr1,_,_⟩:=All.at (Rd.length u) hall h7 u.dflt;refine zb (runS hu hee ex hc) (zk h4 hb hs ?_);rw[<- (hb.tyOk hee).size,het,zeg,<- hl0];exact VR.ptr_mk (zc7 hl hd1) hr1.un
   . exact (z6 h3).elim
 . -- an z4l row
   rename_i x1 x2 a0 r hsl;obtain⟨fp2,h4⟩:=zy h3;clear h3;split at h4
   . rename_i u xs hy;split at h4
     . rename_i hel;obtain⟨el,hd,hu⟩:=slT hb.env he hsl;obtain⟨ee,hee,het⟩:=zet hd hel;obtain⟨hc,h5⟩:=zr h4;obtain⟨h6,h7,h8⟩:=za3 hc;rcases hs.row_at hy with⟨hx,_,_⟩|⟨b,cap,cs,E',fr,hob,hv,hcs,hfr,hsz,hle,hall⟩
       . rw[hx] at h8;simp at h8
       . refine zb (runS (off:=0) hu hee (by rw[hA.1,hv]) hc) (z11 h5 hb hs (o':=[]) ⟨rfl,b,by rw[hv];cases cap with
          | zero=>exact absurd (Nat.lt_of_lt_of_le h8 hle) (by omega)
          | succ m=>rfl,?_⟩ (fun b e=>by cases e))
         rw[<- (hb.tyOk hee).size,het,zeg];simp[z16]
     . exact (z6 h4).elim
   . exact (z6 h4).elim
 . -- an array of data
   rename_i x1 x2 a0 m m' u xs hm;split at h3
   . rename_i hck;obtain⟨hmm,hel⟩:=z7 hck;obtain⟨el,hd,hu⟩:=z1aa hb.env he hm;obtain⟨ee,hee,het⟩:=z9o hd hel;subst het;have hmm:=z3x hmm;subst hmm;obtain⟨hc,h4⟩:=zr h3;obtain⟨h5,h6,h7⟩:=za3 hc;obtain⟨b,off,c1,ex,hl,hrd⟩:=VR.ptr_inv hA.1;obtain⟨hn,hall⟩:=hrd;obtain⟨d0,d1,d2,hd1,hl0,hr1,_,_⟩:=All.at (Rd.length ee.t) hall (by omega:n.toNat<xs.length) ee.t.dflt;refine zb (runA hu hee ex hc) (zk h4 hb hs ?_);rw[<- (hb.tyOk hee).size,<- hl0];exact VR.ptr_mk (zc7 hl hd1) hr1
   . exact (z6 h3).elim
 . -- an z4l array
   rename_i x1 x2 a0 m r hm x3;obtain⟨fp2,h4⟩:=zy h3;clear h3;split at h4
   . rename_i m' u xs hy;split at h4
     . rename_i hck;obtain⟨hmm,hel⟩:=z7 hck;obtain⟨el,hd,hu⟩:=z1aa hb.env he hm;obtain⟨ee,hee,het⟩:=z9o hd hel;subst het;have hmm:=z3x hmm;subst hmm;obtain⟨hc,h5⟩:=zr h4;obtain⟨b,cs,E',fr,bs,hob,hv,hcs,hfr,hrd⟩:=hs.rel r _ (zm hy (by simp));refine zb (runA (off:=0) hu hee (by rw[hA.1,hv]) hc) (z11 h5 hb hs (o':=[]) ⟨rfl,b,by rw[hv];rfl,?_⟩ (fun b e=>by cases e));rw[<- (hb.tyOk hee).size];simp[z16]
     . exact (z6 h4).elim
   . exact (z6 h4).elim
 . -- an array inside
   rename_i x1 x2 a0 m r u p hm;split at h3
   . rename_i m' v hty;split at h3
     . rename_i hck;obtain⟨hmm,hel⟩:=z7 hck;obtain⟨el,hd,hu⟩:=z1aa hb.env he hm;obtain⟨ee,hee,het⟩:=z9o hd hel;subst het;have hmm:=z3x hmm;subst hmm;obtain⟨hc,h5⟩:=zr h3;obtain⟨_,b,hbl,ex⟩:=hA;refine zb (runA hu hee ex hc) (z11 h5 hb hs (o':=[]) ⟨rfl,b,hbl,?_⟩ (fun b e=>by cases e));rw[zkp,z9b _ p _ _ hty,<- (hb.tyOk hee).size];simp[z16]
     . exact (z6 h3).elim
   . exact (z6 h3).elim
 . -- a row inside a box
   rename_i r n0 p hsl;obtain⟨t1,y1,u,xs,fp2,h4,hy,hin,hn,hf⟩:=z74 h3;clear h3;split at h4
   . rename_i hel;obtain⟨el,hd,hu⟩:=slT hb.env he hsl;obtain⟨ee,hee,het⟩:=zet hd hel;obtain⟨hc,h5⟩:=zr h4;obtain⟨b,cs,E',fr,b0,b1,b2,c0,c2,hob,hv,hcs,hfr,hcc,hl,hrow,_⟩:=hs.cel_row hA hy hin hn hf;obtain⟨_,_,h7⟩:=za3 hc;rcases hrow with⟨e,_,_⟩|⟨b',cap,cs2,E2,fr2,e1,e2,_⟩
     . rw[e] at h7;simp at h7
     . have hcell:cs[n0]?=some (a.eval x):=by
        rw[<- Array.getElem?_toList,hcc,List.getElem?_append_right (by omega),hl,Nat.sub_self];rfl
       refine zb (runS hu hee e2 hc) (z11 h5 hb hs (o':=[]) ⟨rfl,b,cs,E',fr,b',xs.length,cap,by rw[hv];rfl,hcs,by rw[hcell,e2],?_⟩ (fun b e=>by cases e));rw[<- (hb.tyOk hee).size,het,zeg];simp[z16,zlj]
   . exact (z6 h4).elim
 . -- an array inside an element
   rename_i m r n0 p u q hm;split at h3
   . rename_i m' v hty;split at h3
     . rename_i hck;obtain⟨hmm,hel⟩:=z7 hck;obtain⟨el,hd,hu⟩:=z1aa hb.env he hm;obtain⟨ee,hee,het⟩:=z9o hd hel;subst het;have hmm:=z3x hmm;subst hmm;obtain⟨hc,h5⟩:=zr h3;obtain⟨_,b,cs,E',fr,b',len,cap,e2,e3,e4,ex⟩:=hA;refine zb (runA hu hee ex hc) (z11 h5 hb hs (o':=[]) ⟨rfl,b,cs,E',fr,b',len,cap,e2,e3,e4,?_⟩ (fun b e=>by cases e));rw[zkp,z9b _ q _ _ hty,<- (hb.tyOk hee).size];simp[z16]
     . exact (z6 h3).elim
   . exact (z6 h3).elim
 . exact (z6 h3).elim
end
end
end Go.Lift
