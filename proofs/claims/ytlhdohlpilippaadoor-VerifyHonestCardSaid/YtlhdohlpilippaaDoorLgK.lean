import Derived.Test.YtlhdohlpilippaaDoorLgJ
set_option linter.all false
namespace Go.Lift
noncomputable section
section
variable {P:Program} {E:Env} {c:Ctx} {st st':List A} {fp fp':FP} {a:Act} {w w':World} {S:Hp} {ob:Nat->List Nat} {o:Oper}
theorem z5c {α:Type}{xs:List α}{l h:Nat}(hh:h<=xs.length):(cut xs l h).length=h - l:=by
 simp[cut,Nat.min_eq_left hh]
theorem All.cut {α:Type}{R:α->List Value->Prop}{n:Nat}(hn:∀ x cs,R x cs->cs.length=n){xs:List α}{cs:List Value}(hA:All R xs cs){l h:Nat}(hl:l<=h)(hh:h<=xs.length) :
 ∃ d0 d1 d2,cs=d0++(d1++d2)/\d0.length=l*n/\All R (Lift.cut xs l h) d1:=by
 have e:xs=(xs.take l)++((xs.take h).drop l++xs.drop h):=by
  conv=>lhs;rw[<- List.take_append_drop h xs]
  conv=>lhs;lhs;rw[<- List.take_append_drop l (xs.take h)]
  rw[List.take_take,Nat.min_eq_left hl,List.append_assoc]
 rw[e] at hA;obtain⟨d0,d3,e0,h0,h3⟩:=All.split hA;obtain⟨d1,d2,e1,h1,h2⟩:=All.split h3;refine⟨d0,d1,d2,by rw[e0,e1],?_,h1⟩;rw[All.length hn _ _ h0,List.length_take,Nat.min_eq_left (by omega)]
inductive OptRel (a:Act):Option Operand->Option Int->Prop
 | none:OptRel a none none
 | some {x:Operand} {k:IntKind} {n:Int} (h:a.eval x=.int k n):OptRel a (some x) (some n)
theorem zgx {α:Type}{r:α×List A×FP}{x:Option Operand}{k:Option Int->Cmd α}(h:zn E (z160 E x k) st fp=some r)(hb:Base P E c)(hs:SimD c st a w S ob) :
 ∃ n fp',zn E (k n) st fp'=some r/\OptRel a x n:=by
 cases x with
 | none=>exact⟨none,fp,h,.none⟩
 | some x =>
   simp only[z160] at h;obtain⟨I,fp0,h1,hI,hIo,hId,hrI⟩:=zw h hs (hb.globS hs);obtain⟨j,n,h2,hi⟩:=zkb h1 hI;exact⟨some n,fp0,h2,.some hi⟩
theorem z2c {x:Value}{k:IntKind}{n:Int}{y:Nat}{code:BoundsCode}(hx:x=.int k n)(h0:0<=n)(h1:n<=y):(Instr.sliceBound x y code).run P w=.ok n.toNat w:=by
 subst hx;simp[Instr.sliceBound,asIntOf,h0,h1]
theorem zkd {α:Type}{r:α×List A×FP}{lo hi:Option Operand}{l h:Option Int}{n:Nat}{k:Nat->Nat->Cmd α}(hx:zn E (zxr l h n k) st fp=some r)(hl:OptRel a lo l)(hh:OptRel a hi h)
 (isSlice:Bool) {cap:Nat} (hc:n<=cap) :
 ∃ i j fp',zn E (k i j) st fp'=some r/\i<=j/\j<=n/\(Instr.sliceBounds isSlice n cap (lo.map a.eval) (hi.map a.eval) none).run P w=.ok (i,j,cap) w:=by
 cases hl with
 | none =>
   cases hh with
   | none=>exact⟨0,n,fp,hx,Nat.zero_le _,Nat.le_refl _,by simp[Instr.sliceBounds]⟩
   | some e =>
     simp only[zxr] at hx;obtain⟨hc1,hx⟩:=zr hx;have hc1:=of_decide_eq_true hc1;refine⟨0,_,fp,hx,Nat.zero_le _,by omega,?_⟩;simp[Instr.sliceBounds,z2c e hc1.1 (by omega:_<=(cap:Int))]
 | some e =>
   cases hh with
   | none =>
     simp only[zxr] at hx;obtain⟨hc1,hx⟩:=zr hx;have hc1:=of_decide_eq_true hc1;refine⟨_,n,fp,hx,by omega,Nat.le_refl _,?_⟩;simp[Instr.sliceBounds,z2c e hc1.1 hc1.2]
   | some e' =>
     rename_i x1 k1 n1 x2 k2 n2;simp only[zxr] at hx;obtain⟨hc1,hx⟩:=zr hx;have hc1:=of_decide_eq_true hc1;obtain⟨hc2,hx⟩:=zr hx;have hc2:=of_decide_eq_true hc2;refine⟨_,_,fp,hx,by omega,by omega,?_⟩;simp[Instr.sliceBounds,z2c e' hc1.1 (by omega:n2<=(cap:Int)),z2c e hc2.1 (by omega:n1<=((n2.toNat:Nat):Int))]
theorem z137 {α:Type}{r:α×List A×FP}{lo hi:Option Operand}{l:Option Int}{h mxn:Int}{mx:Operand}{km:IntKind}{n:Nat}{k:Nat->Nat->Cmd α}(hx:zn E (zxr l (some h) n k) st fp=some r)(hl:OptRel a lo l)(hh:OptRel a hi (some h))
 (hm:a.eval mx=.int km mxn) (h1:h<=mxn) (h2:mxn<=(n:Int)) {cap:Nat} (hc:n<=cap) :
 ∃ i j fp',zn E (k i j) st fp'=some r/\i<=j/\j<=mxn.toNat/\(Instr.sliceBounds true n cap (lo.map a.eval) (hi.map a.eval) (some (a.eval mx))).run P w=.ok (i,j,mxn.toNat) w:=by
 cases hh with
 | some e =>
   rename_i x1 k1;cases hl with
   | none =>
     simp only[zxr] at hx;obtain⟨hc1,hx⟩:=zr hx;have hc1:=of_decide_eq_true hc1;refine⟨0,_,fp,hx,Nat.zero_le _,by omega,?_⟩;simp[Instr.sliceBounds,z2c hm (by omega:0<=mxn) (by omega:mxn<=(cap:Int)),z2c e hc1.1 (by omega:h<=((mxn.toNat:Nat):Int))]
   | some e' =>
     rename_i x2 k2 n2;simp only[zxr] at hx;obtain⟨hc1,hx⟩:=zr hx;have hc1:=of_decide_eq_true hc1;obtain⟨hc2,hx⟩:=zr hx;have hc2:=of_decide_eq_true hc2;refine⟨_,_,fp,hx,by omega,by omega,?_⟩;simp[Instr.sliceBounds,z2c hm (by omega:0<=mxn) (by omega:mxn<=(cap:Int)),z2c e hc1.1 (by omega:h<=((mxn.toNat:Nat):Int)),z2c e' hc2.1 (by omega:n2<=((h.toNat:Nat):Int))]
theorem zwe {t:TypeId} {x:Operand} {lo hi mx:Option Operand} (ho:o.op=.slice t x lo hi mx) (h:zn E (z1x E o) st fp=some ((),st',fp')) (hb:Base P E c) (hs:SimD c st a w S ob) :
 Good P c o a w st':=by
 simp only[z1x,ho] at h;unfold zuv at h;split at h
 . rename_i mx;obtain⟨e,he,h0⟩:=z25 h;obtain⟨l,fp1,h1,hl⟩:=zgx h0 hb hs;obtain⟨hh,fp2,h2,hhr⟩:=zgx h1 hb hs;obtain⟨M,fp2b,h2b,hM,hMo,hMd,hrM⟩:=zw h2 hs (hb.globS hs);obtain⟨km,mxn,h2c,hmx⟩:=zkb h2b hM;obtain⟨A,fp3,h3,hA,hAo,hAd,hr⟩:=zw h2c hs (hb.globS hs);clear h h0 h1 h2 h2b h2c;split at h3
   . rename_i hsl;obtain⟨el,hd,hu⟩:=slT hb.env he hsl;obtain⟨d,st1,fp4,S1,ob1,h4,hs1,hS,hv,hlen⟩:=z6z h3 hs hA;clear h3;split at h4
     . rename_i u xs;split at h4
       . rename_i hel;obtain⟨ee,hee,het⟩:=zet hd hel;change VR S1 (.sl u) xs _ at hv;obtain⟨ad,cap,ex,hcap,hm⟩:=VR.sl_inv hv;split at h4
         . rename_i h;obtain⟨hck,h4⟩:=zr h4;have hck:=of_decide_eq_true hck;obtain⟨i,j,fp5,h5,hij,hj,hrun⟩:=z137 (P:=P) (w:=w) h4 hl hhr hmx hck.1 hck.2 hcap;have hsz:u.size=ee.size:=by rw[<- (hb.tyOk hee).size,het,zeg]
           have hj':j<=xs.length:=by omega
           refine zb (v:=.slice (if mxn.toNat=i then ad else ad.map (·.add (i*ee.size))) (j - i) (mxn.toNat - i)) (w':=w) ?_ (zk h5 hb hs1 ?_)
           . simp[execOp,ho,Instr.sliceAt,run_underlying hu,Instr.slice,ex,hrun,z13 (hb.tyOk hee)]
           . refine VR.of_one rfl ⟨_,_,by rw[z5c hj'],by rw[z5c hj'];omega,?_⟩;rcases hm with hm|⟨b,off,c1,had,hl1,hall⟩
             . left;rw[hm];simp[cut]
             . by_cases hij':i=j
               . left
                 have:=z5c (l:=i) hj';rw[hij',Nat.sub_self] at this;rw[hij'];exact List.length_eq_zero_iff.1 this
               . right
                 obtain⟨d0,d1,d2,hc1,hd0,hall'⟩:=hall.cut (Rd.length u) hij hj';refine⟨b,off+i*ee.size,d1,?_,?_,hall'⟩
                 . rw[if_neg (by omega),had];simp[z65]
                 . rw[<- hsz,<- hd0];exact zc7 hl1 hc1
         . exact (z6 h4).elim
       . exact (z6 h4).elim
     . exact (z6 h4).elim
   . exact (z6 h3).elim
 obtain⟨e,he,h0⟩:=z25 h;obtain⟨l,fp1,h1,hl⟩:=zgx h0 hb hs;obtain⟨hh,fp2,h2,hhr⟩:=zgx h1 hb hs;obtain⟨A,fp3,h3,hA,hAo,hAd,hr⟩:=zw h2 hs (hb.globS hs);clear h h0 h1 h2;split at h3
 . rename_i x1 x2 hstr;have hu:=z13q hb.env he hstr;split at h3
   . rename_i s;have ex:a.eval x=.string ⟨⟨s⟩⟩:=hA.1.str_inv;obtain⟨i,j,fp4,h4,hij,hj,hrun⟩:=zkd (P:=P) (w:=w) h3 hl hhr false (Nat.le_refl _);refine zb (v:=.string ⟨⟨cut s i j⟩⟩) (w':=w) ?_ (zk h4 hb hs VR.str);have hsz:=zbq s;have hex:(⟨⟨s⟩⟩:ByteArray).extract i j=⟨⟨cut s i j⟩⟩:=by
      apply ByteArray.ext;rw[ByteArray.data_extract];apply Array.toList_inj.1;rw[Array.toList_extract];simp only[List.extract,cut,List.drop_take]
     simp only[execOp,ho,Instr.sliceAt,Sem.run_bind,run_underlying hu,Result.andThen_ok,Instr.slice,ex,hsz,Option.map_none,Option.isSome_none,Bool.false_eq_true,if_false,Sem.run_pure,hrun,hex]
   . exact (z6 h3).elim
 . rename_i x1 x2 hsl x3;obtain⟨el,hd,hu⟩:=slT hb.env he hsl;split at h3
   . -- a row in a box,cut to nothing: it moves out
     rename_i r n p u0 hbt;obtain⟨t,z,u,xs,fp4,h6,hy,hin,hn,hf⟩:=z74 h3;clear h3;split at h6
     . rename_i hel;obtain⟨ee,hee,het⟩:=zet hd hel;obtain⟨b,cs,E',fr,b0,b1,b2,c0,c2,hob,hv,hcs,hfr,hcc,hl2,hrow,hput⟩:=hs.cel_row hA hy hin hn hf;have hrow0:=hrow;obtain⟨ad,cap,ex,hcap,hR⟩:∃ ad cap,a.eval x=.slice ad xs.length cap/\xs.length<=cap/\RowRel (hp w) S u [] (.slice (if cap=0 then ad else ad.map (·.add (0*ee.size))) (0 - 0) (cap - 0)) b1:=by
        rcases hrow with⟨hx0,⟨ad,e,hq⟩,ho⟩|⟨b',cap,cs',E2,fr2,ho,e,g1,g2,g3,g4,g5,g6⟩
        . subst hx0;exact⟨ad,0,e,Nat.le_refl _,.inl ⟨rfl,⟨ad,by simp,hq⟩,ho⟩⟩
        . refine⟨_,cap,e,g4,?_⟩;refine .inr ⟨b',cap,cs',E2,fr2,ho,?_,g1,g2,g3,Nat.zero_le _,by simp[All],g6⟩;split<;>simp[z65]
       obtain⟨i,j,fp5,h7,hij,hj,hrun⟩:=zkd (P:=P) (w:=w) h6 hl hhr true hcap;split at h7
       . rename_i hz;obtain⟨hi0,hj0⟩:=z7 hz;have hi0:=Nat.eq_of_beq_eq_true hi0;have hj0:=Nat.eq_of_beq_eq_true hj0;subst hi0;subst hj0;split at h7
         . rename_i q hq;obtain⟨hlt,fp6,h8⟩:=z1b h7;have hnd:=hs.nd r;rw[hob] at hnd;obtain⟨hnd1,hdis,hndb⟩:=zdp hnd;have hbox:ARel (hp w) S (tv a) (.box q.1 q.2) (tv a r) (b::(b0++([]++b2))):=by
            refine⟨b,cs,E',fr,_,rfl,hv,hcs,hfr,?_⟩;rw[hcc];exact hput (hp w) _ (Sub.refl _) (fun _ _=>rfl) .any () [a.eval x] [] q hq ⟨rfl,_,rfl,hrow0.one⟩
           have hs1:=hs.content' (w':=w) hlt (b:=b) (by rw[hob];simp) hbox rfl hnd1 (fun k hk=>.inl (by rw[hob];simp at hk ⊢;rcases hk with h|h|h<;>simp[h])) (fun _ _=>rfl) hs.frame;have hmem:∀ k∈b1,k∈ob r:=fun k hk=>by rw[hob];simp[hk]
           refine zb (v:=.slice (if cap=0 then ad else ad.map (·.add (0*ee.size))) (0 - 0) (cap - 0)) (w':=w) ?_ (z11 h8 hb hs1 (o':=b1) hR (fun k hk=>⟨fun i hi=>by
            split at hi
            . exact hdis k hk hi
            . rename_i hne;exact hne (hs.inj i r k hi (hmem k hk)),hs.hid r k (hmem k hk),hs.fresh r k (hmem k hk)⟩) hndb)
           simp[execOp,ho,Instr.sliceAt,run_underlying hu,Instr.slice,ex,hrun,z13 (hb.tyOk hee)]
         . exact (z6 h7).elim
       . exact (z6 h7).elim
     . exact (z6 h6).elim
   obtain⟨d,st1,fp4,S1,ob1,h4,hs1,hS,hv,hlen⟩:=z6z h3 hs hA;clear h3;split at h4
   . rename_i u xs;split at h4
     . rename_i hel;obtain⟨ee,hee,het⟩:=zet hd hel;change VR S1 (.sl u) xs _ at hv;obtain⟨ad,cap,ex,hcap,hm⟩:=VR.sl_inv hv;obtain⟨i,j,fp5,h5,hij,hj,hrun⟩:=zkd (P:=P) (w:=w) h4 hl hhr true hcap;have hsz:u.size=ee.size:=by rw[<- (hb.tyOk hee).size,het,zeg]
       refine zb (v:=.slice (if cap=i then ad else ad.map (·.add (i*ee.size))) (j - i) (cap - i)) (w':=w) ?_ (zk h5 hb hs1 ?_)
       . simp[execOp,ho,Instr.sliceAt,run_underlying hu,Instr.slice,ex,hrun,z13 (hb.tyOk hee)]
       . refine VR.of_one rfl ⟨_,_,by rw[z5c hj],by rw[z5c hj];omega,?_⟩;rcases hm with hm|⟨b,off,c1,had,hl1,hall⟩
         . left;rw[hm];simp[cut]
         . by_cases hij':i=j
           . left
             have:=z5c (l:=i) hj;rw[hij',Nat.sub_self] at this;rw[hij'];exact List.length_eq_zero_iff.1 this
           . right
             obtain⟨d0,d1,d2,hc1,hd0,hall'⟩:=hall.cut (Rd.length u) hij hj;refine⟨b,off+i*ee.size,d1,?_,?_,hall'⟩
             . rw[if_neg (by omega),had];simp[z65]
             . rw[<- hsz,<- hd0];exact zc7 hl1 hc1
     . exact (z6 h4).elim
   . exact (z6 h4).elim
 . split at h3
   . rename_i m r n p u q hm;split at h3
     . rename_i m' v hty;split at h3
       . rename_i hck;obtain⟨hmm,hel⟩:=z7 hck;obtain⟨el,hd,hu⟩:=z1aa hb.env he hm;obtain⟨ee,hee,het⟩:=z9o hd hel;subst het;have hmm:=z3x hmm;subst hmm;obtain⟨_,b,cs,E',fr,b',len,cap,e2,e3,e4,ex⟩:=hA;obtain⟨i,j,fp4,h4,hij,hj,hrun⟩:=zkd (P:=P) (w:=w) h3 hl hhr false (Nat.le_refl _);refine zb (v:=.slice (some (if m=i then ⟨b',z16 (.arr 0 u) q,none⟩ else (⟨b',z16 (.arr 0 u) q,none⟩:Addr).add (i*ee.size))) (j - i) (m - i)) (w':=w) ?_
          (z11 h4 hb hs (o':=[]) ⟨rfl,b,cs,E',fr,b',len,cap,e2,e3,e4,m,ee.t,m - i,(if m=i then ⟨b',z16 (.arr 0 u) q,none⟩ else (⟨b',z16 (.arr 0 u) q,none⟩:Addr).add (i*ee.size)).off,hty,hij,hj,by omega,?_,?_⟩ (fun b e=>by cases e))
         . simp[execOp,ho,Instr.sliceAt,run_underlying hu,ex,Instr.sureAddr,hrun,z13 (hb.tyOk hee)]
         . intro hlt;rw[if_neg (by omega),(hb.tyOk hee).size];simp[z65]
         . split<;>simp[z65]
       . exact (z6 h3).elim
     . exact (z6 h3).elim
   . exact (z6 h3).elim
theorem SimD.psl_open (hs:SimD c st a w S ob) {r n lo hi:Nat} {p q:List Step} {u:T} {v:Value} (hA:ARel (hp w) S (tv a) (.psl r n p u q lo hi) v []) {t:T} {x:t.den} (hy:st.getD r .dead=.box t x) (hin:inb t x p=true) (hn:n=z16 t p) {xs:List u.den} (hf:foc t x p=⟨.own u,xs⟩) (hq:zx0 (.arr 0 u) xs q=true) :
 ∃ (m:Nat) (t':T) (zs:List t'.den) (b':Nat) (cs:Array Value) (E':TypeId) (fr:Nat×Nat) (c0 c1 c2:List Value) (cap2 off:Nat),foc (.arr 0 u) xs q=⟨.arr m t',zs⟩/\zs.length=m/\lo<=hi/\hi<=m/\hi - lo<=cap2/\(lo<hi->off=c0.length+lo*t'.size)/\v=.slice (some ⟨b',off,none⟩) (hi - lo) cap2 ∧
   hp w b'=some (.cells cs E' fr)/\Free cs fr/\cs.toList=c0++(c1++c2)/\All (Rd S t') zs c1/\b'∈ob r/\r<st.length ∧
   ∀ (t2:T) (z:t2.den) (d:List Value) (xs':List u.den) (w':World) (cs':Array Value) (Z:Dat),z7d (.arr 0 u) xs q t2 z=some xs'->Rd S t2 z d->z4o t x p (.own u) xs'=some Z->hp w' b'=some (.cells cs' E' fr)->(∀ k,k≠b'->hp w' k=hp w k)->cs'.toList=c0++(d++c2) →
     t2=.arr m t'/\ARel (hp w') S (tv a) (.box Z.1 Z.2) (tv a r) (ob r):=by
 obtain⟨_,b,csb,Eb,frb,b',len,cap,hbl,hcb,hcell,m,t',cap2,off,hty,h1,h2,h3,h4,hv⟩:=hA;obtain⟨b2,cs,E',fr,c0,c1,c2,ep,hcs,hfr,hc,hl,hrd,hbm,hr,hup⟩:=hs.pel_open (v:=.pointer (some ⟨b',z16 (.arr 0 u) q,none⟩)) ⟨rfl,b,csb,Eb,frb,b',len,cap,hbl,hcb,hcell,rfl⟩ hy hin hn hf hq;have hb':b2=b':=by cases ep;rfl
 subst hb';have hfo:=z9t (.arr 0 u) xs q _ hty;generalize hz:foc (.arr 0 u) xs q=z at *;obtain⟨zt,zx⟩:=z;dsimp only at hrd hup hfo;subst hfo;obtain⟨hzl,hall⟩:=hrd;exact⟨m,t',zx,b2,cs,E',fr,c0,c1,c2,cap2,off,rfl,hzl,h1,h2,h3,fun h=>by rw[hl];exact h4 h,hv,hcs,hfr,hc,hall,hbm,hr,hup⟩
theorem zzh {α:Type} {r:α×List Lift.A×FP} {A:Lift.A} {v:Value} {k:Dat->Cmd α} (h:zn E (z168 A k) st fp=some r) (hs:SimD c st a w S ob) (hA:ARel (hp w) S (tv a) A v []) :
 ∃ d fp',zn E (k d) st fp'=some r/\VR (hp w) d.1 d.2 v:=by
 unfold z168 at h;split at h
 . rename_i r' n p u q lo hi;obtain⟨t,x,u',xs,fp1,h,hy,hin,hn,hf⟩:=z74 h;split at h
   . rename_i xs' hx;obtain⟨eu,ex'⟩:=z12 hx;cases eu;subst ex';obtain⟨hq,h⟩:=zr h;obtain⟨m,t',zs,b',cs,E',fr,c0,c1,c2,cap2,off,hz,hzl,h1,h2,h3,h4,hv,hcs,hfr,hc,hall,_⟩:=hs.psl_open hA hy hin hn hf hq;dsimp only at h;rw[hz] at h;refine⟨_,fp1,h,VR.of_one rfl ⟨some ⟨b',off,none⟩,cap2,?_,?_,?_⟩⟩
     . rw[z5c (by omega),hv]
     . rw[z5c (by omega)];exact h3
     . by_cases hlt:lo<hi
       . right
         obtain⟨d0,d1,d2,hc1,hd0,hall'⟩:=hall.cut (Rd.length t') h1 (by omega);refine⟨b',off,d1,rfl,?_,All.mono (Rd.mono hs.sub t') _ _ hall'⟩;rw[h4 hlt,<- hd0];exact zc7 ⟨cs,E',fr,c0,c2,hcs,hc,rfl⟩ hc1
       . left
         apply List.length_eq_zero_iff.1;rw[z5c (by omega)];omega
   . exact (z6 h).elim
 . exact zlq h hs hA
theorem z18o {e:TyI} {i:TypeId} (hb:EnvOk P E) (he:E.ty i=some e) (h:zh2 E e.desc=true):∃ el,P.underlying i=some (.slice el)/\P.underlying el=some (.int .u8)/\e.desc=.slice el/\∃ ee,E.ty el=some ee:=by
 unfold zh2 at h;split at h
 . rename_i el hd;split at h
   . rename_i ee hee;split at h
     . rename_i hde;exact⟨el,by rw[(hb.ty _ _ he).und,hd],by rw[(hb.ty _ _ hee).und,hde],hd,ee,hee⟩
     . simp at h
   . simp at h
 . simp at h
theorem zhs {S:Hp}{k:IntKind}:∀ (xs:List Int) (cs:List Value),All (Rd S (.int k)) xs cs->cs=xs.map (Value.int k)
 | [],_,h=>h
 | x::xs,_,⟨c1,c2,e,h1,h2⟩=>by
   rw[e,zhs xs c2 h2];have:c1=[.int k x]:=h1;rw[this];rfl
theorem zgc {S:Hp}{k:IntKind}:∀ (xs:List Int),All (Rd S (.int k)) xs (xs.map (Value.int k))
 | []=>rfl
 | x::xs=>⟨[.int k x],_,rfl,rfl,zgc xs⟩
theorem zx3 (ns:List Int):∀ (l:List UInt8),ns.foldl (fun r n=>r.push (UInt8.ofNat n.toNat)) (⟨⟨l⟩⟩:ByteArray)=⟨⟨l++z43 ns⟩⟩:=by
 induction ns with
 | nil=>intro l;simp[z43]
 | cons n ns ih =>
   intro l;have:(⟨⟨l⟩⟩:ByteArray).push (UInt8.ofNat n.toNat)=⟨⟨l++[UInt8.ofNat n.toNat]⟩⟩:=by
    simp[ByteArray.push]
   rw[List.foldl_cons,this,ih];simp[z43]
theorem zb6 {ad:Addr}{E:TypeId}{n:Nat}(h:w.shape? ad.block=some (E,n)):(markStringish ad).run P w=.ok () (w.freeze { block:=ad.block,off:=n } 1):=by
 simp[markStringish,h]
theorem z10g {s t : TypeId} {x:Operand} (ho:o.op=.convert s t x) (h:zn E (z1x E o) st fp=some ((),st',fp')) (hb:Base P E c) (hs:SimD c st a w S ob):Good P c o a w st':=by
 simp only[z1x,ho] at h;unfold z10h at h;obtain⟨es,hes,h0⟩:=z25 h;obtain⟨e,he,h1⟩:=z25 h0;obtain⟨A,fp3,h3,hA,hAo,hAd,hr⟩:=zw h1 hs (hb.globS hs);clear h h0 h1;have hus:=(hb.tyOk hes).und;have hut:=(hb.tyOk he).und;split at h3
 . rename_i x1 a0 k k' n hd;have ex:a.eval x=.int k' n:=hA.1.int_inv;rw[hd] at hut;exact zb (v:=.int k (k.wrap n)) (w':=w) (by simp[execOp,ho,convert,run_underlying hus,run_underlying hut,ex,Conv.intToInt]) (zk h3 hb hs VR.int)
 . rename_i x1 a0 u hd;have ex:a.eval x=.string ⟨⟨u⟩⟩:=hA.1.str_inv;rw[hd] at hut;exact zb (v:=.string ⟨⟨u⟩⟩) (w':=w) (by simp[execOp,ho,convert,run_underlying hus,run_underlying hut,ex]) (zk h3 hb hs VR.str)
 . rename_i x1 a0 hd hne;rw[hd] at hut;split at h3
   . rename_i hby;obtain⟨el,hu,hue,hde,ee,hee⟩:=z18o hb.env hes hby;split at h3
     . have ex:a.eval x=.slice none 0 0:=hA.1;exact zb (v:=.string ⟨⟨[]⟩⟩) (w':=w) (by simp[execOp,ho,convert,run_underlying hu,run_underlying hut,run_underlying hue,ex,Conv.bytesToString];rfl) (zk h3 hb hs VR.str)
     . obtain⟨d,fp4,h4,hv⟩:=zzh h3 hs hA;clear h3;split at h4
       . rename_i xs;obtain⟨ad,cap,ex,hcap,hm⟩:=VR.sl_inv hv;have hload:∀ b,ad=some b->(loadCells b (List.length xs)).run P w=.ok (xs.map (Value.int .u8)).toArray w:=by
          intro b hb';rcases hm with hm|⟨b',off,c1,had,hl1,hall⟩
          . subst hm;rfl
          . rw[hb'] at had;cases had;have hc1:=zhs _ _ hall;have:=z2g (P:=P) hl1;rw[hc1,List.length_map] at this;exact this
         refine zb (v:=.string ⟨⟨z43 xs⟩⟩) (w':=w) ?_ (zk h4 hb hs VR.str);have hconv:(Conv.bytesToString (a.eval x)).run P w=.ok (.string ⟨⟨z43 xs⟩⟩) w:=by
          rw[ex];cases had:ad with
          | none =>
            rcases hm with hm|⟨b',off,c1,had',_⟩
            . subst hm;rfl
            . rw[had] at had';cases had'
          | some b =>
            rw[run_bytesToString w b xs.length cap xs (hload b had)];have:=zx3 xs [];simp only[List.nil_append] at this;rw[show (ByteArray.empty)=(⟨⟨[]⟩⟩:ByteArray) from rfl,this]
         rw[ex] at hconv;simp[execOp,ho,convert,run_underlying hu,run_underlying hut,run_underlying hue,ex,hconv]
       . exact (z6 h4).elim
   . exact (z6 h3).elim
 . rename_i x1 a0 el u hd;split at h3
   . rename_i hck;obtain⟨hst,hby⟩:=z7 hck;obtain⟨el',hu,hue,hde,ee,hee⟩:=z18o hb.env he hby;have hel:el'=el:=by rw[hd] at hde;cases hde;rfl
     subst hel;have hus':=z13q hb.env hes hst;have ex:a.eval x=.string ⟨⟨u⟩⟩:=hA.1.str_inv;have hsz:=zbq u
     let cap:=u.length+w.tape w.drawn (.appendCap u.length 0 el') % (2^63 - u.length)
     have hcap:u.length<=cap:=Nat.le_add_right _ _
     let elems:Array Value:=(⟨u⟩:Array UInt8).map fun b=>.int .u8 b.toNat
     let cs:Array Value:=elems++Array.replicate (cap - u.length) (.int .u8 0)
     have hcs:cs.size=cap:=by simp[cs,elems];omega
     let w1:World:=pushed { w with drawn:=w.drawn+1 } (.cells cs el' (cs.size,cs.size+1))
     have hdr:SimD c st a { w with drawn:=w.drawn+1 } S ob:=hs.world (Sub.refl _) ⟨hs.frame.size,hs.frame.same,hs.frame.tape,hs.frame.os,hs.frame.output⟩;obtain⟨g1,g2,g3,g4⟩:=hdr.pushed (.cells cs el' (cs.size,cs.size+1));refine zb (v:=.slice (some ⟨w.heap.size,0,none⟩) u.length cap) (w':=w1) ?_ (z11 h3 hb g1 (o':=[w.heap.size]) (.inr ⟨w.heap.size,cap,cs,el',_,rfl,?_,z4x _ _,?_,?_,?_,?_⟩) (fun b e=>by simp at e;subst e;exact⟨g2,g3,g4⟩))
     . have hfz:(World.freeze (pushed { w with drawn:=w.drawn+1 } (.cells cs el')) ⟨w.heap.size,cs.size,none⟩ 1)=w1:=by
        simp only[World.freeze,Nat.one_ne_zero,if_false,w1,pushed];congr 1;apply Array.ext_getElem?;intro i;rw[Array.getElem?_modify];by_cases hi:w.heap.size=i
        . subst hi;simp
        . rw[if_neg hi,Array.getElem?_push,Array.getElem?_push,if_neg (Ne.symm hi),if_neg (Ne.symm hi)]
       have hmk:(markStringish ⟨w.heap.size,0,none⟩).run P (pushed { w with drawn:=w.drawn+1 } (.cells cs el'))=.ok () w1:=by
        rw[zb6 (E:=el') (n:=cs.size) (by simp[World.shape?,pushed]),hfz]
       have hstb:(Conv.stringToBytes el' ⟨⟨u⟩⟩).run P w=.ok (.slice (some ⟨w.heap.size,0,none⟩) u.length cap) w1:=by
        simp only[Conv.stringToBytes,Sem.run_bind,run_choose,Question.forced,Bool.false_eq_true,if_false,Result.andThen_ok,hsz,Question.cut,zb5];rw[hmk];rfl
       simp only[execOp,ho,Sem.run_bind,convert,run_underlying hus',run_underlying hut,hd,Result.andThen_ok,ex,run_underlying hue,hstb,Sem.run_pure]
     . simp[z4p]
     . exact⟨by simp,fun i hi h'=>by simp at h';omega⟩
     . simp[hcs,T.size]
     . simpa[z4p] using hcap
     . have:cs.toList.take ((z4p u).length*(T.int .u8).size)=(z4p u).map (Value.int .u8):=by
        simp[cs,elems,z4p,T.size]
       rw[this];exact⟨zgc _,fun q hq=>by cases hq⟩
   . exact (z6 h3).elim
 . rename_i x1 a0 el r hd;split at h3
   . rename_i hck;obtain⟨hst,hby⟩:=z7 hck;have hst':s=t:=Nat.eq_of_beq_eq_true hst;subst hst';obtain⟨el',hu,hue,hde,ee,hee⟩:=z18o hb.env he hby;obtain⟨fp4,h4⟩:=zy h3;generalize hy:st.getD r .dead=y at h4;split at h4
     . rename_i xs;split at h4
       . rename_i hlen;obtain⟨hlt,fp5,h5⟩:=z1b h4;rcases hs.row_at hy with⟨h0,_⟩|⟨b,cap,cs,E',fr,hob,hv,hcs,hfr,hsz,hle,hall,hE⟩
         . subst h0;cases hlen
         . have ex : a.eval x=.slice (some ⟨b,0,none⟩) xs.length cap:=hA.1.trans hv;obtain⟨fr',hfr',hmk⟩:∃ fr',Free cs fr'/\(markStringish ⟨b,0,none⟩).run P w=.ok () (z19 w b (.cells cs E' fr')):=by
            refine⟨if fr.1 == fr.2 then (cs.size,cs.size+1) else (min fr.1 cs.size,max fr.2 (cs.size+1)),?_,?_⟩
            . split
              . exact⟨by simp,fun i hi h'=>by simp at h';omega⟩
              . rename_i hne;have hne':fr.1≠fr.2:=by simpa using hne
                have h1:=hfr.1;have h2:cs.size<=fr.1:=by
                 rcases Nat.lt_or_ge fr.1 cs.size with h|h
                 . exact absurd ⟨Nat.le_refl _,by omega⟩ (hfr.2 fr.1 h)
                 . exact h
                exact⟨by simp;omega,fun i hi h'=>by simp at h';omega⟩
            . have hcs':w.heap[b]?=some (.cells cs E' fr):=hcs;have hlb:b<w.heap.size:=(Array.getElem?_eq_some_iff.1 hcs').1;rw[zb6 (E:=E') (n:=cs.size) (by simp[World.shape?,hcs'])];congr 1;simp only[World.freeze,Nat.one_ne_zero,if_false,z19];congr 1;apply Array.ext_getElem?;intro i;rw[Array.getElem?_modify];by_cases hi:b=i
              . subst hi;rw[Array.getElem?_setIfInBounds_self_of_lt hlb,if_pos rfl,hcs'];rfl
              . rw[if_neg hi,Array.getElem?_setIfInBounds_ne hi]
           have hs1:=hs.content (w':=z19 w b (.cells cs E' fr')) hlt (b:=b) (by rw[hob];simp) (x:=.row (.int .u8) xs) (.inr ⟨b,cap,cs,E',fr',hob,hv,z1y hcs,hfr',hsz,hle,hall,hE⟩) rfl (fun b' hne=>zo hne) (hs.frame.setObj (hs.fresh r b (by rw[hob];simp)) _);obtain⟨d,st2,fp6,S',ob',h6,hs2,hSS,hvr,hl⟩:=z6z h5 hs1 (v:=a.eval x) ⟨hA.1,rfl⟩;refine zb (v:=a.eval x) (w':=z19 w b (.cells cs E' fr')) ?_ (zk h6 hb hs2 hvr);have hbq:(s == s)=true:=by simp
           simp only[execOp,ho,Sem.run_bind,convert,run_underlying hu,Result.andThen_ok,ex,run_underlying hue,hbq,hmk,Sem.run_pure]
       . exact (z6 h4).elim
     . exact (z6 h4).elim
   . exact (z6 h3).elim
 . exact (z6 h3).elim
end
end
end Go.Lift
