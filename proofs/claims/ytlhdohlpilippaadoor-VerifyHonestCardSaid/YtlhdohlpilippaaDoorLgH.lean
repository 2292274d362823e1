import Derived.Test.YtlhdohlpilippaaDoorLgG
import Derived.Laws.BytesString
import Derived.Laws.Append
set_option linter.all false
namespace Go.Lift
noncomputable section
section
variable {P:Program} {E:Env} {c:Ctx} {st st':List A} {fp fp':FP} {a:Act} {w w':World} {S:Hp} {ob:Nat->List Nat} {o:Oper}
theorem VR.sl_inv {S:Hp}{t:T}{xs:List t.den}{v:Value}(h:VR S (.sl t) xs v):∃ ad cap,v=.slice ad xs.length cap/\xs.length<=cap ∧
 (xs=[]\/∃ b off c1,ad=some ⟨b,off,none⟩/\Lies S b off c1/\All (Rd S t) xs c1):=by
 simp only[VR,T.isAgg,Bool.false_eq_true,if_false] at h;obtain⟨ad,cap,e,hc,h⟩:=h;simp only[List.cons.injEq,and_true] at e;exact⟨ad,cap,e,hc,h⟩
theorem VR.ptr_inv {S:Hp}{t:T}{x:t.den}{v:Value}(h:VR S (.ptr t) x v):∃ b off c1,v=.pointer (some ⟨b,off,none⟩)/\Lies S b off c1/\Rd S t x c1:=by
 simp only[VR,T.isAgg,Bool.false_eq_true,if_false] at h;obtain⟨b,off,c1,e,hl,h⟩:=h;simp only[List.cons.injEq,and_true] at e;exact⟨b,off,c1,e,hl,h⟩
theorem VR.ptr_mk {S:Hp}{t:T}{x:t.den}{b off:Nat}{c1:List Value}(hl:Lies S b off c1)(hr:Rd S t x c1):VR S (.ptr t) x (.pointer (some ⟨b,off,none⟩)) :=
 VR.of_one rfl ⟨b,off,c1,rfl,hl,hr⟩
theorem slT {E:Env}{i:TypeId}{e:TyI}(hb:EnvOk P E)(he:E.ty i=some e)(h:z1a6 e.desc=true):∃ el,e.desc=.slice el/\P.underlying i=some (.slice el):=by
 rw[(hb.ty i e he).und];cases hd:e.desc<;>rw[hd] at h<;>simp[z1a6] at h ⊢
theorem z1aa {E:Env}{i:TypeId}{e:TyI}{n:Nat}(hb:EnvOk P E)(he:E.ty i=some e)(h:zs3 e.desc=some n):∃ el,e.desc=.array n el/\P.underlying i=some (.array n el):=by
 rw[(hb.ty i e he).und];cases hd:e.desc<;>rw[hd] at h<;>simp[zs3] at h
 subst h;exact⟨_,rfl,rfl⟩
theorem zet {E:Env}{e:TyI}{el:TypeId}{t:T}(hd:e.desc=.slice el)(h:z78 E e t=true):∃ ee,E.ty el=some ee/\ee.t=unT t:=by
 unfold z78 at h;rw[hd] at h;dsimp only at h;split at h
 . rename_i ee hee;exact⟨ee,hee,by simpa[teq] using h⟩
 . simp at h
theorem z9o {E:Env}{e:TyI}{n:Nat}{el:TypeId}{t:T}(hd:e.desc=.array n el)(h:z78 E e t=true):∃ ee,E.ty el=some ee/\ee.t=t:=by
 unfold z78 at h;rw[hd] at h;dsimp only at h;split at h
 . rename_i ee hee;exact⟨ee,hee,by simpa[teq] using h⟩
 . simp at h
theorem za3 {n:Int}{len:Nat}(h:inR n len=true):0<=n/\n<len/\n.toNat<len:=by
 unfold inR at h;have:=of_decide_eq_true h;exact⟨this.1,this.2,by omega⟩
theorem zln {mx:Bool}{x y:Operand}{argTypes:Array TypeId}(ho:o.op=.call { callee:=.builtin (if mx then .max else .min),args:=#[x,y],argTypes })
 (h:zn E (zgz E mx x y o.dst) st fp=some ((),st',fp')) (hb:Base P E c) (hs:SimD c st a w S ob):Good P c o a w st':=by
 unfold zgz at h;obtain⟨A,fp1,h1,hA,hAo,hAd,hr⟩:=zw h hs (hb.globS hs);obtain⟨B,fp2,h2,hB,hBo,hBd,hr2⟩:=zw h1 hs (hb.globS hs);clear h h1;split at h2
 . rename_i k m k' n;have ex:a.eval x=.int k m:=hA.1.int_inv;have ey:a.eval y=.int k' n:=hB.1.int_inv;split at h2
   . cases mx
     . exact zb (v:=.int k (if n<m then n else m)) (w':=w) (by simp[execOp,ho,resolve,invoke,builtin,ex,ey,Builtin.min_,Builtin.min2]) (zk h2 hb hs VR.int)
     . exact zb (v:=.int k (if n > m then n else m)) (w':=w) (by simp[execOp,ho,resolve,invoke,builtin,ex,ey,Builtin.max_,Builtin.max2]) (zk h2 hb hs VR.int)
   . exact (z6 h2).elim
 . exact (z6 h2).elim
theorem z12n {x:Operand} {t:TypeId} (ho:o.op=.call { callee:=.builtin .len,args:=#[x],argTypes:=#[t] })
 (h:zn E (zzl E t x o.dst) st fp=some ((),st',fp')) (hb:Base P E c) (hs:SimD c st a w S ob):Good P c o a w st':=by
 unfold zzl at h;obtain⟨e,he,h0⟩:=z25 h;obtain⟨A,fp1,h1,hA,hAo,hAd,hr⟩:=zw h0 hs (hb.globS hs);clear h h0;have hrun:∀ v,(Builtin.len_ #[t] o.type #[a.eval x]).run P w=.ok v w->(execOp a.eval o).run P w=.ok (.value v) w:=by
  intro v hv;simp[execOp,ho,resolve,invoke,builtin,hv]
 split at h1
 . rename_i hstr;have hu:=z13q hb.env he hstr;split at h1
   . rename_i s;have ex:a.eval x=.string ⟨⟨s⟩⟩:=hA.1.str_inv;refine zb (hrun (.int .i64 (s.length:Int)) ?_) (zk h1 hb hs VR.int);simp[Builtin.len_,run_underlying hu,ex,goInt,zbq]
   . exact (z6 h1).elim
 . rename_i x1 x2 hsl x3;obtain⟨el,hd,hu⟩:=slT hb.env he hsl;split at h1
   . have ex:a.eval x=.slice none 0 0:=hA.1;refine zb (hrun (.int .i64 0) ?_) (zk h1 hb hs VR.int);simp[Builtin.len_,run_underlying hu,ex,goInt]
   . obtain⟨d,fp2,h2,hv⟩:=zlq h1 hs hA;clear h1;split at h2
     . rename_i u xs;obtain⟨ad,cap,ex,_⟩:=VR.sl_inv hv;refine zb (hrun (.int .i64 (xs.length:Int)) ?_) (zk h2 hb hs VR.int);simp[Builtin.len_,run_underlying hu,ex,goInt]
     . exact (z6 h2).elim
 . split at h1
   . rename_i hm;obtain⟨ki,vi,hu⟩:∃ k v,P.underlying t=some (.map k v):=by
      unfold isMp at hm;split at hm
      . rename_i k v hd;exact⟨k,v,by rw[(hb.env.ty _ _ he).und,hd]⟩
      . cases hm
     obtain⟨p,q,m,put,fp2,h2,o1,hmp,_,_⟩:=zi5 h1 hs hA;refine zb (hrun (.int .i64 ((m.getD []).length:Int)) ?_) (zk h2 hb hs VR.int);rcases hmp with⟨e1,e2,_⟩|⟨xs,b,es,cl,e1,e2,e3,e4,e5,_⟩
     . simp[Builtin.len_,run_underlying hu,e2,goInt,e1]
     . have hl:=e5.length;simp only[Array.length_toList] at hl;simp[Builtin.len_,run_underlying hu,e3,goInt,e1,z6c e4,hl]
   . exact (z6 h1).elim
theorem zre {x:Operand} {i:Nat} (ho:o.op=.extract x i) (h:zn E (z1x E o) st fp=some ((),st',fp')) (hb:Base P E c) (hs:SimD c st a w S ob):Good P c o a w st':=by
 simp only[z1x,ho,zo6] at h;obtain⟨A,fp1,h1,hA,hAo,hAd,hr⟩:=zw h hs (hb.globS hs);clear h;split at h1
 . rename_i l;obtain⟨_,vs,ex,ht⟩:=hA;split at h1
   . rename_i z hz;have key:∀ (l:List Dat) (vs:List Value) (i:Nat) (z:Dat),TupRel S l vs->l[i]?=some z->∃ v,vs[i]?=some v/\VR S z.1 z.2 v:=by
      intro l vs i z ht
      induction ht generalizing i with
      | nil=>intro hz;simp at hz
      | cons hv _ ih =>
        intro hz;cases i with
        | zero=>simp at hz;subst hz;exact⟨_,rfl,hv⟩
        | succ i=>simpa using ih i (by simpa using hz)
     obtain⟨v,hv,hvr⟩:=key _ _ _ _ ht hz;have hv':vs[i]?=some v:=by rw[<- Array.getElem?_toList];exact hv
     exact zb (v:=v) (w':=w) (by simp[execOp,ho,ex,Instr.extract,hv']) (zk h1 hb hs hvr)
   . exact (z6 h1).elim
 . rename_i r;obtain⟨fp2,h2⟩:=zy h1;clear h1;split at h2
   . rename_i l hy;obtain⟨vs,ev,hot⟩:=hs.rel r _ (zm hy (by simp));split at h2
     . rename_i z hz;obtain⟨v,o1,o2,hv,hvo,hot2,hperm⟩:=hot.part hz;have hrun:(execOp a.eval o).run P w=.ok (.value v) w:=by
        have hv':vs[i]?=some v:=by rw[<- Array.getElem?_toList];exact hv
        simp[execOp,ho,hA.1,ev,Instr.extract,hv']
       split at h2
       . rename_i hn;exact zb hrun (zk h2 hb hs (hvo.vr hn).2)
       . split at h2
         . rename_i hov;obtain⟨hlt,fp3,h3⟩:=z1b h2;have hnd:=hperm.nodup_iff.1 (hs.nd r);have hs2:=hs.recast (x:=.otup (l.set i ⟨fgt z.1,z104 z.1 z.2⟩)) (o':=o2) hlt ⟨vs,ev,hot2⟩ rfl (List.nodup_append.1 hnd).2.1 (fun k hk=>hperm.mem_iff.2 (by simp[hk]));refine zb hrun (z11 h3 hb hs2 (o':=o1) ⟨hov,hvo⟩ (fun b hb'=>?_) (List.nodup_append.1 hnd).1);have hbr:b∈ob r:=hperm.mem_iff.2 (by simp[hb']);refine⟨fun i hi=>?_,hs.hid r b hbr,hs.fresh r b hbr⟩;split at hi
           . exact (List.nodup_append.1 hnd).2.2 b hb' b hi rfl
           . rename_i hne;exact hne (hs.inj i r b hi hbr)
         . exact (z6 h2).elim
     . exact (z6 h2).elim
   . exact (z6 h2).elim
 . exact (z6 h1).elim
theorem z49 {e:TyI} {f:Nat} (h:zii E e f=true) :
 ∃ fs g eg,e.desc=.struct fs/\fs[f]?=some g/\E.ty g.type=some eg/\z16 e.t [.fld f]=g.offset/\eg.size≠0/\z1d e.t [.fld f]=some eg.t:=by
 unfold zii at h;split at h
 . rename_i fs hfs;split at h
   . rename_i g hg;split at h
     . rename_i eg heg;obtain⟨h1,h2⟩:=z7 h;obtain⟨h1,h3⟩:=z7 h1;split at h2
       . rename_i u hu;have hd:e.desc=.struct fs:=by cases hd:e.desc<;>rw[hd] at hfs<;>simp[fieldsOf] at hfs;subst hfs;rfl
         refine⟨fs,g,eg,hd,hg,heg,by simpa using h1,?_,?_⟩
         . intro e0;rw[e0] at h3;simp at h3
         . rw[hu];congr 1;simpa[teq] using h2
       . simp at h2
     . simp at h
   . simp at h
 . simp at h
theorem zbg:∀ (t:T) (x:t.den) (f:Nat) (u:T),z1d t [.fld f]=some u->(foc t x [.fld f]).1=u/\inb t x [.fld f]=true
 | .pair a b,x,f,u,h=>by
   cases f with
   | zero =>
     cases a<;>simp[z1d] at h<;>subst h<;>simp[foc,inb]
   | succ f =>
     have:=zbg b x.2 f u (by simpa[z1d] using h);simpa[foc,inb] using this
 | .int _,_,_,_,h=>by simp[z1d] at h
 | .bool,_,_,_,h=>by simp[z1d] at h
 | .str,_,_,_,h=>by simp[z1d] at h
 | .opq,_,_,_,h=>by simp[z1d] at h
 | .unit,_,_,_,h=>by simp[z1d] at h
 | .arr _ _,_,_,_,h=>by simp[z1d] at h
 | .sl _,_,_,_,h=>by simp[z1d] at h
 | .ptr _,_,_,_,h=>by simp[z1d] at h
 | .own _,_,_,_,h=>by simp[z1d] at h
 | .any,_,_,_,h=>by simp[z1d] at h
 | .byt _,_,_,_,h=>by simp[z1d] at h
 | .self _,_,_,_,h=>by simp[z1d] at h
 | .fn _ _,_,_,_,h=>by simp[z1d] at h
theorem zpb (hs:SimD c st a w S ob){s b:Nat}(h:b∈ob s):(∀ i,b∉(fun i=>if i=s then [] else ob i) i)/\S b=none/\(c.B0 b\/c.w0.heap.size<=b):=by
 refine⟨fun i e=>?_,hs.hid _ _ h,hs.fresh _ _ h⟩;dsimp only at e;split at e
 . cases e
 . rename_i hne;exact hne (hs.inj i s b e h)
theorem zx4 {s:TypeId} {x:Operand} {f:Nat} (ho:o.op=.field s x f) (h:zn E (z1x E o) st fp=some ((),st',fp')) (hb:Base P E c) (hs:SimD c st a w S ob):Good P c o a w st':=by
 simp only[z1x,ho,zvq] at h;obtain⟨e,he,h0⟩:=z25 h;clear h;split at h0
 . exact (z6 h0).elim
 . rename_i hf;obtain⟨A,fp1,h1,hA,hAo,hAd,hr⟩:=zw h0 hs (hb.globS hs);clear h0;split at h1
   . rename_i t y;split at h1
     . rename_i y' hy;obtain⟨fs,g,eg,hd,hg,heg,hoff,hsz,hty⟩:=z49 hf;have hv:VR S e.t y' (a.eval x):=ztp hy hA.1;obtain⟨hfoc,hin⟩:=zbg e.t y' f eg.t hty;obtain⟨c0,c1,c2,hc,hl,hrd,_⟩:=z13z e.t y' [.fld f] _ hv.cells hin;have hag:e.t.isAgg=true:=by rw[<- (hb.env.ty _ _ he).agg,hd];rfl
       obtain⟨cs,ex⟩:∃ cs,a.eval x=.agg cs:=by
        unfold VR at hv;rw[if_pos hag] at hv;obtain⟨cs,ex,_⟩:=hv;exact⟨cs,ex⟩
       rw[ex] at hc;have hc:cs.toList=c0++(c1++c2):=hc;generalize hz:foc e.t y' [.fld f]=z at *;obtain⟨zt,zx⟩:=z;dsimp only at hfoc hrd;subst hfoc;obtain⟨v,hrun,hvr⟩:=za0 (P:=P) (w:=w) (hb.env.ty _ _ heg) hc hrd;refine zb (v:=v) (w':=w) ?_ (zk h1 hb hs hvr);rw[hl,hoff] at hrun;simp[execOp,ho,Instr.field,run_underlying ((hb.env.ty _ _ he).und.trans (by rw[hd])),hg,ex,asAgg,hrun]
     . exact (z6 h1).elim
   . rename_i s0;obtain⟨fp2,h2⟩:=zy h1;split at h2
     . rename_i t y hz;split at h2
       . rename_i hck;obtain⟨hagg,hck2⟩:=z7 hck;obtain⟨hin,hofe⟩:=z7 hck2;unfold z116 at h2;split at h2
         . rename_i u xs hfo;split at h2
           . rename_i u' htu;dsimp only at h2;split at h2
             . rename_i hte;obtain⟨fs,g,eg,hd,hg,heg,hoff,hsz,hty⟩:=z49 hf;have e1:u'=.sl u:=of_decide_eq_true hte;have e2:eg.t=.sl u:=by rw[htu] at hty;rw[<- e1];exact (Option.some.inj hty).symm
               obtain⟨hok,fp3,h3⟩:=z4a h2;have hlt:s0<st.length:=(z2i hok).1;obtain⟨_,hvro⟩:=hs.rel s0 _ (zm hz (by simp));unfold VRO at hvro;rw[if_pos hagg] at hvro;obtain⟨cs,etv,hrd⟩:=hvro;obtain⟨c0,c1,c2,b0,b1,b2,hc,hbs,hl,hfoc,_⟩:=zt6 t y _ _ _ hrd hin;rw[hfo] at hfoc;obtain⟨v,ev,hrow⟩:=hfoc;subst ev;have ex:a.eval x=.agg cs:=by rw[hA.1];exact etv
               have hcell:cs[g.offset]?=some v:=by
                rw[<- hoff,<- Nat.eq_of_beq_eq_true hofe,<- hl,<- Array.getElem?_toList,hc];simp
               have hpart:(part g.type cs g.offset).run P w=.ok v w:=by
                have hag:eg.t.isAgg=false:=by rw[e2];rfl
                simp[part,z5u (hb.env.ty _ _ heg),hag,hcell]
               refine zb (v:=v) (w':=w) ?_ (z11 h3 hb (hs.drop hlt) (o':=b1) hrow (fun b hb1=>zpb hs (by rw[hbs];simp[hb1])) ?_)
               . simp[execOp,ho,Instr.field,run_underlying ((hb.env.ty _ _ he).und.trans (by rw[hd])),hg,ex,asAgg,hpart]
               . have:=hs.nd s0;rw[hbs] at this;exact (List.nodup_append.1 (List.nodup_append.1 this).2.1).1
             . exact (z6 h2).elim
           . exact (z6 h2).elim
         . exact (z6 h2).elim
       . exact (z6 h2).elim
     . exact (z6 h2).elim
   . exact (z6 h1).elim
theorem zwz {t:TypeId}{x ix:Operand}(ho:o.op=.index t x ix)(h:zn E (z1x E o) st fp=some ((),st',fp'))(hb:Base P E c)(hs:SimD c st a w S ob):Good P c o a w st':=by
 simp only[z1x,ho,zvk] at h;obtain⟨e,he,h0⟩:=z25 h;obtain⟨I,fp0,h1,hI,hIo,hId,hrI⟩:=zw h0 hs (hb.globS hs);obtain⟨k,n,h2,hi⟩:=zkb h1 hI;obtain⟨A,fp1,h3,hA,hAo,hAd,hr⟩:=zw h2 hs (hb.globS hs);clear h h0 h1 h2;split at h3
 . rename_i x1 x2 a0 s hstr;have hu:=z13q hb.env he hstr;have ex:a.eval x=.string ⟨⟨s⟩⟩:=hA.1.str_inv;obtain⟨hc,h4⟩:=zr h3;obtain⟨h5,h6,h7⟩:=za3 hc;refine zb (v:=.int .u8 ((s.getD n.toNat 0).toNat:Int)) (w':=w) ?_ (zk h4 hb hs VR.int);have hget:(⟨⟨s⟩⟩:ByteArray)[n.toNat]?=some (s.getD n.toNat 0):=by
    have:n.toNat<(⟨⟨s⟩⟩:ByteArray).size:=by rw[zbq];exact h7
    rw[getElem?_pos (⟨⟨s⟩⟩:ByteArray) n.toNat this];simp[List.getD,h7,ByteArray.getElem_eq_getElem_data]
   simp[execOp,ho,Instr.index,hi,asIntOf,run_underlying hu,ex,h5,hget]
 . rename_i x1 x2 a0 m m' u xs hm;split at h3
   . rename_i hck;obtain⟨hmm,hel⟩:=z7 hck;obtain⟨el,hd,hu⟩:=z1aa hb.env he hm;obtain⟨ee,hee,het⟩:=z9o hd hel;subst het;have hmm:m=m':=by simpa using hmm
     subst hmm;obtain⟨hc,h4⟩:=zr h3;obtain⟨h5,h6,h7⟩:=za3 hc;have hv:VR S (.arr m ee.t) xs (a.eval x):=hA.1;have hag:(T.arr m ee.t).isAgg=true:=rfl;unfold VR at hv;rw[if_pos hag] at hv;obtain⟨cs,ex,hrd⟩:=hv;obtain⟨hn,hall⟩:=hrd;obtain⟨c0,c1,c2,hcs,hl,hr1,_,_⟩:=All.at (Rd.length ee.t) hall (by omega:n.toNat<xs.length) ee.t.dflt;obtain⟨v,hrun,hvr⟩:=za0 (P:=P) (w:=w) (hb.env.ty _ _ hee) hcs hr1;refine zb (v:=v) (w':=w) ?_ (zk h4 hb hs hvr);have hsz:=(hb.env.ty _ _ hee).size;rw[hl,hsz] at hrun;simp[execOp,ho,Instr.index,hi,asIntOf,run_underlying hu,ex,h5,h6,z13 (hb.env.ty _ _ hee),hrun]
   . exact (z6 h3).elim
 . exact (z6 h3).elim
end
end
end Go.Lift
