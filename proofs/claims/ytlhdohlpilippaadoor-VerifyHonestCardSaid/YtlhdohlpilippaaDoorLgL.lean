import Derived.Test.YtlhdohlpilippaaDoorLgK
set_option linter.unusedSimpArgs false
set_option linter.unusedVariables false
set_option linter.all false
namespace Go.Lift
noncomputable section
section
variable {P:Program} {E:Env} {c:Ctx} {st st':List A} {fp fp':FP} {a:Act} {w w':World} {S:Hp} {ob:Nat->List Nat} {o:Oper}
theorem zrb (off:Nat):∀ (v:List Value) (k:Nat) (cells:Array Value) (c0 c1 c2:List Value),cells.toList=c0++(c1++c2)->c0.length=off+k->c1.length=v.length →
 ((v.zipIdx k).foldl (fun cs (x:Value×Nat)=>cs.setIfInBounds (off+x.2) x.1) cells).toList=c0++(v++c2)
 | [],k,cells,c0,c1,c2,h,h0,h1=>by
   have:c1=[]:=by cases c1<;>simp_all
   subst this;simpa using h
 | x :: v,k,cells,c0,c1,c2,h,h0,h1=>by
   obtain⟨y,c1,rfl⟩:∃ y c1',c1=y::c1':=by cases c1<;>simp_all
   simp only[List.zipIdx_cons,List.foldl_cons];have:=zrb off v (k+1) (cells.setIfInBounds (off+k) x) (c0++[x]) c1 c2 (by
    rw[Array.toList_setIfInBounds,h,<- h0,List.set_append_right _ _ (Nat.le_refl _)];simp) (by simp;omega) (by simpa using h1)
   rw[this];simp
inductive PartsRel (S:Hp) (t:T) (s:Nat->Step):List (Nat×Dat)->List (Nat×Value)->Prop
 | nil:PartsRel S t s [] []
 | cons {i:Nat} {d:Dat} {v:Value} {l:List (Nat×Dat)} {vs:List (Nat×Value)} (ht:z1d t [s i]=some d.1) (hv:VR S d.1 d.2 v) (h:PartsRel S t s l vs):PartsRel S t s ((i,d)::l) ((i,v)::vs)
theorem PartsRel.mono {S S':Hp}(h:Sub S S'){t:T}{s:Nat->Step}{l:List (Nat×Dat)}{vs:List (Nat×Value)}(hp:PartsRel S t s l vs):PartsRel S' t s l vs:=by
 induction hp with
 | nil=>exact .nil
 | cons ht hv _ ih=>exact .cons ht (hv.mono h) ih
theorem zih {S:Hp} {t:T} {s:Nat->Step} {place:Nat->Option (Nat×Nat)} {ok:Nat->Prop} (hplace:∀ (i:Nat) (u:T),ok i->z1d t [s i]=some u->place i=some (z16 t [s i],u.size))
 (hin:∀ (i:Nat) (u:T) (x:t.den) (cs:List Value),ok i->z1d t [s i]=some u->Rd S t x cs->inb t x [s i]=true) {l:List (Nat×Dat)} {vs:List (Nat×Value)} (hp:PartsRel S t s l vs) :
 (∀ i∈vs.map (·.1),ok i)->∀ (x y:t.den) (cells:Array Value),Rd S t x cells.toList->zdj t x l s=some y->∃ cells',Instr.fill place cells vs=some cells'/\Rd S t y cells'.toList:=by
 induction hp with
 | nil=>intro _ x y cells hr h;simp[zdj] at h;subst h;exact⟨cells,rfl,hr⟩
 | @cons i d v l vs ht hv _ ih =>
   intro hok x y cells hr h;have hoki:=hok i (by simp);simp only[zdj] at h;split at h
   . rename_i x1 hx1;obtain⟨c0,c1,c2,hc,hl,hr1,hset⟩:=z13z t x [s i] _ hr (hin i d.1 x _ hoki ht hr);obtain⟨et,hr2⟩:=hset d.1 d.2 _ x1 hx1 hv.cells;have hsz:v.cells.size=d.1.size:=by have:=hv.cells.length;simpa using this
     have hc1:c1.length=v.cells.toList.length:=by rw[hr1.length,<- et];simp[hsz]
     have hbound:¬ (cells.size<z16 t [s i]+v.cells.size):=by
      have h1:=congrArg List.length hc;simp at h1 hc1;omega
     obtain⟨cells',hf,hr3⟩:=ih (fun j hj=>hok j (by simp at hj ⊢;exact .inr hj)) x1 y (v.cells.zipIdx.foldl (fun cs (x:Value×Nat)=>cs.setIfInBounds (z16 t [s i]+x.2) x.1) cells) (by
      rw[<- Array.foldl_toList,Array.toList_zipIdx,zrb _ _ 0 cells c0 c1 c2 hc (by simpa using hl) hc1];exact hr2) h
     refine⟨cells',?_,hr3⟩;simp only[Instr.fill,hplace i d.1 hoki ht,hsz];rw[if_neg (by simp;omega)];exact hf
   . simp at h
def AsRel (h S:Hp)(tv:Nat->Value):List (Nat×Lift.A)->List (Nat×Value)->Prop
 | [],[]=>True
 | (i,A)::l,(j,v)::m=>i=j/\ARel h S tv A v []/\AsRel h S tv l m
 | _,_=>False
theorem AsRel.mono {h S S':Hp}{tv:Nat->Value}(hS:Sub S S'):∀ {l:List (Nat×Lift.A)} {m:List (Nat×Value)},AsRel h S tv l m->AsRel h S' tv l m
 | [],[],_=>trivial
 | (_,_)::_,(_,_)::_,⟨e,hA,hr⟩=>⟨e,hA.mono hS (fun b hb=>by cases hb) (fun r _=>rfl) (fun r _ b _=>rfl),AsRel.mono hS hr⟩
 | [],_::_,h=>h.elim
 | _::_,[],h=>h.elim
theorem znn {α:Type}{r:α×List A×FP}(hb:Base P E c)(hs:SimD c st a w S ob):∀ (ps:List (Nat×Operand)) (k:List (Nat×Lift.A)->Cmd α) (fp:FP),
 zn E (zv6 E ps k) st fp=some r->∃ l fp',zn E (k l) st fp'=some r/\AsRel (hp w) S (tv a) l (ps.map fun p=>(p.1,a.eval p.2))
 | [],k,fp,h=>⟨[],fp,h,trivial⟩
 | (i,x)::ps,k,fp,h=>by
   simp only[zv6] at h;obtain⟨A,fp1,h1,hA,hAo,hAd,hr⟩:=zw h hs (hb.globS hs);obtain⟨l,fp2,h2,hl⟩:=znn hb hs ps _ fp1 h1;exact⟨(i,A)::l,fp2,h2,rfl,hA,hl⟩
theorem zs2 {α:Type}{r:α×List A×FP}{t:T}{s:Nat->Step}:∀ (ps:List (Nat×Lift.A)) (vs:List (Nat×Value)) (k:List (Nat×Dat)->Cmd α) (st:List A) (fp:FP) (S:Hp) (ob:Nat->List Nat),
 zn E (z13b t s ps k) st fp=some r->SimD c st a w S ob->AsRel (hp w) S (tv a) ps vs →
 ∃ l st' fp' S' ob',zn E (k l) st' fp'=some r/\SimD c st' a w S' ob'/\Sub S S'/\PartsRel S' t s l vs
 | [],[],k,st,fp,S,ob,h,hs,_=>⟨[],st,fp,S,ob,h,hs,Sub.refl _,.nil⟩
 | (i,A)::ps,(j,v)::vs,k,st,fp,S,ob,h,hs,⟨e,hA,hr⟩=>by
   subst e;simp only[z13b] at h;split at h
   . rename_i u hu;obtain⟨z,st1,fp2,S1,ob1,h2,hs1,hS,hv,hl⟩:=zav h hs hA;obtain⟨l,st2,fp3,S2,ob2,h3,hs2,hS2,hp⟩:=zs2 ps vs _ st1 fp2 S1 ob1 h2 hs1 (hr.mono hS);exact⟨(i,⟨u,z⟩)::l,st2,fp3,S2,ob2,h3,hs2,hS.trans hS2,.cons hu (hv.mono hS2) hp⟩
   . exact (z6 h).elim
 | [],_::_,k,st,fp,S,ob,h,hs,hA=>hA.elim
 | _::_,[],k,st,fp,S,ob,h,hs,hA=>hA.elim
theorem zi0 {α:Type}{r:α×List A×FP}{t:T}{s:Nat->Step}(hb:Base P E c)(ps:List (Nat×Operand))(k:List (Nat×Dat)->Cmd α)(st:List A)(fp:FP)(S:Hp)(ob:Nat->List Nat)
 (h:zn E (zv9 E t s ps k) st fp=some r) (hs:SimD c st a w S ob) :
 ∃ l st' fp' S' ob',zn E (k l) st' fp'=some r/\SimD c st' a w S' ob'/\Sub S S'/\PartsRel S' t s l (ps.map fun p=>(p.1,a.eval p.2)):=by
 obtain⟨l,fp1,h1,hl⟩:=znn hb hs ps _ fp h;exact zs2 l _ k st fp1 S ob h1 hs hl
theorem zdw {n:Nat}:∀ {l:List Nat},zx1 n l=true->∀ i∈l,i<n
 | [],_,i,hi=>by cases hi
 | f::l,h,i,hi=>by
   obtain⟨h1,h2⟩:=z7 h;rcases List.mem_cons.1 hi with rfl|hi
   . simpa using h1
   . exact zdw h2 i hi
theorem z7r {e:TyI}:∀ {l:List Nat},zk2 E e l=true->∀ i∈l,zii E e i=true
 | [],_,i,hi=>by cases hi
 | f::l,h,i,hi=>by
   obtain⟨h1,h2⟩:=z7 h;rcases List.mem_cons.1 hi with rfl|hi
   . exact h1
   . exact z7r h2 i hi
theorem zuz {α β:Type}(f:α->Sem β)(g:α->β):∀ (l:List α),(∀ x∈l,(f x).run P w=.ok (g x) w)->(l.mapM f).run P w=.ok (l.map g) w
 | [],_=>by simp
 | x::l,h=>by
   simp only[List.mapM_cons,Sem.run_bind,h x (by simp),Result.andThen_ok,zuz f g l (fun y hy=>h y (by simp[hy])),Sem.run_pure,List.map_cons]
theorem zf5 {α β:Type}(f:α->Sem β)(g:α->β)(l:Array α)(h:∀ x∈l,(f x).run P w=.ok (g x) w):(l.mapM f).run P w=.ok (l.map g) w:=by
 rw[Array.mapM_eq_mapM_toList];simp only[Sem.run_map,zuz f g l.toList (fun x hx=>h x (by simpa using hx)),Result.andThen_ok];congr 1;apply Array.toList_inj.1;simp
theorem z18a {t u:T}{n i:Nat}{x:t.den}{cs:List Value}{S:Hp}(ht:t=.arr n u)(hi:i<n)(hr:Rd S t x cs):inb t x [.idx i]=true:=by
 subst ht;have:List.length x=n:=hr.1;simp[inb,z1i,this,hi]
theorem ztq {t:TypeId} {ps:Array (Nat×Operand)} (ho:o.op=.build t ps) (h:zn E (zpj E t ps.toList o.dst) st fp=some ((),st',fp')) (hb:Base P E c) (hs:SimD c st a w S ob):Good P c o a w st':=by
 unfold zpj at h;obtain⟨e,he,h0⟩:=z25 h;clear h;obtain⟨z,hz,hzv⟩:=z58 (P:=P) (w:=w) (hb.tyOk he);have hps:(ps.map fun (p:Nat×Operand)=>(p.1,a.eval p.2)).toList=ps.toList.map fun p=>(p.1,a.eval p.2):=by simp
 split at h0
 . rename_i fs hd;split at h0
   . rename_i hck;obtain⟨hidx,hst⟩:=z7 hck;obtain⟨l,st1,fp1,S1,ob1,h1,hs1,hS,hp⟩:=zi0 hb _ _ _ _ _ _ h0 hs;clear h0;split at h1
     . rename_i x hx;have hag:e.t.isAgg=true:=by rw[<- (hb.tyOk he).agg,hd];rfl
       let sz:Field->Nat:=fun f=>((E.ty f.type).map (·.size)).getD 0
       have hmap:(fs.mapM fun (f:Field)=>do pure (f.offset,<- sizeOf f.type)).run P w=.ok (fs.map fun (f:Field)=>(f.offset,sz f)) w:=by
        apply zf5;intro g hg;obtain⟨i,hi,hgi⟩:=Array.mem_iff_getElem.1 hg;have hf:=z7r hst i (by simpa using hi);obtain⟨fs',g',eg,hd',hg',heg,_⟩:=z49 hf;rw[hd] at hd';cases hd';have:g'=g:=by rw[Array.getElem?_eq_getElem hi] at hg';rw[<- hgi];exact (Option.some.inj hg').symm
        subst this;simp[z13 (hb.tyOk heg),sz,heg]
       obtain⟨cells',hfill,hrd⟩:=zih (place:=fun i=>(fs.map fun (f:Field)=>(f.offset,sz f))[i]?) (ok:=fun i=>i<fs.size) (s:=.fld) (S:=S1) (t:=e.t)
        (fun i u hok hu=>by
         have hf:=z7r hst i (by simpa using hok);obtain⟨fs',g',eg,hd',hg',heg,hoff,_,hty⟩:=z49 hf;rw[hd] at hd';cases hd';rw[hty] at hu;cases hu;simp[hg',sz,heg,hoff,(hb.tyOk heg).size])
        (fun i u x cs hok hu _=>(zbg e.t x i u hu).2) hp (by
         intro i hi;simp only[List.map_map] at hi;exact zdw hidx i (by simpa using hi)) e.zero x z.cells (hzv.cells.mono (zc3 _)) hx
       refine zb (v:=.agg cells') (w':=w) ?_ (zk h1 hb hs1 (VR.of_agg hag hrd));simp only[execOp,ho,Sem.run_bind,Instr.build,hz,Result.andThen_ok,run_underlying ((hb.tyOk he).und.trans (by rw[hd])),hmap,hps,hfill,Sem.run_pure]
     . exact (z6 h1).elim
   . exact (z6 h0).elim
 . rename_i n el hd;split at h0
   . rename_i hck;obtain⟨hidx,harr⟩:=z7 hck;obtain⟨l,st1,fp1,S1,ob1,h1,hs1,hS,hp⟩:=zi0 hb _ _ _ _ _ _ h0 hs;clear h0;split at h1
     . rename_i x hx;have hag:e.t.isAgg=true:=by rw[<- (hb.tyOk he).agg,hd];rfl
       obtain⟨m,u,het,hmn,hel⟩:∃ m u,e.t=.arr m u/\n=m/\z78 E e u=true:=by
        cases ht:e.t<;>rw[ht] at harr<;>simp at harr
        obtain⟨h2,h3⟩:=z7 harr;exact⟨_,_,rfl,z3x h2,h3⟩
       subst hmn;obtain⟨ee,hee,heu⟩:=z9o hd hel;obtain⟨cells',hfill,hrd⟩:=zih (place:=fun i=>some (i*ee.size,ee.size)) (ok:=fun i=>i<n) (s:=.idx) (S:=S1) (t:=e.t)
        (fun i v hok hv=>by
         have hty:z1d e.t [.idx i]=some u:=by rw[het];cases u<;>simp[z1d]
         rw[hty] at hv;cases hv;have h2:=(hb.tyOk hee).size;rw[heu] at h2;rw[het];simp[z16,h2])
        (fun i v x cs hok hv hrx=>by
         exact z18a het hok hrx) hp (by
         intro i hi;simp only[List.map_map] at hi;exact zdw hidx i (by simpa using hi)) e.zero x z.cells (hzv.cells.mono (zc3 _)) hx
       refine zb (v:=.agg cells') (w':=w) ?_ (zk h1 hb hs1 (VR.of_agg hag hrd));simp only[execOp,ho,Sem.run_bind,Instr.build,hz,Result.andThen_ok,run_underlying ((hb.tyOk he).und.trans (by rw[hd])),z13 (hb.tyOk hee),hps,hfill,Sem.run_pure]
     . exact (z6 h1).elim
   . exact (z6 h0).elim
 . exact (z6 h0).elim
theorem zoo:∀ {t e:T} (f:Nat) {u g:T},zs7 t e=true->z1d e [.fld f]=some g->z1d t [.fld f]=some u->zs7 u g=true
 | .pair a b,.pair c d,f,u,g,h,hg,hu=>by
   obtain⟨h1,h2⟩:=z7 h;cases f with
   | zero =>
     simp only[z1d] at hg hu;have hg:g=c:=by cases c<;>simpa[z1d] using hg.symm
     have hu:u=a:=by cases a<;>simpa[z1d] using hu.symm
     rw[hg,hu];exact h1
   | succ f=>exact zoo (t:=b) (e:=d) f h2 (by simpa[z1d] using hg) (by simpa[z1d] using hu)
 | t,e, f,u,g,h,hg,hu=>by
   cases e<;>simp[z1d] at hg
   case pair c d =>
    cases t<;>simp[z1d] at hu
    case pair a b =>
     obtain⟨h1,h2⟩:=z7 h;cases f with
     | zero =>
       have hg:g=c:=by cases c<;>simpa[z1d] using hg.symm
       have hu:u=a:=by cases a<;>simpa[z1d] using hu.symm
       rw[hg,hu];exact h1
     | succ f=>exact zoo (t:=b) (e:=d) f h2 (by simpa[z1d] using hg) (by simpa[z1d] using hu)
theorem zwq:∀ {t:T} (f:Nat) {u:T},z7y t=true->z1d t [.fld f]=some u->z7y u=true:=by
 intro t
 induction t with
 | pair a b iha ihb =>
   intro f u h hu;obtain⟨h1,h2⟩:=z7 h;cases f with
   | zero =>
     have hu:u=a:=by cases a<;>simpa[z1d] using hu.symm
     rw[hu];exact h1
   | succ f=>exact ihb f h2 (by simpa[z1d] using hu)
 | _=>intro f u h hu;simp[z1d] at hu
theorem zz5 (i:Nat):∀ {t:T},z7y t=true->znj i t=true:=by
 intro t
 induction t with
 | pair a b iha ihb=>intro h;obtain⟨h1,h2⟩:=z7 h;simp[znj,z1i,iha h1,ihb h2]
 | self ty=>intro h;simp[z7y] at h
 | _=>intro h;rfl
theorem zrt {t:TypeId} {u:T} {ps:Array (Nat×Operand)} (ho:o.op=.build t ps) (h:zn E (ztr E u t ps.toList o.dst) st fp=some ((),st',fp')) (hb:Base P E c) (hs:SimD c st a w S ob):Good P c o a w st':=by
 unfold ztr at h;obtain⟨e,he,h0⟩:=z25 h;clear h;obtain⟨z,hz,hzv⟩:=z58 (P:=P) (w:=w) (hb.tyOk he);have hps:(ps.map fun (p:Nat×Operand)=>(p.1,a.eval p.2)).toList=ps.toList.map fun p=>(p.1,a.eval p.2):=by simp
 split at h0
 . rename_i fs hd;split at h0
   . rename_i hck;obtain⟨hck1,hck2⟩:=z7 hck;obtain⟨hag,hsim⟩:=z7 hck1;obtain⟨hns,hsim⟩:=z7 hsim;obtain⟨hidx,hst⟩:=z7 hck2;split at h0
     . rename_i z0 hz0;obtain⟨l1,st1,fp1,S1,ob1,h1,hs1,hS,hp1⟩:=zi1 (fun hs=>hb.globS hs) _ _ _ _ _ _ h0 hs;obtain⟨l,st2,fp2,ob2,o1,h2,hs2,hpp,hF,_,_⟩:=zwn (hb.globS hs1) hp1 _ _ _ _ h1 hs1;clear h0 h1;split at h2
       . rename_i x hx
         let sz:Field->Nat:=fun f=>((E.ty f.type).map (·.size)).getD 0
         have hmap:(fs.mapM fun (f:Field)=>do pure (f.offset,<- sizeOf f.type)).run P w=.ok (fs.map fun (f:Field)=>(f.offset,sz f)) w:=by
          apply zf5;intro g hg;obtain⟨i,hi,hgi⟩:=Array.mem_iff_getElem.1 hg;have hf:=z7r hst i (by simpa using hi);obtain⟨fs',g',eg,hd',hg',heg,_⟩:=z49 hf;rw[hd] at hd';cases hd';have:g'=g:=by rw[Array.getElem?_eq_getElem hi] at hg';rw[<- hgi];exact (Option.some.inj hg').symm
          subst this;simp[z13 (hb.tyOk heg),sz,heg]
         have hzr:RdO (0,0) (hp w) S1 u z0 z.cells.toList []:=by
          obtain⟨inf,hi,hzz⟩:=(hb.tyOk he).zeq;have ez:z=zv e.t e.zero:=by
           have h3:=hz;simp[zeroValue,z40 hi,hzz] at h3;exact h3.symm
          rw[ez,zuf (hb.tyOk he).zok];exact zeh _ _ _ _ hz0 (hb.tyOk he).zok (zz5 _ hns)
         obtain⟨cells',bs',hfill,hrd,hn',hm'⟩:=ztg (place:=fun i=>(fs.map fun (f:Field)=>(f.offset,sz f))[i]?) (ok:=fun i=>i<fs.size) (s:=.fld) (S:=S1) (t:=u) (m:=(0,0))
          (fun i v hv=>zwq i hns hv)
          (fun i v hok hv=>by
           have hf:=z7r hst i (by simpa using hok);obtain⟨fs',g',eg,hd',hg',heg,hoff,_,hty⟩:=z49 hf;rw[hd] at hd';cases hd';have h5:=zoo i hsim hty hv;simp[hg',sz,heg,zk3 _ hsim hty,hoff,z7t h5,(hb.tyOk heg).size])
          (fun i v x hok hv=>(zbg u x i v hv).2) hpp (by
           intro i hi;simp only[List.map_map] at hi;exact zdw hidx i (by simpa using hi)) z0 x z.cells [] hzr (by simpa using hF.1) hx
         have hov:ovT u=true:=by cases u<;>simp[T.isAgg] at hag<;>rfl
         refine zb (v:=.agg cells') (w':=w) ?_ (z11 h2 hb hs2 (o':=bs') ⟨hov,VRO.of_agg hag hrd⟩ (fun b hb'=>hF.2 b (by simpa using hm' b hb')) hn');simp only[execOp,ho,Sem.run_bind,Instr.build,hz,Result.andThen_ok,run_underlying ((hb.tyOk he).und.trans (by rw[hd])),hmap,hps,hfill,Sem.run_pure]
       . exact (z6 h2).elim
     . exact (z6 h0).elim
   . exact (z6 h0).elim
 . exact (z6 h0).elim
theorem zxe {t:TypeId}{ps:Array (Nat×Operand)}(ho:o.op=.build t ps)(h:zn E (z1x E o) st fp=some ((),st',fp'))(hb:Base P E c)(hs:SimD c st a w S ob):Good P c o a w st':=by
 simp only[z1x,ho] at h;split at h
 . exact zrt ho h hb hs
 . exact ztq ho h hb hs
theorem zdl {S:Hp} {e:TyI} {z:Value} (h:VR S e.t e.zero z) (hs:0<e.t.size) (n:Nat) :
 Rd S (.arr n e.t) (List.replicate n e.zero) (((Array.range (n*e.t.size)).map (z.cells[· % z.cells.size]!)).toList):=by
 refine⟨by simp,?_⟩;have hz:z.cells.size=e.t.size:=by have:=h.cells.length;simpa using this
 have:((Array.range (n*e.t.size)).map (z.cells[· % z.cells.size]!)).toList=(List.replicate n z.cells.toList).flatten:=by
  rw[hz];clear h;apply List.ext_getElem?;intro i;have hlen:∀ n,(List.replicate n z.cells.toList).flatten.length=n*e.t.size:=by intro n;simp[hz]
  by_cases hi:i<n*e.t.size
  . have h1:(List.replicate n z.cells.toList).flatten[i]?=z.cells[i % e.t.size]?:=by
     clear hlen
     induction n generalizing i with
     | zero=>simp at hi
     | succ n ih =>
       rw[List.replicate_succ,List.flatten_cons];by_cases hlt:i<e.t.size
       . rw[List.getElem?_append_left (by simpa[hz] using hlt),Nat.mod_eq_of_lt hlt];simp
       . rw[List.getElem?_append_right (by simp[hz];omega)];have:=ih (i - e.t.size) (by rw[Nat.succ_mul] at hi;omega);simp only[Array.length_toList,hz];rw[this,Nat.mod_eq_sub_mod (by omega:i ≥ e.t.size)]
    rw[h1];have hm:i % e.t.size<z.cells.size:=by rw[hz];exact Nat.mod_lt _ hs
    simp[hi,Array.getElem?_eq_getElem hm,getElem!_pos,hm]
  . rw[List.getElem?_eq_none (by simpa using Nat.le_of_not_lt hi),List.getElem?_eq_none (by rw[hlen];omega)]
 rw[this];exact All.replicate h.cells n
theorem z165 {el:TypeId}{ee:TyI}{cells:Array Value}{xs:List ee.t.den}(hok:TyOk P el ee)(hs:SimD c st a w S ob)(hr:Rd S (.arr xs.length ee.t) xs cells.toList) :
 SimD c st a (pushed w (.cells cells el)) S ob/\(∀ j,w.heap.size∉ob j)/\S w.heap.size=none/\(c.B0 w.heap.size\/c.w0.heap.size<=w.heap.size) ∧
  ARel (hp (pushed w (.cells cells el))) S (tv a) (.row ee.t xs) (.slice (some ⟨w.heap.size,0,none⟩) xs.length xs.length) [w.heap.size]:=by
 obtain⟨h1,h2,h3,h4⟩:=hs.pushed (.cells cells el);have hlen:=hr.length;refine⟨h1,h2,h3,h4,.inr ⟨w.heap.size,xs.length,cells,el,(0,0),rfl,rfl,z4x _ _,ze4 _,by simpa[T.size] using hlen,Nat.le_refl _,?_⟩⟩;rw[show xs.length*ee.t.size=cells.toList.length from hlen.symm,List.take_length];exact⟨hr.2,fun q hq=>absurd hq (hok.notByt q)⟩
theorem zma {t:TypeId} {n:Nat} {ps:Array (Nat×Operand)} (ho:o.op=.buildSlice t n ps) (h:zn E (z1x E o) st fp=some ((),st',fp')) (hb:Base P E c) (hs:SimD c st a w S ob) :
 Good P c o a w st':=by
 simp only[z1x,ho] at h;unfold zhi at h;obtain⟨e,he,h0⟩:=z25 h;clear h;have hps:(ps.map fun (p:Nat×Operand)=>(p.1,a.eval p.2)).toList=ps.toList.map fun p=>(p.1,a.eval p.2):=by simp
 split at h0
 . rename_i el hd;obtain⟨ee,hee,h1⟩:=z25 h0;clear h0;split at h1
   . rename_i hck;obtain⟨hidx,hck2⟩:=z7 hck;obtain⟨hpos,hsm⟩:=z7 hck2;have hpos:0<ee.size:=by simpa using hpos
     have hsm:n*ee.size<=65536:=by simpa using hsm
     have hsz:=(hb.tyOk hee).size;obtain⟨z,hz,hzv⟩:=z58 (P:=P) (w:=w) (hb.tyOk hee);obtain⟨l,st1,fp1,S1,ob1,h2,hs1,hS,hp⟩:=zi0 hb _ _ _ _ _ _ h1 hs;clear h1;split at h2
     . rename_i x hx;have hrep:=zdl (hzv.mono (zc3 S1)) (by rw[hsz];exact hpos) n;obtain⟨cells',hfill,hrd⟩:=zih (place:=fun i=>some (i*ee.size,ee.size)) (ok:=fun i=>i<n) (s:=.idx) (S:=S1) (t:=.arr n ee.t)
        (fun i v hok hv=>by
         have hty:z1d (.arr n ee.t) [.idx i]=some ee.t:=by cases ee.t<;>simp[z1d]
         rw[hty] at hv;cases hv;simp[z16,hsz])
        (fun i v x cs hok hv hrx=>by
         have:List.length x=n:=hrx.1;simp[inb,z1i,this,hok]) hp (by
         intro i hi;simp only[List.map_map] at hi;exact zdw hidx i (by simpa using hi)) _ x _ hrep hx
       have hxl:List.length x=n:=hrd.1;have hrd':Rd S1 (.arr (List.length x) ee.t) x cells'.toList:=by rw[hxl];exact hrd
       obtain⟨g1,g2,g3,g4,g5⟩:=z165 (el:=el) (hb.tyOk hee) hs1 hrd';refine zb (v:=.slice (some ⟨w.heap.size,0,none⟩) (List.length x) (List.length x)) (w':=pushed w (.cells cells' el)) ?_ (z11 h2 hb g1 g5 (fun b e=>by simp at e;subst e;exact⟨g2,g3,g4⟩));rw[hsz] at hfill;by_cases hn0:n*ee.size=0
       . have hfill0:Instr.fill (fun i=>some (i*ee.size,ee.size)) ((Array.range (n*ee.size)).map fun i=>(#[]:Array Value)[i % (#[]:Array Value).size]!) (ps.toList.map fun p=>(p.1,a.eval p.2))=some cells':=by
          rw[<- hfill,hn0];have e0:Array.range 0=#[]:=rfl;rw[e0,Array.map_empty,Array.map_empty]
         rw[hn0] at hfill0;simp only[execOp,ho,Sem.run_bind,Instr.buildSlice,run_underlying ((hb.tyOk he).und.trans (by rw[hd])),Result.andThen_ok,z13 (hb.tyOk hee),hn0,if_neg (show ¬ 0 > 2^24 by omega),if_pos,Sem.run_pure,hps,hfill0,zb5,hxl]
       simp only[execOp,ho,Sem.run_bind,Instr.buildSlice,run_underlying ((hb.tyOk he).und.trans (by rw[hd])),Result.andThen_ok,z13 (hb.tyOk hee),if_neg (show ¬ n*ee.size > 2^24 by omega),if_neg hn0,hz,Sem.run_pure,hps];rw[hfill,hxl];rfl
     . exact (z6 h2).elim
   . exact (z6 h1).elim
 . exact (z6 h0).elim
end
end
end Go.Lift
