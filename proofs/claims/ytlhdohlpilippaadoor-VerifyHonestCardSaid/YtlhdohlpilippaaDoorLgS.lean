import Derived.Test.YtlhdohlpilippaaDoorLgY
set_option linter.all false
namespace Go.Lift
noncomputable section
section
variable {P:Program} {E:Env} {c:Ctx} {st st':List A} {fp fp':FP} {a:Act} {w w':World} {S:Hp} {ob:Nat->List Nat}
def z6d (tmps:Array Value):ResultVar->Sem Value
 | .tmp t=>pure (tmps.getD t undef)
 | .cell a t=>do loadVar t (<- asAddr (tmps.getD a undef))
theorem zel (fn:Func)(tmps:Array Value):results fn tmps=(do
 let vs <- fn.results.mapM (z6d tmps)
 pure (if h:vs.size=1 then vs[0] else .tuple vs)):=by
 unfold results;have:(fun (x:ResultVar)=>match x with
  | .tmp t=>(pure (tmps.getD t undef):Sem Value)
  | .cell a t=>do loadVar t (<- asAddr (tmps.getD a undef)))=z6d tmps:=by funext r;cases r<;>rfl
 rw[<- this];rfl
theorem zlb {α:Type} {r:α×List A×FP} {rv:ResultVar} {rt:TypeId} {k:Dat->Cmd α} (h:zn E (zot E rv rt k) st fp=some r) (hb:Base P E c) (hs:SimD c st a w S ob) :
 ∃ d v st' fp' S' ob',zn E (k d) st' fp'=some r/\SimD c st' a w S' ob'/\Sub S S'/\VR S' d.1 d.2 v/\(z6d a.tmps rv).run P w=.ok v w/\st'.length=st.length:=by
 cases rv with
 | tmp t =>
   simp only[zot] at h;obtain⟨e,he,h1⟩:=z25 h;obtain⟨A,fp1,h2,hA,hAo,hAd,hAr⟩:=zw h1 hs (hb.globS hs);obtain⟨x,st1,fp2,S1,ob1,h3,hs1,hS,hv,hl⟩:=zav h2 hs hA;exact⟨⟨e.t,x⟩,_,st1,fp2,S1,ob1,h3,hs1,hS,hv,rfl,hl⟩
 | cell ad ty =>
   simp only[zot] at h;obtain⟨e,he,h1⟩:=z25 h;obtain⟨fp1,h2⟩:=zy h1;clear h h1;split at h2
   . rename_i t x hy;split at h2
     . rename_i ht;have:=zdd ht;subst this;obtain⟨b,cs,E',fr,bs,hob,hv,hcs,hfr,hrdo⟩:=hs.rel ad _ (zm hy (by simp));obtain⟨_,hrd⟩:=hrdo.rd _ _ _ _ (hb.tyOk he).noOwn;obtain⟨v,hrun,hvr⟩:=zfv (P:=P) (w:=w) (hb.tyOk he) (b:=b) (off:=0) (c1:=cs.toList) ⟨cs,E',fr,[],[],hcs,by simp,rfl⟩ hrd;refine⟨⟨e.t,x⟩,v,st,fp1,S,ob,h2,hs,Sub.refl _,hvr,?_,rfl⟩;have hv':a.tmps.getD ad undef=.pointer (some ⟨b,0,none⟩):=hv;simp only[z6d,hv',asAddr,Sem.run_bind,Sem.run_pure,Result.andThen_ok,hrun]
     . exact (z6 h2).elim
   . exact (z6 h2).elim
theorem zqn {α:Type}{r:α×List A×FP}(hb:Base P E c):∀ (rs:List ResultVar) (rts:List TypeId) (k:List Dat->Cmd α) (st:List A) (fp:FP) (S:Hp) (ob:Nat->List Nat),zn E (z125 E rs rts k) st fp=some r->SimD c st a w S ob →
 ∃ l vs st' fp' S' ob',zn E (k l) st' fp'=some r/\SimD c st' a w S' ob'/\Sub S S'/\TupRel S' l vs/\(rs.mapM (z6d a.tmps)).run P w=.ok vs w/\st'.length=st.length
 | [],rts,k,st,fp,S,ob,h,hs=>⟨[],[],st,fp,S,ob,by cases rts<;>exact h,hs,Sub.refl _,.nil,by simp,rfl⟩
 | rv::rs,[],k,st,fp,S,ob,h,hs=>(z6 h).elim
 | rv::rs,rt::rts,k,st,fp,S,ob,h,hs=>by
   simp only[z125] at h;obtain⟨d,v,st1,fp1,S1,ob1,h1,hs1,hS,hv,hrun,hl⟩:=zlb h hb hs;obtain⟨l,vs,st2,fp2,S2,ob2,h2,hs2,hS2,ht,hrun2,hl2⟩:=zqn hb rs rts _ st1 fp1 S1 ob1 h1 hs1;refine⟨d::l,v::vs,st2,fp2,S2,ob2,h2,hs2,hS.trans hS2,.cons (hv.mono hS2) ht,?_,by omega⟩;simp only[List.mapM_cons,Sem.run_bind,hrun,Result.andThen_ok,hrun2,Sem.run_pure]
theorem z98 {fn:Func}{rv:ResultVar}{v:Value}(h:fn.results.toList=[rv])(hr:(z6d a.tmps rv).run P w=.ok v w):(results fn a.tmps).run P w=.ok v w:=by
 have h':fn.results=#[rv]:=by apply Array.toList_inj.1;rw[h]
 rw[zel,h',Array.mapM_eq_mapM_toList];simp[hr]
theorem zyw {hh S:Hp} {tv:Nat->Value} {x:A} {v:Value} {o:List Nat} {u:T} {z:u.den} (hx:ARel hh S tv x v o) (h:z12c x u=some z):VRO hh S u z v o:=by
 unfold z12c at h;split at h
 . obtain⟨e,e'⟩:=z12 h;subst e;subst e';exact hx.2
 . split at h
   . obtain⟨e,e'⟩:=z12 h;cases e;subst e';exact VRO.of_one rfl ⟨_,rfl,hx⟩
   . cases h
 . split at h
   . split at h
     . rename_i x' hx';cases h;obtain⟨e,e'⟩:=z12 hx';subst e;subst e';obtain⟨b,cs,E',fr,bs,hob,hv,hcs,hfr,hr⟩:=hx;exact VRO.of_one rfl (.inr ⟨_,b,cs,E',fr,bs,rfl,by rw[hv],hob,hcs,hfr,hr⟩)
     . cases h
   . cases h
 . split at h
   . cases h;rw[hx.1,hx.2];exact VRO.of_one rfl ⟨_,rfl,.inl ⟨rfl,⟨_,rfl,fun _ _=>rfl⟩,rfl⟩⟩
   . cases h
 . split at h
   . cases h;have:=VR.opq_inv hx.1;rw[this,hx.2];exact VRO.of_one rfl ⟨_,rfl,.inl ⟨rfl,rfl,rfl⟩⟩
   . cases h;have:=VR.opq_inv hx.1;rw[this,hx.2];exact VRO.of_one rfl (.inl ⟨rfl,rfl,rfl⟩)
   . cases h
 . cases h
inductive ResP (P:Program) (S:Hp) (a:Act) (w:World):List ResultVar->List (ResultVar×T×Option Dat)->Prop
 | nil:ResP P S a w [] []
 | dat {rv:ResultVar} {u:T} {d:Dat} {v:Value} {rs:List ResultVar} {l:List (ResultVar×T×Option Dat)} (hv:VR S d.1 d.2 v) (hr:(z6d a.tmps rv).run P w=.ok v w) (h:ResP P S a w rs l):ResP P S a w (rv::rs) ((rv,u,some d)::l)
 | own {rv:ResultVar} {u:T} {rs:List ResultVar} {l:List (ResultVar×T×Option Dat)} (h:ResP P S a w rs l):ResP P S a w (rv::rs) ((rv,u,none)::l)
theorem zla {α:Type}{r:α×List A×FP}(hb:Base P E c):∀ (rs:List ResultVar) (rts:List TypeId) (us:List T) (k:List (ResultVar×T×Option Dat)->Cmd α) (st:List A) (fp:FP) (S:Hp) (ob:Nat->List Nat),zn E (zym E rs rts us k) st fp=some r->SimD c st a w S ob →
 ∃ l st' fp' S' ob',zn E (k l) st' fp'=some r/\SimD c st' a w S' ob'/\Sub S S'/\ResP P S' a w rs l/\st'.length=st.length
 | [],rts,[],k,st,fp,S,ob,h,hs=>⟨[],st,fp,S,ob,by cases rts<;>exact h,hs,Sub.refl _,.nil,rfl⟩
 | [],rts,u::us,k,st,fp,S,ob,h,hs=>by cases rts<;>exact (z6 h).elim
 | rv::rs,[],us,k,st,fp,S,ob,h,hs=>by cases us<;>exact (z6 h).elim
 | rv::rs,rt::rts,[],k,st,fp,S,ob,h,hs=>(z6 h).elim
 | rv::rs,rt::rts,u::us,k,st,fp,S,ob,h,hs=>by
   simp only[zym] at h;split at h
   . obtain⟨d,v,st1,fp1,S1,ob1,h1,hs1,hS,hv,hrun,hl⟩:=zlb h hb hs;obtain⟨l,st2,fp2,S2,ob2,h2,hs2,hS2,hp,hl2⟩:=zla hb rs rts us _ st1 fp1 S1 ob1 h1 hs1;exact⟨_,st2,fp2,S2,ob2,h2,hs2,hS.trans hS2,.dat (hv.mono hS2) hrun hp,by omega⟩
   . obtain⟨l,st2,fp2,S2,ob2,h2,hs2,hS2,hp,hl2⟩:=zla hb rs rts us _ st fp S ob h hs;exact⟨_,st2,fp2,S2,ob2,h2,hs2,hS2,.own hp,hl2⟩
theorem zyl {α:Type} {r:α×List A×FP} (hb:Base P E c) (hs:SimD c st a w S ob) {rs:List ResultVar} {l1:List (ResultVar×T×Option Dat)} (hq:ResP P S a w rs l1):∀ (used:List Nat) (k:List Dat->Cmd α) (fp:FP),zn E (zqm E l1 used k) st fp=some r →
 ∃ l vs o fp',zn E (k l) st fp'=some r/\OTup (hp w) S l vs o/\(rs.mapM (z6d a.tmps)).run P w=.ok vs w/\vs.length=rs.length/\o.Nodup/\∀ b∈o,∃ t,t∉E.lent/\t∉used/\b∈ob t:=by
 induction hq with
 | nil=>intro used k fp h;exact⟨[],[],[],fp,h,⟨rfl,rfl⟩,by simp,rfl,.nil,fun b hb=>by cases hb⟩
 | @dat rv u d v rs l1 hv hr hp ih =>
   intro used k fp h;simp only[zqm] at h;obtain⟨l,vs,o,fp',h1,h2,h3,h3l,h4,h5⟩:=ih used _ fp h;refine⟨_,v::vs,o,fp',h1,⟨v,vs,[],o,rfl,rfl,VRO.of_vr hv,h2⟩,?_,by simp[h3l],h4,h5⟩;simp only[List.mapM_cons,Sem.run_bind,hr,Result.andThen_ok,h3,Sem.run_pure]
 | @own rv u rs l1 hp ih =>
   intro used k fp h;have fin:∀ {t:Nat} {z:u.den} {v:Value} {o1:List Nat} {fp1:FP},t∉E.lent->t∉used->VRO (Lift.hp w) S u z v o1->(∀ b∈o1,b∈ob t)->o1.Nodup->(z6d a.tmps rv).run P w=.ok v w->zn E (zqm E l1 (t::used) fun l=>k (⟨u,z⟩::l)) st fp1=some r →
    ∃ l vs o fp',zn E (k l) st fp'=some r/\OTup (Lift.hp w) S l vs o/\((rv::rs).mapM (z6d a.tmps)).run P w=.ok vs w/\vs.length=(rv::rs).length/\o.Nodup/\∀ b∈o,∃ t,t∉E.lent/\t∉used/\b∈ob t:=by
    intro t z v o1 fp1 hl hu hv ho hn hr h1;obtain⟨l,vs,o,fp',h1,h2,h3,h3l,h4,h5⟩:=ih (t::used) _ fp1 h1;refine⟨_,v::vs,o1++o,fp',h1,⟨v,vs,o1,o,rfl,rfl,hv,h2⟩,?_,by simp[h3l],List.nodup_append.2 ⟨hn,h4,fun x hx y hy e=>?_⟩,fun b hb'=>?_⟩
    . simp only[List.mapM_cons,Sem.run_bind,hr,Result.andThen_ok,h3,Sem.run_pure]
    . subst e;obtain⟨t',_,hu',hb'⟩:=h5 x hy;exact hu' (by rw[hs.inj t' t x hb' (ho x hx)];simp)
    . rcases List.mem_append.1 hb' with hb'|hb'
      . exact⟨t,hl,hu,ho b hb'⟩
      . obtain⟨t',h6,h7,h8⟩:=h5 b hb';exact⟨t',h6,fun h9=>h7 (by simp[h9]),h8⟩
   simp only[zqm] at h;split at h
   . rename_i t;split at h
     . exact (z6 h).elim
     . rename_i hck;simp only[Bool.or_eq_false_iff] at hck;obtain⟨fp1,h1⟩:=zy h;split at h1
       . rename_i z hz;have hne:st.getD t .dead ≠ .dead:=fun e=>by rw[e] at hz;simp[z12c] at hz
         have hrel:=hs.rel t _ (zm rfl hne);exact fin (by simpa using hck.1) (by simpa using hck.2) (zyw hrel hz) (fun b hb'=>hb') (hs.nd t) rfl h1
       . exact (z6 h1).elim
   . rename_i t ty;split at h
     . exact (z6 h).elim
     . rename_i hck;simp only[Bool.or_eq_false_iff] at hck;obtain⟨e,he,h1⟩:=z25 h;obtain⟨fp1,h2⟩:=zy h1;split at h2
       . rename_i t' x hy;split at h2
         . rename_i z hck2 hz;obtain⟨hsim,hck2⟩:=z7 hck2;obtain⟨hag,hns⟩:=z7 hck2;obtain⟨e1,e2⟩:=z12 hz;subst e1;subst e2;obtain⟨b,cs,E',fr,bs,hob,hv,hcs,hfr,hrd⟩:=hs.rel t _ (zm hy (by simp));have hnd:=hs.nd t;rw[hob] at hnd;have hage:e.t.isAgg=true:=by rw[<- zux hsim];exact hag
           have hrun:(z6d a.tmps (.cell t ty)).run P w=.ok (.agg cs) w:=by
            have hv':a.tmps.getD t undef=.pointer (some ⟨b,0,none⟩):=hv;have hlen:cs.toList.length=e.size:=by rw[hrd.length,z7t hsim,(hb.tyOk he).size]
            have hl:=z2g (P:=P) (w:=w) (b:=b) (off:=0) (c1:=cs.toList) ⟨cs,E',fr,[],[],hcs,by simp,rfl⟩;rw[hlen] at hl;simp[z6d,hv',asAddr,loadVar,z5u (hb.tyOk he),hage,z13 (hb.tyOk he),hl]
           exact fin (by simpa using hck.1) (by simpa using hck.2) (VRO.of_agg hag (RdO.move _ _ _ _ hns hrd)) (fun k hk=>by rw[hob];simp[hk]) (List.nodup_cons.1 hnd).2 hrun h2
         . exact (z6 h2).elim
       . exact (z6 h2).elim
theorem zwi {α:Type} {r:α×List A×FP} {fn:Func} {rts:List TypeId} {k:A->Cmd α} (h:zn E (zgu E fn.results.toList rts k) st fp=some r) (hb:Base P E c) (hs:SimD c st a w S ob) :
 ∃ x v o st' fp' S' ob',zn E (k x) st' fp'=some r/\SimD c st' a w S' ob'/\Sub S S'/\(results fn a.tmps).run P w=.ok v w/\ARel (hp w) S' (tv a) x v o/\x.refs=[] ∧
   (∀ b∈o,∃ t,t∉E.lent/\b∈ob' t)/\o.Nodup/\st'.length=st.length:=by
 unfold zgu at h;split at h
 rotate_left
 . -- values that own what they have
   rename_i us hus;obtain⟨l1,st1,fp1,S1,ob1,h1,hs1,hS,hpp,hl1⟩:=zla hb _ _ _ _ _ _ _ _ h hs;obtain⟨l,vs,o,fp2,h2,hot,hrun,hlen,hnd,hown⟩:=zyl hb hs1 hpp _ _ _ h1;have hres:(results fn a.tmps).run P w=.ok (if h:vs.length=1 then vs[0] else .tuple vs.toArray) w:=by
    rw[zel,Array.mapM_eq_mapM_toList];simp only[Sem.run_bind,Sem.run_map,hrun,Result.andThen_ok,Sem.run_pure];simp
   have hown':∀ b∈o,∃ t,t∉E.lent/\b∈ob1 t:=fun b hb'=>by obtain⟨t,h3,_,h4⟩:=hown b hb';exact⟨t,h3,h4⟩
   split at h2
   . rename_i d;split at h2
     . rename_i hov;obtain⟨v,vs',o1,o2,e1,e2,hvo,e3,e4⟩:=hot;subst e3;subst e4;subst e1;simp only[List.append_nil] at e2;subst e2;exact⟨_,v,_,st1,fp2,S1,ob1,h2,hs1,hS,by simpa using hres,⟨hov,hvo⟩,rfl,hown',hnd,hl1⟩
     . exact (z6 h2).elim
   . rename_i hne;have hvl:vs.length≠1:=by
      intro hvl;have:∀ {l:List Dat} {vs:List Value} {o:List Nat},OTup (hp w) S1 l vs o->vs.length=l.length:=by
       intro l
       induction l with
       | nil=>rintro vs o ⟨rfl,_⟩;rfl
       | cons d l ih=>rintro vs o ⟨_,vs',_,_,rfl,_,_,h3⟩;simp[ih h3]
      have h3:=this hot;rw[hvl] at h3;obtain⟨d,rfl⟩:=List.length_eq_one_iff.1 h3.symm;exact hne d rfl
     rw[dif_neg hvl] at hres;exact⟨_,.tuple vs.toArray,o,st1,fp2,S1,ob1,h2,hs1,hS,hres,⟨_,rfl,by simpa using hot⟩,rfl,hown',hnd,hl1⟩
 split at h
 . rename_i rv hrv;split at h
   . rename_i rt;have plain:∀ {st1:List A} {fp1:FP},SimD c st1 a w S ob->st1.length=st.length->zn E (zot E rv rt fun d=>k (.v d.1 d.2)) st1 fp1=some r →
      ∃ x v o st' fp' S' ob',zn E (k x) st' fp'=some r/\SimD c st' a w S' ob'/\Sub S S'/\(results fn a.tmps).run P w=.ok v w/\ARel (hp w) S' (tv a) x v o/\x.refs=[] ∧
        (∀ b∈o,∃ t,t∉E.lent/\b∈ob' t)/\o.Nodup/\st'.length=st.length:=by
      intro st1 fp1 hs1 hl1 h1;obtain⟨d,v,st2,fp2,S2,ob2,h2,hs2,hS,hv,hrun,hl⟩:=zlb h1 hb hs1;exact⟨_,v,[],st2,fp2,S2,ob2,h2,hs2,hS,z98 hrv hrun,⟨hv,rfl⟩,rfl,(fun b e=>by cases e),.nil,by omega⟩
     unfold z13u at h;split at h
     . rename_i t;obtain⟨fp1,h1⟩:=zy h;clear h;have hrun:(z6d a.tmps (.tmp t)).run P w=.ok (tv a t) w:=rfl;split at h1
       . rename_i u xs hy;split at h1
         . split at h1
           . exact (z6 h1).elim
           . rename_i hl;exact⟨_,tv a t,ob t,st,fp1,S,ob,h1,hs,Sub.refl _,z98 hrv hrun,hs.row_at hy,rfl,fun b e=>⟨t,by simpa using hl,e⟩,hs.nd t,rfl⟩
         . exact plain hs rfl h1
       . rename_i u x hy;split at h1
         . exact (z6 h1).elim
         . rename_i hl;exact⟨_,tv a t,ob t,st,fp1,S,ob,h1,hs,Sub.refl _,z98 hrv hrun,hs.rel t _ (zm hy (by simp)),rfl,fun b e=>⟨t,by simpa using hl,e⟩,hs.nd t,rfl⟩
       . rename_i f rs hy;have hA:=hs.rel t _ (zm hy (by simp));have hno:=hA.nil_of_not_own rfl;rw[hno] at hA;obtain⟨d,st2,fp2,S2,ob2,h2,hs2,hS,hv,hl⟩:=z6z h1 hs hA;exact⟨_,tv a t,[],st2,fp2,S2,ob2,h2,hs2,hS,z98 hrv hrun,⟨hv,rfl⟩,rfl,(fun b e=>by cases e),.nil,hl⟩
       . rename_i f u x hy;have hA:=hs.rel t _ (zm hy (by simp));exact⟨_,tv a t,[],st,fp1,S,ob,h1,hs,Sub.refl _,z98 hrv hrun,⟨hA.1,rfl⟩,rfl,(fun b e=>by cases e),.nil,rfl⟩
       . exact plain hs rfl h1
     . exact plain hs rfl h
   . exact (z6 h).elim
 . rename_i rs hne;obtain⟨l,vs,st1,fp1,S1,ob1,h1,hs1,hS,ht,hrun,hl⟩:=zqn hb _ _ _ _ _ _ _ h hs;refine⟨_,.tuple vs.toArray,[],st1,fp1,S1,ob1,h1,hs1,hS,?_,⟨rfl,vs.toArray,rfl,by simpa using ht⟩,rfl,(fun b e=>by cases e),.nil,hl⟩;rw[zel,Array.mapM_eq_mapM_toList];simp only[Sem.run_bind,Sem.run_map,hrun,Result.andThen_ok,Sem.run_pure];have hlen : vs.length=fn.results.toList.length:=by
    clear h h1 ht hs1 hne;generalize fn.results.toList=rs at hrun
    induction rs generalizing vs with
    | nil=>simp at hrun;subst hrun;rfl
    | cons x rs ih =>
      simp only[List.mapM_cons,Sem.run_bind] at hrun;cases hx:(z6d a.tmps x).run P w with
      | halt q w1=>rw[hx] at hrun;simp at hrun
      | ok v w1 =>
        rw[hx] at hrun;simp only[Result.andThen_ok] at hrun;have hw1:(List.mapM (z6d a.tmps) rs).run P w1=(List.mapM (z6d a.tmps) rs).run P w1:=rfl;cases hm:(List.mapM (z6d a.tmps) rs).run P w1 with
        | halt q w2=>rw[hm] at hrun;simp at hrun
        | ok us w2 =>
          rw[hm] at hrun;simp only[Result.andThen_ok,Sem.run_pure,Result.ok.injEq] at hrun;have:∀ (rs:List ResultVar) (w1 w2:World) (us:List Value),(List.mapM (z6d a.tmps) rs).run P w1=.ok us w2->us.length=rs.length:=by
           intro rs
           induction rs with
           | nil=>intro w1 w2 us h;simp at h;rw[h.1];rfl
           | cons y rs ih2 =>
             intro w1 w2 us h;simp only[List.mapM_cons,Sem.run_bind] at h;cases hy:(z6d a.tmps y).run P w1 with
             | halt q w3=>rw[hy] at h;simp at h
             | ok v' w3 =>
               rw[hy] at h;simp only[Result.andThen_ok] at h;cases hm':(List.mapM (z6d a.tmps) rs).run P w3 with
               | halt q w4=>rw[hm'] at h;simp at h
               | ok us' w4 =>
                 rw[hm'] at h;simp only[Result.andThen_ok,Sem.run_pure,Result.ok.injEq] at h;rw[<- h.1,List.length_cons,ih2 _ _ _ hm',List.length_cons]
          rw[<- hrun.1,List.length_cons,this _ _ _ _ hm,List.length_cons]
   have h1':¬ vs.toArray.size=1:=by
    rw[List.size_toArray,hlen];intro h1;obtain⟨x,hx⟩:=List.length_eq_one_iff.1 h1;exact hne x hx
   rw[dif_neg h1']
theorem zlg {α:Type} {r:α×List A×FP}:∀ (n i:Nat) (k:List A->Cmd α) (fp:FP),zn E (zlh E n i k) st fp=some r →
 ∃ l fp',zn E (k l) st fp'=some r/\l.length=n/\∀ j,j<n->(i+j∈E.lent->∃ t x,st[i+j]?=some (.box t x)/\l[j]?=some (.box t x))
 | 0,i,k,fp,h=>⟨[],fp,h,rfl,fun j hj=>by omega⟩
 | n + 1,i,k,fp,h=>by
   simp only[zlh] at h;split at h
   . rename_i hc;obtain⟨fp1,h1⟩:=zy h;split at h1
     . rename_i t x hy;obtain⟨l,fp2,h2,hl,hall⟩:=zlg n (i+1) _ _ h1;refine⟨_,fp2,h2,by simp[hl],fun j hj hm=>?_⟩;cases j with
       | zero=>exact⟨t,x,zm hy (by simp),rfl⟩
       | succ j =>
         obtain⟨t',x',h3,h4⟩:=hall j (by omega) (by rw[show i+1+j=i+(j+1) by omega];exact hm);exact⟨t',x',by rw[show i+(j+1)=i+1+j by omega];exact h3,by simpa using h4⟩
     . exact (z6 h1).elim
   . rename_i hc;obtain⟨l,fp2,h2,hl,hall⟩:=zlg n (i+1) _ _ h;refine⟨_,fp2,h2,by simp[hl],fun j hj hm=>?_⟩;cases j with
     | zero=>exact absurd hm (by simpa using hc)
     | succ j =>
       obtain⟨t',x',h3,h4⟩:=hall j (by omega) (by rw[show i+1+j=i+(j+1) by omega];exact hm);exact⟨t',x',by rw[show i+(j+1)=i+1+j by omega];exact h3,by simpa using h4⟩
theorem zml {lent:List Nat}:∀ {i:Nat} {l:List A},zmm lent i l=true->∀ (j:Nat) (x:A),l[j]?=some x->z13d lent (i+j) x=true
 | _,[],_,j,x,hj=>by simp at hj
 | i,y::l,h,j,x,hj=>by
   obtain⟨h1,h2⟩:=z7 h;cases j with
   | zero=>simp at hj;subst hj;exact h1
   | succ j =>
     have:=zml h2 j x (by simpa using hj);rw[show i+1+j=i+(j+1) by omega] at this;exact this
theorem zxh {lent:List Nat}{i:Nat}{x:A}(h:z13d lent i x=true):(i∈lent ↔ z8f x=true)/\x.refs=[]:=by
 cases x<;>simp_all [z13d,z8f,A.refs]
theorem zd9:∀ (n j:Nat),(z69 n)[j]?=if j<n then some (.tup []) else none
 | 0,j=>by simp[z69]
 | n+1,0=>by simp[z69]
 | n+1,j+1=>by simp[z69,zd9 n j]
theorem zbm:∀ n,(z69 n).length=n
 | 0=>rfl
 | n+1=>by simp[z69,zbm n]
theorem zt5 {n:Nat}:∀ {l:List Nat},zvh n l=true->∀ i∈l,i<n
 | [],_,i,hi=>by cases hi
 | f::l,h,i,hi=>by
   obtain⟨h1,h2⟩:=z7 h;rcases List.mem_cons.1 hi with rfl|hi
   . simpa using h1
   . exact zt5 h2 i hi
theorem SimD.unmark {D:Nat}{ds:List Deferred}(h:SimD c st a w S ob)(hd:a.defers=zbc D::ds):hp w D=some (.deferred (some []))/\SimD c st { a with defers:=ds } (w.putObj D (.deferred none)) S ob:=by
 obtain⟨Ds,e,hnd,hDs⟩:=h.defers;rw[hd] at e;cases Ds with
 | nil=>cases e
 | cons D' Ds =>
   have e1:D=D':=by have:=(List.cons.inj e).1;simpa[zbc] using this
   subst e1;obtain⟨k1,k2,k3,k4⟩:=hDs D (by simp);obtain⟨hnm,hnd'⟩:=List.nodup_cons.1 hnd;have hne:∀ {i b},b∈ob i->b≠D:=fun hb e=>k3 _ (by rw[<- e];exact hb)
   have hw:∀ b,b≠D->hp (w.putObj D (.deferred none)) b=hp w b:=fun b hb=>World.putObj_heap_other hb
   refine⟨k1,⟨Ds,(List.cons.inj e).2,hnd',fun B hB=>?_⟩,h.size,fun i x hx=>?_,h.refs,h.out,h.inj,h.nd,h.hid,fun b o hb=>?_,h.mono,h.fresh,h.newS,h.lent,h.frame.putObj k4 _⟩
   . obtain⟨g1,g2,g3,g4⟩:=hDs B (by simp[hB]);exact⟨by rw[hw B (fun e=>hnm (by rw[<- e];exact hB))];exact g1,g2,g3,g4⟩
   . exact (h.rel i x hx).mono (Sub.refl _) (fun b hb=>hw b (hne hb)) (fun _ _=>rfl) (fun r hr b hb=>hw b (hne (h.main hx (A.cell_refs hr) hb)))
   . rw[hw b (fun e=>by subst e;rw[k2] at hb;cases hb)];exact h.sub b o hb
theorem zds {fn:Func}{R:Ending->World->Prop}{tmps:Array Value}:∀ (ds:List Deferred) (a:Act) (w:World),a.defers=ds->a.tmps=tmps->SimD c st a w S ob →
 (∀ a' w',a'.tmps=tmps->SimD c st a' w' S ob->∃ v,(results fn tmps).run P w'=.ok v w'/\R (.returned v) w')->LeavesInM Fence.wide 0 P fn tmps R ds .returning w
 | [],a,w,hd,ht,hs,hR=>hR a w ht hs
 | d :: ds,a,w,hd,ht,hs,hR=>by
   obtain⟨Ds,e,_⟩:=hs.defers;rw[hd] at e;cases Ds with
   | nil=>cases e
   | cons D Ds =>
     have e1:=(List.cons.inj e).1;subst e1;obtain⟨k1,hs'⟩:=hs.unmark hd;exact⟨by simp,.inl ⟨D,_,rfl,run_takeDeferred k1,zds ds { a with defers:=ds } _ rfl ht hs' hR⟩⟩
def zk0 (E:Env)(w:World)(S:Hp)(vals:List Value)(ob:Nat->List Nat):Ctx:=⟨w,S,fun b=>∃ i,b∈ob i,E.lent.map (fun i=>(i,vals.getD i undef))⟩
theorem zig (hE:EnvOk P E)(hg:GlobOk E.glob S){vals:List Value}:Base P E (zk0 E w S vals ob):=⟨hE,hg,by simp[zk0,Function.comp_def]⟩
def zej (fn:Func)(vals:List Value):Act:={ tmps:=vals.toArray++Array.replicate (fn.ntmps - vals.toArray.size) undef,defers:=[] }
theorem zq7 {fn:Func} {args:List A} {vals:List Value} (hntmps:args.length<=fn.ntmps) (har:ArgsRel (hp w) S args vals ob) (hS:Sub S (hp w)) :
 Sim (zk0 E w S vals ob) (args++z69 (fn.ntmps - args.length)) (zej fn vals) w:=by
 have hlen:=har.len;have htv:∀ i,tv (zej fn vals) i=vals.getD i undef:=by
  intro i;simp only[tv,zej,Array.getD_eq_getD_getElem?,List.getD_eq_getElem?_getD];by_cases hi:i<vals.length
  . rw[Array.getElem?_append_left (by simpa using hi)];simp
  . rw[Array.getElem?_append_right (by simpa using hi),List.getElem?_eq_none (by omega)];rw[Array.getElem?_replicate];split<;>rfl
 refine⟨S,ob,⟨[],rfl,.nil,fun D hD=>by cases hD⟩,by simp[zej,zbm,hlen],?_,?_,?_,har.inj,har.nd,har.hid,hS,Sub.refl _,fun i b e=>.inl ⟨i,e⟩,fun b e=>.inl e,?_,WF.refl _ _⟩
 . intro i x hx;rw[htv];by_cases hi:i<args.length
   . rw[List.getElem?_append_left hi] at hx;obtain⟨⟨v,hv,hrel⟩,href⟩:=har.rel i x hx;rw[show vals.getD i undef=v by simp[List.getD,hv]];exact hrel.mono (Sub.refl _) (fun _ _=>rfl) (fun r hr=>by rw[href] at hr;cases hr) (fun r hr=>by have:=A.cell_refs hr;rw[href] at this;cases this)
   . rw[List.getElem?_append_right (by omega),zd9] at hx;split at hx
     . simp only[Option.some.injEq] at hx;subst hx;rw[har.out i (by omega),show vals.getD i undef=undef by simp[List.getD,List.getElem?_eq_none (by omega:vals.length<=i)]];exact⟨rfl,#[],rfl,.nil⟩
     . cases hx
 . intro i x r hx hr;by_cases hi:i<args.length
   . rw[List.getElem?_append_left hi] at hx;rw[(har.rel i x hx).2] at hr;cases hr
   . rw[List.getElem?_append_right (by omega),zd9] at hx;split at hx
     . simp only[Option.some.injEq] at hx;subst hx;cases hr
     . cases hx
 . intro i hi;exact har.out i (by simp at hi;omega)
 . intro p hp';obtain⟨i,_,rfl⟩:=List.mem_map.1 hp';exact htv i
theorem zg9 {fn:Func}{args:List A}{st1 st2:List A}{fp1:FP}{r:A}{outs:List A}{vals:List Value}{S1:Hp}{ob1:Nat->List Nat}{a':Act}{w':World}(hE:EnvOk P E)
 (hargs:zmm E.lent 0 args=true) (har:ArgsRel (hp w) S args vals ob) (hg:GlobOk E.glob S)
 (hx:zn E (zgu E fn.results.toList fn.resultTypes.toList fun x=>zlh E args.length 0 fun l=>(.ret (x,l):Cmd (A×List A))) st1 fp0=some ((r,outs),st2,fp1))
 (hs1:SimD (zk0 E w S vals ob) st1 a' w' S1 ob1):∃ v,(results fn a'.tmps).run P w'=.ok v w'/\Ends w S args vals ob r outs (.returned v) w':=by
 have haok:=fun j x hj=>zxh (by simpa using zml hargs j x hj)
 have hb:Base P E (zk0 E w S vals ob):=zig hE hg;obtain⟨x,v,o,st3,fp3,S3,ob3,h3,hs3,hS13,hres,hrel,href,hfresh,hond,hl3⟩:=zwi hx hb hs1;obtain⟨l,fp4,h4,hll,hlall⟩:=zlg _ _ _ _ h3;have h5:=z3e h4;simp only[Prod.mk.injEq] at h5;obtain⟨⟨rfl,rfl⟩,_⟩:=h5;have hmemL:∀ i,i∈E.lent->tv a' i=vals.getD i undef:=fun i hi=>hs3.lent (i,vals.getD i undef) (List.mem_map.2 ⟨i,hi,rfl⟩)
 have hbox:∀ i,i∈E.lent->i<args.length->∃ x':A,args[i]?=some x'/\z8f x'=true:=fun i hi hia=>⟨_,List.getElem?_eq_getElem hia,((haok i _ (List.getElem?_eq_getElem hia)).1).1 hi⟩
 -- what the lent boxes own now
 let ob':Nat->List Nat:=fun i=>if i∈E.lent/\i<args.length then ob3 i else []
 have hsub:∀ {i b},b∈ob' i->i∈E.lent/\b∈ob3 i:=by
  intro i b hb';simp only[ob'] at hb';split at hb'
  . rename_i hc;exact⟨hc.1,hb'⟩
  . cases hb'
 refine⟨v,hres,v,S3,o,ob',rfl,hs3.frame,hs3.mono,hs3.sub,hs3.newS,⟨hrel.mono (Sub.refl _) (fun _ _=>rfl) (fun r hr=>by rw[href] at hr;cases hr) (fun r hr=>by have:=A.cell_refs hr;rw[href] at this;cases this),href⟩,?_,hond,?_,?_,?_,?_,?_⟩
 . intro b hbo;obtain⟨t,htl,hot⟩:=hfresh b hbo;exact⟨hs3.hid _ _ hot,hs3.fresh _ _ hot⟩
 . intro i x' hx' hbx;have hia:i<args.length:=by
    rcases Nat.lt_or_ge i args.length with h|h
    . exact h
    . simp[List.getElem?_eq_none h] at hx'
   have hmem:i∈E.lent:=((haok i _ hx').1).2 hbx;obtain⟨t,y',h6,h7⟩:=hlall i hia (by simpa using hmem);rw[Nat.zero_add] at h6;obtain⟨⟨v',hv',hrel'⟩,_⟩:=har.rel i _ hx';have htvi:tv a' i=v':=by rw[hmemL i hmem];simp[List.getD,hv']
   refine⟨_,v',h7,hv',rfl,?_⟩;have hr6:=hs3.rel i _ h6;rw[htvi] at hr6;have e:ob' i=ob3 i:=by simp only[ob'];rw[if_pos ⟨hmem,hia⟩]
   rw[e];exact hr6.mono (Sub.refl _) (fun _ _=>rfl) (fun r hr=>by cases hr)
 . intro i b hi;obtain⟨hil,hi3⟩:=hsub hi;refine⟨hs3.fresh _ _ hi3,hs3.hid _ _ hi3,fun hbo=>?_⟩;obtain⟨t,htl,hot⟩:=hfresh b hbo;have:=hs3.inj _ _ _ hot hi3;subst this;exact htl hil
 . exact fun i j b hi hj=>hs3.inj i j b (hsub hi).2 (hsub hj).2
 . intro i;simp only[ob'];split
   . exact hs3.nd i
   . exact .nil
 . intro i hi;simp only[ob'];rw[if_neg];rintro⟨hil,hia⟩;obtain⟨x',hx',hbx⟩:=hbox i hil hia;obtain⟨⟨v',hv',hrel'⟩,_⟩:=har.rel i _ hx';cases x'<;>simp[z8f] at hbx
   obtain⟨b,cs,E',fr,bs,e1,_⟩:=hrel';rw[hi] at e1;cases e1
theorem z18e {f:FuncId}{fn:Func}{body:Code}{args:List A}{e:Ex}{st1 st2:List A}{fp1:FP}{r:A}{outs:List A}{vals:List Value}(hE:EnvOk P E)(hf:P.funcs[f]?=some fn)(hbody:fn.body=some body)
 (hargs:zmm E.lent 0 args=true) (hntmps:args.length<=fn.ntmps) (har:ArgsRel (hp w) S args vals ob) (hS:Sub S (hp w)) (hg:GlobOk E.glob S)
 (hwp:∀ (Q:Exit->Act->World->Prop) (a:Act) (w1:World),Sim (zk0 E w S vals ob) (args++z69 (fn.ntmps - args.length)) a w1->(∀ a' w',Sim (zk0 E w S vals ob) st1 a' w'->Q e.exit' a' w')->body.wp P Q a w1)
 (hee:e=.normal\/e=.ret)
 (hx:zn E (zgu E fn.results.toList fn.resultTypes.toList fun x=>zlh E args.length 0 fun l=>(.ret (x,l):Cmd (A×List A))) st1 fp0=some ((r,outs),st2,fp1)) :
 Calls P f vals.toArray w fun e w'=>Ends w S args vals ob r outs e w':=by
 have hs0:=zq7 (E:=E) (fn:=fn) hntmps har hS;refine callsIn_wide.1 (callsIn_of_wp_marks (n:=0) hf hbody trivial (wpIn_wide.2 (hwp _ _ _ hs0 ?_)));rintro a1 w1 ⟨S1,ob1,hs1⟩;have key:LeavesInM Fence.wide 0 P fn a1.tmps (fun e w'=>Ends w S args vals ob r outs e w') a1.defers .returning w1:=by
  refine zds a1.defers a1 w1 rfl rfl hs1 ?_;intro a' w' hta hs1;rw[<- hta];exact zg9 hE hargs har hg hx hs1
 rcases hee with rfl|rfl<;>exact key
theorem zg8 {fn:Func}{R:Ending->World->Prop}{tmps:Array Value}:∀ (ds:List Deferred) (a:Act) (w:World) (fr:Frame) (cs:List Frame),a.defers=ds->a.tmps=tmps->SimD c st a w S ob->fr.mode=.returning->fr.defers=ds->fr.tmps=tmps->P.funcs[fr.fn]?=some fn →
 (∀ a' w',a'.tmps=tmps->SimD c st a' w' S ob->∃ v,(results fn tmps).run P w'=.ok v w'/\R (.returned v) w') →
 ∃ v w' fr',R (.returned v) w'/\Steps P (lone fr cs w) (lone fr' cs w')/\fr'.kind=fr.kind/\fr'.going P w' (.returned v)
 | [],a,w,fr,cs,hd,ht,hs,hm,hfd,hft,hf,hR=>by
   obtain⟨v,hr,hv⟩:=hR a w ht hs;exact⟨v,w,fr,hv,Steps.refl P _,rfl,hm,hfd,fn,hf,by rw[hft];exact hr⟩
 | d :: ds,a,w,fr,cs,hd,ht,hs,hm,hfd,hft,hf,hR=>by
   obtain⟨Ds,e,_⟩:=hs.defers;rw[hd] at e;cases Ds with
   | nil=>cases e
   | cons D Ds =>
     have e1:=(List.cons.inj e).1;subst e1;obtain⟨k1,hs'⟩:=hs.unmark hd;have h1:=step_collected (P:=P) (cs:=cs) (fr:=fr) (by rw[hm];simp) hfd rfl (run_takeDeferred k1);obtain⟨v,w2,fr2,g1,g2,g3,g4⟩:=zg8 ds { a with defers:=ds } _ { fr with defers:=[]++ds } cs rfl ht hs' hm rfl hft hf hR;exact⟨v,w2,fr2,g1,.head h1 g2,g3,g4⟩
theorem z12v {f:FuncId}{fn:Func}{body:Code}{args:List A}{e:Ex}{st1 st2:List A}{fp1:FP}{r:A}{outs:List A}{vals:List Value}(hE:EnvOk P E)(hf:P.funcs[f]?=some fn)(hbody:fn.body=some body)
 (hargs:zmm E.lent 0 args=true) (hntmps:args.length<=fn.ntmps) (har:ArgsRel (hp w) S args vals ob) (hS:Sub S (hp w)) (hg:GlobOk E.glob S)
 (hwp:∀ (Q:Exit->Act->World->Prop) (a:Act) (w1:World),Sim (zk0 E w S vals ob) (args++z69 (fn.ntmps - args.length)) a w1->(∀ a' w',Sim (zk0 E w S vals ob) st1 a' w'->Q e.exit' a' w')->body.wp P Q a w1)
 (hee:e=.normal\/e=.ret)
 (hx:zn E (zgu E fn.results.toList fn.resultTypes.toList fun x=>zlh E args.length 0 fun l=>(.ret (x,l):Cmd (A×List A))) st1 fp0=some ((r,outs),st2,fp1)) :
 CallsD P f vals.toArray .returning w fun e u' w'=>u'=.returning/\Ends w S args vals ob r outs e w':=by
 have hs0:=zq7 (E:=E) (fn:=fn) hntmps har hS;intro c₀ cs hu
 let b:Frame:={ (default:Frame) with fn:=f,kind:=.deferred }
 have henter:Frame.enter P f vals.toArray .deferred=b.at (zej fn vals) [.code body]:=by
  simp[Frame.enter,Frame.at,hf,hbody,b,zej]
 have hc:({ c₀ with mode:=.returning }:Frame)=c₀:=by rw[<- hu]
 obtain⟨e',a',w',hq,harr⟩:=hwp (fun ex a1 w1=>ex=e.exit'/\Sim (zk0 E w S vals ob) st1 a1 w1) _ _ hs0 (fun a' w' h=>⟨rfl,h⟩) b [] (c₀::cs);rw[<- henter] at harr;obtain⟨rfl,S1,ob1,hs1⟩:=hq;rcases hee with rfl|rfl
 . obtain⟨v,w2,fr2,g1,g2,g3,g4⟩:=zg8 (fn:=fn) (R:=fun e w'=>Ends w S args vals ob r outs e w') a'.defers a' w' { b.at a' [] with mode:=.returning } (c₀::cs) rfl rfl hs1 rfl rfl rfl hf (fun a2 w2 h2 hs2=>by rw[<- h2];exact zg9 hE hargs har hg hx hs2);exact⟨.returned v,.returning,w2,fr2,⟨rfl,g1⟩,(by rw[hc];exact Steps.trans (Steps.trans harr (.one step_end)) g2),g3,g4⟩
 . obtain⟨todo,hs₀⟩:=harr;obtain⟨v,w2,fr2,g1,g2,g3,g4⟩:=zg8 (fn:=fn) (R:=fun e w'=>Ends w S args vals ob r outs e w') a'.defers a' w' { b.at a' todo with mode:=.returning } (c₀::cs) rfl rfl hs1 rfl rfl rfl hf (fun a2 w2 h2 hs2=>by rw[<- h2];exact zg9 hE hargs har hg hx hs2);exact⟨.returned v,.returning,w2,fr2,⟨rfl,g1⟩,(by rw[hc];exact Steps.trans hs₀ g2),g3,g4⟩
end
end
end Go.Lift
