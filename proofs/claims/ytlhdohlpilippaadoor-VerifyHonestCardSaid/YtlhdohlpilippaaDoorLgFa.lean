import Derived.Test.YtlhdohlpilippaaDoorLgF
set_option linter.all false
namespace Go.Lift
noncomputable section
theorem RdO.move {m m':Nat×Nat}{h S:Hp}:∀ (t:T) (x:t.den) (cs:List Value) (bs:List Nat),z7y t=true->RdO m h S t x cs bs->RdO m' h S t x cs bs
 | .pair a b,_,_,_,hn,⟨c1,c2,b1,b2,e,e',h1,h2⟩=>⟨c1,c2,b1,b2,e,e',RdO.move a _ _ _ (z7 hn).1 h1,RdO.move b _ _ _ (z7 hn).2 h2⟩
 | .self _,_,_,_,hn,_=>by simp[z7y] at hn
 | .own _,_,_,_,_,hr=>hr
 | .int _,_,_,_,_,hr=>hr
 | .bool,_,_,_,_,hr=>hr
 | .str,_,_,_,_,hr=>hr
 | .opq,_,_,_,_,hr=>hr
 | .unit,_,_,_,_,hr=>hr
 | .arr _ _,_,_,_,_,hr=>hr
 | .sl _,_,_,_,_,hr=>hr
 | .ptr _,_,_,_,_,hr=>hr
 | .any,_,_,_,_,hr=>hr
 | .byt _,_,_,_,_,hr=>hr
 | .fn _ _,_,_,_,_,hr=>hr
 | .ifc _ _,_,_,_,_,hr=>hr
 | .nod,_,_,_,_,hr=>hr
 | .mp _ _,_,_,_,_,hr=>hr
 | .nb _,_,_,_,_,hr=>hr
theorem RdO.one {m:Nat×Nat}{h S:Hp}{t:T}{x:t.den}{v:Value}{bs:List Nat}(ht:t.isAgg=false)(hr:RdO m h S t x [v] bs):v.oneCell'=true:=by
 cases t<;>simp[T.isAgg] at ht
 case own=>obtain⟨u,e,hr⟩:=hr;cases e;exact hr.one
 case mp=>obtain⟨u,e,hr⟩:=hr;cases e;exact hr.one
 case nb=>rcases hr with⟨_,e,_⟩|⟨_,_,_,_,_,_,_,e,_⟩<;>cases e<;>rfl
 case self=>obtain⟨_,u,e,_,hu⟩:=hr;cases e;rcases hu with rfl|rfl<;>rfl
 all_goals exact Rd.oneCell (by rfl) hr.2
theorem VRO.cells {h S:Hp}{t:T}{x:t.den}{v:Value}{o:List Nat}(hr:VRO h S t x v o):RdO (0,0) h S t x v.cells.toList o:=by
 unfold VRO at hr;split at hr
 . obtain⟨cs,rfl,hr⟩:=hr;exact hr
 . rename_i ht;rw[z63 (RdO.one (by simpa using ht) hr)];exact hr
theorem VRO.of_agg {h S:Hp}{t:T}{x:t.den}{cs:Array Value}{o:List Nat}(ht:t.isAgg=true)(hr:RdO (0,0) h S t x cs.toList o):VRO h S t x (.agg cs) o:=by
 unfold VRO;rw[if_pos ht];exact⟨cs,rfl,hr⟩
theorem VRO.of_one {h S:Hp}{t:T}{x:t.den}{v:Value}{o:List Nat}(ht:t.isAgg=false)(hr:RdO (0,0) h S t x [v] o):VRO h S t x v o:=by
 unfold VRO;rw[if_neg (by simp[ht])];exact hr
theorem VRO.of_vr {h S:Hp}{t:T}{x:t.den}{v:Value}(hr:VR S t x v):VRO h S t x v []:=by
 unfold VR at hr;split at hr
 . rename_i ht;obtain⟨cs,rfl,hr⟩:=hr;exact VRO.of_agg ht (RdO.of_rd _ _ _ hr)
 . rename_i ht;exact VRO.of_one (by simpa using ht) (RdO.of_rd _ _ _ hr)
theorem VRO.vr {h S:Hp}{t:T}{x:t.den}{v:Value}{o:List Nat}(hn:noOwn t=true)(hr:VRO h S t x v o):o=[]/\VR S t x v:=by
 unfold VRO at hr;split at hr
 . rename_i ht;obtain⟨cs,rfl,hr⟩:=hr;obtain⟨e,hr⟩:=hr.rd _ _ _ _ hn;exact⟨e,VR.of_agg ht hr⟩
 . rename_i ht;obtain⟨e,hr⟩:=hr.rd _ _ _ _ hn;exact⟨e,VR.of_one (by simpa using ht) hr⟩
def Float (c:Ctx)(S:Hp)(ob:Nat->List Nat)(o:List Nat):Prop:=o.Nodup/\∀ b∈o,(∀ i,b∉ob i)/\S b=none/\(c.B0 b\/c.w0.heap.size<=b)
section
variable {P:Program} {E:Env} {c:Ctx} {st st':List A} {fp fp':FP} {a:Act} {w w':World} {S:Hp} {ob:Nat->List Nat} {o:Oper}
theorem Float.nil:Float c S ob []:=⟨.nil,fun b h=>by cases h⟩
theorem SimD.float (h:SimD c st a w S ob){s:Nat}{o:List Nat}(ho:∀ b∈o,b∈ob s)(hn:o.Nodup):Float c S (fun i=>if i=s then [] else ob i) o :=
 ⟨hn,fun b hb=>⟨fun i hi=>by
  dsimp only at hi;split at hi
  . cases hi
  . rename_i hne;exact hne (h.inj i s b hi (ho b hb)),h.hid s b (ho b hb),h.fresh s b (ho b hb)⟩⟩
theorem znd {α:Type} {r:α×List A×FP} {A:Lift.A} {u:T} {v:Value} {k:u.den->Cmd α} (h:zn E (zun A u k) st fp=some r) (hs:SimD c st a w S ob) (hA:ARel (hp w) S (tv a) A v []) :
 ∃ x st' fp' o ob',zn E (k x) st' fp'=some r/\SimD c st' a w S ob'/\VRO (hp w) S u x v o/\Float c S ob' o/\(∀ i b,b∈ob' i->b∈ob i)/\(∀ b∈o,∃ i,b∈ob i)/\st'.length=st.length:=by
 unfold zun at h;split at h
 . rename_i s;obtain⟨fp1,h⟩:=zy h;have hdrop:∀ {x:A},st.getD s .dead=x->x ≠ .dead->∀ {o:List Nat},ob s=o->∃ ob',SimD c (z5p st s .dead) a w S ob'/\Float c S ob' o/\(∀ i b,b∈ob' i->b∈ob i)/\∀ b∈o,∃ i,b∈ob i:=by
    intro x hx hne o ho;have hlt:=z89 hx hne;refine⟨_,hs.drop hlt,hs.float (fun b hb=>by rw[ho];exact hb) (by rw[<- ho];exact hs.nd s),fun i b hi=>?_,fun b hb=>⟨s,by rw[ho];exact hb⟩⟩;split at hi
    . cases hi
    . exact hi
   generalize hy:st.getD s .dead=y at h;cases y<;>dsimp only at h<;>(try exact (z6 h).elim)
   case ov t x =>
    split at h
    . rename_i x' hx;obtain⟨_,fp2,h⟩:=z4a h;obtain⟨e,e'⟩:=z12 hx;subst e;subst e';obtain⟨_,hr⟩:=hs.rel s _ (zm hy (by simp));obtain⟨ob',h1,h2,h3,h4⟩:=hdrop hy (by simp) rfl;exact⟨_,_,fp2,ob s,ob',h,h1,by rw[hA.1];exact hr,h2,h3,h4,z1u _ _ _⟩
    . exact (z6 h).elim
   case row t xs =>
    split at h
    . rename_i w' k;split at h
      . rename_i xs' hx;obtain⟨_,fp2,h⟩:=z4a h;obtain⟨e,e'⟩:=z12 hx;cases e;subst e';have hr:=hs.rel s _ (zm hy (by simp));obtain⟨ob',h1,h2,h3,h4⟩:=hdrop hy (by simp) rfl;exact⟨_,_,fp2,ob s,ob',h,h1,by rw[hA.1];exact VRO.of_one rfl ⟨_,rfl,hr⟩,h2,h3,h4,z1u _ _ _⟩
      . exact (z6 h).elim
    . exact (z6 h).elim
   case box t x =>
    split at h
    . rename_i w' k;split at h
      . rename_i x' hx;obtain⟨_,fp2,h⟩:=z4a h;obtain⟨e,e'⟩:=z12 hx;subst e;subst e';obtain⟨b,cs,E',fr,bs,hob,hv,hcs,hfr,hr⟩:=hs.rel s _ (zm hy (by simp));obtain⟨ob',h1,h2,h3,h4⟩:=hdrop hy (by simp) rfl;exact⟨_,_,fp2,ob s,ob',h,h1,by rw[hA.1];exact VRO.of_one rfl (.inr ⟨_,b,cs,E',fr,bs,rfl,by rw[hv],hob,hcs,hfr,hr⟩),h2,h3,h4,z1u _ _ _⟩
      . exact (z6 h).elim
    . exact (z6 h).elim
 . split at h
   . exact⟨_,st,fp,[],ob,h,hs,by rw[hA.1];exact VRO.of_one rfl ⟨_,rfl,.inl ⟨rfl,⟨_,rfl,fun _ _=>rfl⟩,rfl⟩⟩,Float.nil,fun _ _ h=>h,(fun b hb=>by cases hb),rfl⟩
   . exact (z6 h).elim
 . split at h
   . have:=VR.opq_inv hA.1;exact⟨_,st,fp,[],ob,h,hs,by rw[this];exact VRO.of_one rfl ⟨_,rfl,.inl ⟨rfl,rfl,rfl⟩⟩,Float.nil,fun _ _ h=>h,(fun b hb=>by cases hb),rfl⟩
   . have:=VR.opq_inv hA.1;exact⟨_,st,fp,[],ob,h,hs,by rw[this];exact VRO.of_one rfl (.inl ⟨rfl,rfl,rfl⟩),Float.nil,fun _ _ h=>h,(fun b hb=>by cases hb),rfl⟩
   . exact (z6 h).elim
 . exact (z6 h).elim
theorem Float.append {o1 o2:List Nat}{ob':Nat->List Nat}(h1:Float c S ob o1)(h2:Float c S ob' o2)(hs:∀ i b,b∈ob' i->b∈ob i)(ho:∀ b∈o2,∃ i,b∈ob i):Float c S ob' (o1++o2):=by
 refine⟨List.nodup_append.2 ⟨h1.1,h2.1,fun x hx y hy e=>?_⟩,fun b hb=>?_⟩
 . subst e;obtain⟨i,hi⟩:=ho x hy;exact (h1.2 x hx).1 i hi
 . rcases List.mem_append.1 hb with hb|hb
   . exact⟨fun i hi=>(h1.2 b hb).1 i (hs i b hi),(h1.2 b hb).2⟩
   . exact h2.2 b hb
inductive Parts1 (S:Hp) (t:T) (s:Nat->Step) (a:Act):List (Nat×Operand)->List (Nat×Operand×Option Dat)->Prop
 | nil:Parts1 S t s a [] []
 | dat {i:Nat} {x:Operand} {d:Dat} {l:List (Nat×Operand)} {l1:List (Nat×Operand×Option Dat)} (ht:z1d t [s i]=some d.1) (hv:VR S d.1 d.2 (a.eval x)) (h:Parts1 S t s a l l1):Parts1 S t s a ((i,x)::l) ((i,x,some d)::l1)
 | own {i:Nat} {x:Operand} {l:List (Nat×Operand)} {l1:List (Nat×Operand×Option Dat)} (h:Parts1 S t s a l l1):Parts1 S t s a ((i,x)::l) ((i,x,none)::l1)
theorem Parts1.mono {S S':Hp}(h:Sub S S'){t:T}{s:Nat->Step}{l:List (Nat×Operand)}{l1:List (Nat×Operand×Option Dat)}(hp:Parts1 S t s a l l1):Parts1 S' t s a l l1:=by
 induction hp with
 | nil=>exact .nil
 | dat ht hv _ ih=>exact .dat ht (hv.mono h) ih
 | own _ ih=>exact .own ih
inductive PartsO (h S:Hp) (t:T) (s:Nat->Step):List (Nat×Dat)->List (Nat×Value)->List Nat->Prop
 | nil:PartsO h S t s [] [] []
 | cons {i:Nat} {d:Dat} {v:Value} {l:List (Nat×Dat)} {vs:List (Nat×Value)} {o1 o2:List Nat} (ht:z1d t [s i]=some d.1) (hv:VRO h S d.1 d.2 v o1) (hp:PartsO h S t s l vs o2):PartsO h S t s ((i,d)::l) ((i,v)::vs) (o1++o2)
theorem zi1 {α:Type} {r:α×List A×FP} {t:T} {s:Nat->Step} (hgl:∀ {S:Hp} {ob:Nat->List Nat} {st:List A},SimD c st a w S ob->GlobOk E.glob S):∀ (ps:List (Nat×Operand)) (k:List (Nat×Operand×Option Dat)->Cmd α) (st:List A) (fp:FP) (S:Hp) (ob:Nat->List Nat),
 zn E (zqr E t s ps k) st fp=some r->SimD c st a w S ob →
 ∃ l st' fp' S' ob',zn E (k l) st' fp'=some r/\SimD c st' a w S' ob'/\Sub S S'/\Parts1 S' t s a ps l
 | [],k,st,fp,S,ob,h,hs=>⟨[],st,fp,S,ob,h,hs,Sub.refl _,.nil⟩
 | (i, x)::ps,k,st,fp,S,ob,h,hs=>by
   simp only[zqr] at h;split at h
   . rename_i u hu;split at h
     . obtain⟨A,fp1,h1,hA,hAo,hAd,hr⟩:=zw h hs (hgl hs);obtain⟨z,st1,fp2,S1,ob1,h2,hs1,hS,hv,hl⟩:=zav h1 hs hA;obtain⟨l,st2,fp3,S2,ob2,h3,hs2,hS2,hp⟩:=zi1 hgl ps _ st1 fp2 S1 ob1 h2 hs1;exact⟨_,st2,fp3,S2,ob2,h3,hs2,hS.trans hS2,.dat hu (hv.mono hS2) hp⟩
     . obtain⟨l,st2,fp3,S2,ob2,h3,hs2,hS2,hp⟩:=zi1 hgl ps _ st fp S ob h hs;exact⟨_,st2,fp3,S2,ob2,h3,hs2,hS2,.own hp⟩
   . exact (z6 h).elim
theorem zwn {α:Type}{r:α×List A×FP}{t:T}{s:Nat->Step}(hgl:GlobOk E.glob S){ps:List (Nat×Operand)}{l1:List (Nat×Operand×Option Dat)}(hq:Parts1 S t s a ps l1):∀ (k:List (Nat×Dat)->Cmd α) (st:List A) (fp:FP) (ob:Nat->List Nat),
 zn E (zno E t s l1 k) st fp=some r->SimD c st a w S ob →
 ∃ l st' fp' ob' o,zn E (k l) st' fp'=some r/\SimD c st' a w S ob'/\PartsO (hp w) S t s l (ps.map fun p=>(p.1,a.eval p.2)) o/\Float c S ob' o/\(∀ i b,b∈ob' i->b∈ob i)/\(∀ b∈o,∃ i,b∈ob i):=by
 induction hq with
 | nil=>intro k st fp ob h hs;exact⟨[],st,fp,ob,[],h,hs,.nil,Float.nil,fun _ _ h=>h,fun b hb=>by cases hb⟩
 | @dat i x d ps l1 ht hv hq ih =>
   intro k st fp ob h hs;simp only[zno] at h;obtain⟨l,st',fp',ob',o,h1,hs1,h2,h3,h4,h5⟩:=ih _ st fp ob h hs;exact⟨_,st',fp',ob',_,h1,hs1,.cons (o1:=[]) ht (VRO.of_vr hv) h2,h3,h4,h5⟩
 | @own i x ps l1 hq ih =>
   intro k st fp ob h hs;simp only[zno] at h;split at h
   . rename_i u hu;obtain⟨A,fp1,h1,hA,hAo,hAd,hr⟩:=zw h hs hgl;obtain⟨z,st1,fp2,o1,ob1,h2,hs1,hv,hF,hsub,hin,_⟩:=znd h1 hs hA;obtain⟨l,st',fp',ob',o,h3,hs2,h4,h5,h6,h7⟩:=ih _ st1 fp2 ob1 h2 hs1;refine⟨_,st',fp',ob',_,h3,hs2,.cons hu hv h4,hF.append h5 h6 h7,fun i b hb=>hsub i b (h6 i b hb),fun b hb=>?_⟩;rcases List.mem_append.1 hb with hb|hb
     . exact hin b hb
     . obtain⟨i,hi⟩:=h7 b hb;exact⟨i,hsub i b hi⟩
   . exact (z6 h).elim
theorem zo2 (off:Nat):∀ (v:List Value) (k:Nat) (cells:Array Value) (c0 c1 c2:List Value),cells.toList=c0++(c1++c2)->c0.length=off+k->c1.length=v.length →
 ((v.zipIdx k).foldl (fun cs (x:Value×Nat)=>cs.setIfInBounds (off+x.2) x.1) cells).toList=c0++(v++c2)
 | [],k,cells,c0,c1,c2,h,h0,h1=>by
   have:c1=[]:=by cases c1<;>simp_all
   subst this;simpa using h
 | x :: v,k,cells,c0,c1,c2,h,h0,h1=>by
   obtain⟨y,c1,rfl⟩:∃ y c1',c1=y::c1':=by cases c1<;>simp_all
   simp only[List.zipIdx_cons,List.foldl_cons];have:=zo2 off v (k+1) (cells.setIfInBounds (off+k) x) (c0++[x]) c1 c2 (by
    rw[Array.toList_setIfInBounds,h,<- h0,List.set_append_right _ _ (Nat.le_refl _)];simp) (by simp;omega) (by simpa using h1)
   rw[this];simp
theorem ztg {m:Nat×Nat} {hh S:Hp} {t:T} {s:Nat->Step} {place:Nat->Option (Nat×Nat)} {ok:Nat->Prop} (hm:∀ i u,z1d t [s i]=some u->z7y u=true) (hplace:∀ (i:Nat) (u:T),ok i->z1d t [s i]=some u->place i=some (z16 t [s i],u.size))
 (hin:∀ (i:Nat) (u:T) (x:t.den),ok i->z1d t [s i]=some u->inb t x [s i]=true) {l:List (Nat×Dat)} {vs:List (Nat×Value)} {o:List Nat} (hp:PartsO hh S t s l vs o) :
 (∀ i∈vs.map (·.1),ok i)->∀ (x y:t.den) (cells:Array Value) (bs:List Nat),RdO m hh S t x cells.toList bs->(bs++o).Nodup->zdj t x l s=some y →
  ∃ cells' bs',Instr.fill place cells vs=some cells'/\RdO m hh S t y cells'.toList bs'/\bs'.Nodup/\∀ k∈bs',k∈bs++o:=by
 induction hp with
 | nil=>intro _ x y cells bs hr hnd h;simp[zdj] at h;subst h;exact⟨cells,bs,rfl,hr,by simpa using hnd,fun k hk=>by simpa using hk⟩
 | @cons i d v l vs o1 o2 ht hv _ ih =>
   intro hok x y cells bs hr hnd h;have hoki:=hok i (by simp);simp only[zdj] at h;split at h
   . rename_i x1 hx1;obtain⟨c0,c1,c2,b0,b1,b2,hc,hb,hl,hr1,_,hset⟩:=zt6 t x [s i] _ _ hr (hin i d.1 x hoki ht);obtain⟨et,hr2⟩:=hset hh S (Sub.refl _) (fun _ _=>rfl) d.1 d.2 _ _ x1 hx1 (RdO.move (m':=m) _ _ _ _ (hm i _ ht) hv.cells);have hsz:v.cells.size=d.1.size:=by have:=hv.cells.length;simpa using this
     have hc1:c1.length=v.cells.toList.length:=by rw[hr1.length,<- et];simp[hsz]
     have hbound:¬ (cells.size<z16 t [s i]+v.cells.size):=by
      have h1:=congrArg List.length hc;simp at h1 hc1;omega
     have hperm:∀ k,k∈b0++(o1++b2)->k∈bs++(o1++o2):=fun k hk=>by
      rw[hb];simp at hk ⊢;rcases hk with h|h|h<;>simp[h]
     have hnd2:((b0++(o1++b2))++o2).Nodup:=by
      rw[hb] at hnd;have hp:((b0++(b1++b2))++(o1++o2)).Perm (b1++((b0++(o1++b2))++o2)):=by
       have e1:((b0++(b1++b2))++(o1++o2)).Perm (b1++((b0++b2)++(o1++o2))):=by
        rw[<- List.append_assoc b1];exact (List.perm_append_comm_assoc b0 b1 b2).append_right _
       refine e1.trans (List.Perm.append_left _ ?_);have:(b0++b2++(o1++o2)).Perm (b0++(o1++b2)++o2):=by
        have e:b0++b2++(o1++o2)=b0++(b2++o1)++o2:=by simp
        rw[e];exact ((List.perm_append_comm (l₁:=b2) (l₂:=o1)).append_left b0).append_right o2
       exact this
      exact (List.nodup_append.1 (hp.nodup_iff.1 hnd)).2.1
     obtain⟨cells',bs',hf,hr3,hn3,hm3⟩:=ih (fun j hj=>hok j (by simp at hj ⊢;exact .inr hj)) x1 y (v.cells.zipIdx.foldl (fun cs (x:Value×Nat)=>cs.setIfInBounds (z16 t [s i]+x.2) x.1) cells) _ (by
      rw[<- Array.foldl_toList,Array.toList_zipIdx,zo2 _ _ 0 cells c0 c1 c2 hc (by simpa using hl) hc1];exact hr2) hnd2 h
     refine⟨cells',bs',?_,hr3,hn3,fun k hk=>?_⟩
     . simp only[Instr.fill,hplace i d.1 hoki ht,hsz];rw[if_neg (by simp;omega)];exact hf
     . rcases List.mem_append.1 (hm3 k hk) with h|h
       . exact hperm k h
       . simp[h]
   . simp at h
theorem z15z {α:Type} {r:α×List A×FP} {b a0:A} {k:Option (Nat×Nat×List Step)->Cmd α} (h:zn E (ovF b a0 k) st fp=some r) :
 ∃ o fp',zn E (k o) st fp'=some r/\∀ s q p,o=some (s,q,p)->b=.bor s/\s≠q/\∃ t0 t z t' y,a0=.adr q t0 p/\st.getD s .dead=.ov t z/\st.getD q .dead=.box t' y/\inb t' y p=true/\z16 t0 p=z16 t' p/\(foc t' y p).1=t/\z7y t=true:=by
 unfold ovF at h;split at h
 . obtain⟨fp1,h⟩:=zy h;obtain⟨fp2,h⟩:=zy h;split at h
   . rename_i t z t' y hs hr;split at h
     . rename_i hck;obtain⟨h0,h1⟩:=z7 hck;obtain⟨h4,h5⟩:=z7 h0;obtain⟨h1,h2⟩:=z7 h1;obtain⟨h2,h3⟩:=z7 h2;unfold teq' at h1;have e:=of_decide_eq_true h1;exact⟨_,fp2,h,fun s q p e'=>by cases e';exact⟨rfl,fun e=>by subst e;simp at h3,_,_,_,_,_,rfl,hs,hr,h4,Nat.eq_of_beq_eq_true h5,e,h2⟩⟩
     . exact⟨_,fp2,h,fun s q p e=>by cases e⟩
   . exact⟨_,fp2,h,fun s q p e=>by cases e⟩
 . exact⟨_,fp,h,fun s q p e=>by cases e⟩
theorem z15y {α:Type} {r:α×List A×FP} {b a0:A} {k:Option (Nat×Nat)->Cmd α} (h:zn E (ovK b a0 k) st fp=some r) :
 ∃ o fp',zn E (k o) st fp'=some r/\∀ s q,o=some (s,q)->b=.bor s/\a0=.bor q/\s≠q/\∃ t z y,st.getD s .dead=.ov t z/\st.getD q .dead=.box t y/\z7y t=true:=by
 unfold ovK at h;split at h
 . obtain⟨fp1,h⟩:=zy h;obtain⟨fp2,h⟩:=zy h;split at h
   . rename_i t z t' y hs hr;split at h
     . rename_i hck;obtain⟨h1,h2⟩:=z7 hck;obtain⟨h2,h3⟩:=z7 h2;have e:t'=t:=by simpa[teq'] using h1
       subst e;exact⟨_,fp2,h,fun s q e=>by cases e;exact⟨rfl,rfl,fun e=>by subst e;simp at h3,_,_,_,hs,hr,h2⟩⟩
     . exact⟨_,fp2,h,fun s q e=>by cases e⟩
   . exact⟨_,fp2,h,fun s q e=>by cases e⟩
 . exact⟨_,fp,h,fun s q e=>by cases e⟩
theorem getD_lt' {st:List A}{r:Nat}{y:A}(h:st.getD r .dead=y)(hy:y ≠ .dead):r<st.length:=z89 h hy
theorem SimD.recast (hs:SimD c st a w S ob){r:Nat}{x:A}{o':List Nat}(hr:r<st.length)(hx:ARel (hp w) S (tv a) x (tv a r) o')(hxo:x.own=true)(hnd:o'.Nodup)(ho:∀ k∈o',k∈ob r):SimD c (z1j st r x) a w S (fun i=>if i=r then o' else ob i):=by
 have hxr:x.refs=[]:=by cases x<;>simp[A.own] at hxo<;>rfl
 have hsub:∀ i k,k∈(fun i=>if i=r then o' else ob i) i->k∈ob i:=fun i k hk=>by
  dsimp only at hk;split at hk
  . rename_i e;rw[e];exact ho k hk
  . exact hk
 refine⟨hs.defers.turn fun D h1 h2 h3 h4=>⟨h1,h2,fun i hi=>h3 i (hsub i D hi)⟩,by rw[z24];exact hs.size,?_,?_,fun i hi=>?_,fun i j k hi hj=>hs.inj i j k (hsub i k hi) (hsub j k hj),fun i=>?_,fun i k hi=>hs.hid i k (hsub i k hi),hs.sub,hs.mono,fun i k hi=>hs.fresh i k (hsub i k hi),hs.newS,hs.lent,hs.frame⟩
 . intro i y hy;by_cases hi:i=r
   . subst hi;rw[z3w _ _ _ hr] at hy;simp at hy;subst hy;simp only[if_true];exact hx
   . simp only[if_neg hi];rcases z41 hi hy with⟨hy',hne⟩|⟨rfl,z,hz,hzo⟩
     . exact hs.rel i y hy'
     . exact (hs.rel i z hz).nil_of_not_own hzo
 . intro i y s hy hys;have key:∀ s:Nat,(∃ z:A,st[s]?=some z/\z.own=true)->∃ z:A,(z1j st r x)[s]?=some z/\z.own=true:=by
    intro s ⟨z,hz,hzo⟩;by_cases hs':s=r
    . subst hs';exact⟨x,z3w _ _ _ hr,hxo⟩
    . refine⟨zh1 r z,by rw[z1j,List.getElem?_set_ne (Ne.symm hs'),List.getElem?_map,hz];rfl,by rw[zlt];exact hzo⟩
   by_cases hi:i=r
   . subst hi;rw[z3w _ _ _ hr] at hy;simp at hy;subst hy;rw[hxr] at hys;cases hys
   . rcases z41 hi hy with⟨hy',_⟩|⟨rfl,_⟩
     . exact key s (hs.refs i y s hy' hys)
     . simp[A.refs] at hys
 . rw[z24] at hi;simp only[if_neg (show ¬ i=r by omega)];exact hs.out i hi
 . split
   . exact hnd
   . exact hs.nd i
theorem SimD.recast1 (hs:SimD c st a w S ob){r:Nat}{x:A}(hr:r<st.length)(hx:ARel (hp w) S (tv a) x (tv a r) (ob r))(hxo:x.own=true):SimD c (z1j st r x) a w S ob:=by
 have:=hs.recast hr hx hxo (hs.nd r) (fun k hk=>hk);have e:(fun i=>if i=r then ob r else ob i)=ob:=by funext i;split<;>simp_all
 rwa [e] at this
theorem z103:∀ (t:T),(fgt t).isAgg=t.isAgg:=by
 intro t;cases t<;>rfl
theorem VRO.fgt {h S:Hp}{t:T}{x:t.den}{v:Value}{o:List Nat}(hr:VRO h S t x v o):VRO h S (Lift.fgt t) (z104 t x) v []:=by
 unfold VRO at hr;split at hr
 . rename_i ht;obtain⟨cs,rfl,hr⟩:=hr;exact VRO.of_agg (by rw[z103];exact ht) (RdO.fgt _ _ _ _ hr)
 . rename_i ht;exact VRO.of_one (by rw[z103];simpa using ht) (RdO.fgt _ _ _ _ hr)
theorem OTup.part {h S:Hp}:∀ {l:List Dat} {vs:List Value} {o:List Nat} {i:Nat} {z:Dat},OTup h S l vs o->l[i]?=some z →
 ∃ v o1 o2,vs[i]?=some v/\VRO h S z.1 z.2 v o1/\OTup h S (l.set i ⟨Lift.fgt z.1,z104 z.1 z.2⟩) vs o2/\o.Perm (o1++o2)
 | [],_,_,_,_,_,e=>by simp at e
 | d::l,_,_,0,z,⟨v,vs',o1,o2,e1,e2,h1,h2⟩,e=>by
   simp at e;subst e;exact⟨v,o1,o2,by rw[e1];rfl,h1,⟨v,vs',[],o2,e1,rfl,h1.fgt,h2⟩,by rw[e2]⟩
 | d::l,_,_,i+1,z,⟨v,vs',o1,o2,e1,e2,h1,h2⟩,e=>by
   obtain⟨v',p1,p2,h3,h4,h5,h6⟩:=OTup.part h2 (i:=i) (by simpa using e);refine⟨v',p1,o1++p2,by rw[e1];simpa using h3,h4,⟨v,vs',o1,p2,e1,rfl,h1,h5⟩,?_⟩;rw[e2];exact (h6.append_left o1).trans (List.perm_append_comm_assoc _ _ _)
theorem OTup.plain {h S:Hp}{l:List Dat}{vs:List Value}{o:List Nat}{i:Nat}{z:Dat}(ht:OTup h S l vs o)(hz:l[i]?=some z)(hn:noOwn z.1=true):∃ v,vs[i]?=some v/\VR S z.1 z.2 v:=by
 obtain⟨v,o1,o2,h1,h2,_⟩:=ht.part hz;exact⟨v,h1,(h2.vr hn).2⟩
theorem zgq {i:TypeId}{e:TyI}(h:TyOk P i e){b off:Nat}{cs:Array Value}{E:TypeId}{fr:Nat×Nat}{c0 c1 c2:List Value}{v:Value}
 (hb:hp w b=some (.cells cs E fr)) (hf:Free cs fr) (hc:cs.toList=c0++(c1++c2)) (h0:c0.length=off) (h1:c1.length=e.t.size) (hlen:v.cells.toList.length=e.t.size) (hv:∀ u∈v.cells.toList,u.oneCell'=true) :
 ∃ w' cs',(storeVar i ⟨b,off,none⟩ v).run P w=.ok () w'/\cs'.toList=c0++(v.cells.toList++c2)/\w'=z19 w b (.cells cs' E fr):=by
 obtain⟨w',cs',hrun,hcs,hw⟩:=z2w (P:=P) v.cells.toList 0 off cs w c0 c1 c2 hb hf hc (by simpa using h0) (by rw[h1,hlen]) hv;refine⟨w',cs',?_,hcs,hw⟩;have:v.cells.size=e.size:=by rw[<- h.size,<- hlen];simp
 simp only[storeVar,Sem.run_bind,z13 h,Result.andThen_ok,this,ne_eq,not_true_eq_false,if_false];exact hrun
theorem RdO.ones {m:Nat×Nat}{h S:Hp}:∀ (t:T) (x:t.den) (cs:List Value) (bs:List Nat),RdO m h S t x cs bs->∀ v∈cs,v.oneCell'=true
 | .pair a b,_,_,_,⟨c1,c2,b1,b2,e,e',h1,h2⟩,v,hv=>by
   rw[e,List.mem_append] at hv;exact hv.elim (RdO.ones a _ _ _ h1 v) (RdO.ones b _ _ _ h2 v)
 | .own _,_,_,_,⟨u,e,hr⟩,v,hv=>by rw[e,List.mem_singleton] at hv;rw[hv];exact hr.one
 | .mp _ _,_,_,_,⟨u,e,hr⟩,v,hv=>by rw[e,List.mem_singleton] at hv;rw[hv];exact hr.one
 | .nb _,_,_,_,hr,v,hv=>by
   rcases hr with⟨_,e,_⟩|⟨_,_,_,_,_,_,_,e,_⟩<;>(rw[e,List.mem_singleton] at hv;rw[hv];rfl)
 | .self _,_,_,_,⟨_,u,e,_,hu⟩,v,hv=>by
   rw[e,List.mem_singleton] at hv;rw[hv];rcases hu with rfl|rfl<;>rfl
 | .int _,_,_,_,hr,v,hv=>hr.2.ones _ _ _ v hv
 | .bool,_,_,_,hr,v,hv=>hr.2.ones _ _ _ v hv
 | .str,_,_,_,hr,v,hv=>hr.2.ones _ _ _ v hv
 | .opq,_,_,_,hr,v,hv=>hr.2.ones _ _ _ v hv
 | .unit,_,_,_,hr,v,hv=>hr.2.ones _ _ _ v hv
 | .arr _ _,_,_,_,hr,v,hv=>hr.2.ones _ _ _ v hv
 | .sl _,_,_,_,hr,v,hv=>hr.2.ones _ _ _ v hv
 | .ptr _,_,_,_,hr,v,hv=>hr.2.ones _ _ _ v hv
 | .any,_,_,_,hr,v,hv=>hr.2.ones _ _ _ v hv
 | .byt _,_,_,_,hr,v,hv=>hr.2.ones _ _ _ v hv
 | .fn _ _,_,_,_,hr,v,hv=>hr.2.ones _ _ _ v hv
 | .ifc _ _,_,_,_,hr,v,hv=>hr.2.ones _ _ _ v hv
 | .nod,_,_,_,hr,v,hv=>hr.2.ones _ _ _ v hv
theorem z6c {r:Nat}{es:Array MapEntry}{cl:Nat}(h:hp w r=some (.map es cl)):(getObj r).run P w=.ok (.map es cl) w:=by
 simp only[hp] at h;simp[getObj,Sem.run,h]
theorem Ents.length {S:Hp}{k v:T}:∀ {xs:List (k.den×v.den)} {es:List MapEntry},Ents S k v xs es->es.length=xs.length
 | [],_,e=>by rw[show _=[] from e];rfl
 | _::_,_,⟨e,es',e1,_,_,h3⟩=>by rw[e1,List.length_cons,List.length_cons,Ents.length h3]
theorem zi5 {α:Type} {res:α×List A×FP} {A:Lift.A} {v:Value} {k:(p q:T)->Option (List (p.den×q.den))->(Option (List (p.den×q.den))->Cmd α->Cmd α)->Cmd α} (h:zn E (mpK A k) st fp=some res) (hs:SimD c st a w S ob) (hA:ARel (hp w) S (tv a) A v []) :
 ∃ p q m put fp',zn E (k p q m put) st fp'=some res/\∃ o,MpRel (hp w) S p q m v o/\(∀ b∈o,∃ i,b∈ob i) ∧
   ∀ (m':Option (List (p.den×q.den))) (cc:Cmd α) (fp1:FP),zn E (put m' cc) st fp1=some res->∃ st' fp2,zn E cc st' fp2=some res ∧
     ∀ (w':World),MpRel (hp w') S p q m' v o->(∀ b',b'∉o->hp w' b'=hp w b')->WF c.w0 c.B0 w'->o≠[]->SimD c st' a w' S ob:=by
 unfold mpK at h;split at h
 . rename_i r;obtain⟨fp1,h⟩:=zy h;generalize hy:st.getD r .dead=y at h;cases y<;>dsimp only at h<;>(try exact (z6 h).elim)
   case ov t x =>
    split at h
    . rename_i p q m;obtain⟨_,hr⟩:=hs.rel r _ (zm hy (by simp));unfold VRO at hr;simp only[T.isAgg,Bool.false_eq_true,if_false] at hr;obtain⟨u,e,hm⟩:=hr;have hvu:v=u:=by rw[hA.1];simpa using e
      subst hvu;refine⟨p,q,m,_,fp1,h,ob r,hm,fun b hb=>⟨r,hb⟩,fun m' cc fp2 h2=>?_⟩;obtain⟨hlt,fp3,h3⟩:=z1b h2;refine⟨_,fp3,h3,fun w' hm' hsame hf hne=>?_⟩;obtain⟨b,hb⟩:∃ b,ob r=[b]:=by
       rcases hm with⟨_,_,e⟩|⟨_,b,_,_,_,e,_⟩
       . exact absurd e hne
       . exact⟨b,e⟩
      exact hs.content (w':=w') hlt (b:=b) (by rw[hb];simp) ⟨rfl,VRO.of_one rfl ⟨_,by rw[<- hA.1],hm'⟩⟩ rfl (fun b' hb'=>hsame b' (by rw[hb];simpa using hb')) hf
    . exact (z6 h).elim
 . rename_i r n p0;obtain⟨fp1,h⟩:=zy h;generalize hy:st.getD r .dead=y at h;cases y<;>dsimp only at h<;>(try exact (z6 h).elim)
   case box t x =>
    split at h
    . rename_i hck;obtain⟨hin,hn⟩:=z7 hck;have hn:=Nat.eq_of_beq_eq_true hn;split at h
      . rename_i p q m hf;obtain⟨b,cs,E',fr,bs,hob,hv,hcs,hfr,hr⟩:=hs.rel r _ (zm hy (by simp));obtain⟨c0,c1,c2,b0,b1,b2,hc,hb,hl,hfo,hput,_⟩:=zt6 t x p0 _ _ hr hin;rw[hf] at hfo;obtain⟨u,e1,hm⟩:=hfo;obtain⟨_,b',cs',E'',fr',hbl,hcs',hcell⟩:=hA;have:b'=b:=by rw[hv] at hbl;simpa[z1q] using hbl.symm
        subst this;rw[hcs] at hcs';cases hcs';have ev:v=u:=by
         rw[<- Array.getElem?_toList,hc,List.getElem?_append_right (by omega),hl,<- hn,Nat.sub_self,e1] at hcell;simpa using hcell.symm
        subst ev;refine⟨p,q,m,_,fp1,h,b1,hm,fun k hk=>⟨r,by rw[hob,hb];simp[hk]⟩,fun m' cc fp2 h2=>?_⟩;split at h2
        . rename_i z hz;obtain⟨hlt,fp3,h3⟩:=z1b h2;refine⟨_,fp3,h3,fun w' hm' hsame hwf hne=>?_⟩;obtain⟨b2',hb2⟩:∃ b,b1=[b]:=by
           rcases hm with⟨_,_,e⟩|⟨_,b,_,_,_,e,_⟩
           . exact absurd e hne
           . exact⟨b,e⟩
          have hnd:=hs.nd r;rw[hob,hb,hb2] at hnd;have hne1:b'≠b2':=fun e=>by
           subst e;exact (List.nodup_cons.1 hnd).1 (by simp)
          have hnb:∀ k∈b0++b2,k≠b2':=fun k hk e=>by
           subst e;have h1:=(List.nodup_cons.1 hnd).2;rw[List.nodup_append] at h1;rcases List.mem_append.1 hk with hk|hk
           . exact h1.2.2 k hk k (by simp) rfl
           . exact (List.nodup_cons.1 h1.2.1).1 hk
          refine hs.content (w':=w') hlt (b:=b2') (by rw[hob,hb,hb2];simp) ⟨b',cs,E',fr,bs,hob,hv,by rw[hsame b' (by rw[hb2];simpa using hne1)];exact hcs,hfr,?_⟩ rfl (fun k hk=>hsame k (by rw[hb2];simpa using hk)) hwf;rw[hc,hb];exact hput (hp w') S (Sub.refl _) (fun k hk=>hsame k (by rw[hb2];simpa using hnb k hk)) _ _ _ _ z hz ⟨_,e1,hm'⟩
        . exact (z6 h2).elim
      . exact (z6 h).elim
    . exact (z6 h).elim
 . exact (z6 h).elim
end
end
end Go.Lift
